/-
  VarOf, KdEnv, in one text.
-/
import Derived.OpenShut
import Derived.ChangeSame
import Derived.MakeChecks
import Derived.RowKit
import Derived.Test.YtomakklbfjkdpabDoorCards
import Derived.Test.YtomakklbfjkdpabDoorTie
import Derived.Test.YtomakklbfjkdpabDoorKdRule
import Derived.Test.YtomakklbfjkdpabDoorColsOpen
import Derived.LaidHandle
import Derived.LaidSub
import Derived.ProofKit
import Derived.SizedLaws
import Derived.Stop.LaidErr
import Derived.Stop.Joined
import Derived.Lib.SmallJoins
import Derived.Deep.DeepHandedRow
namespace Go.Proofs.YtomakklbfjkdpabDoor
open Go.RowKit

/-- The cell at a place of a datum of numbers and texts. -/
def cellAt (P : Program) : Nat → TypeId → DataW Unit → Nat → Option Value
  | 0, _, _, _ => none
  | f + 1, t, d, i =>
    match P.underlying t, d with
    | some (.int k), .lit (.int _ n) => if i = 0 then some (.int k n) else none
    | some .string, .lit (.string l) => if i = 0 then some (.string ⟨l.toArray⟩) else none
    | some (.array n e), .agg l => if i / P.cellsOf e < n ∧ i % P.cellsOf e < P.cellsOf e then (l[i / P.cellsOf e]?).bind fun d' => cellAt P f e d' (i % P.cellsOf e) else none
    | some (.struct fs), .agg l =>
      (fs[(fs.toList.findIdx fun g => decide (i < g.offset + P.cellsOf g.type))]?).bind fun g =>
        if g.offset ≤ i ∧ i < g.offset + P.cellsOf g.type then (l[(fs.toList.findIdx fun g => decide (i < g.offset + P.cellsOf g.type))]?).bind fun d' => cellAt P f g.type d' (i - g.offset) else none
    | _, _ => none
theorem chunk_at {cs : List Value} {o k i : Nat} {v : Value} (hk : i < k) (h : ((cs.drop o).take k)[i]? = some v) : cs[o + i]? = some v := by
  rw [List.getElem?_take, if_pos hk, List.getElem?_drop] at h
  exact h
theorem cellAt_trod {P : Program} {W : World} {enc : TypeId × Value → Unit} {base : Nat} {spare : Nat → Bool} {held : Bool} : ∀ (f : Nat) (t : TypeId) (d : DataW Unit) (i : Nat) (v : Value) (fuel : Nat) (cs : List Value) (ps : List MemPlace),
    DataW.trod enc P W base spare held fuel t cs = some (d, ps) → cellAt P f t d i = some v → cs[i]? = some v
  | 0, _, _, _, _, _, _, _, _, h => by simp [cellAt] at h
  | f + 1, t, d, i, v, fuel, cs, ps, ht, h => by
    unfold cellAt at h
    split at h
    · rename_i k _ n hu
      split at h
      · rename_i hi
        subst hi
        cases fuel with
        | zero => simp [DataW.trod] at ht
        | succ m =>
          unfold DataW.trod at ht
          rw [hu] at ht
          split at ht <;> simp_all
      · simp at h
    · rename_i l hu
      split at h
      · rename_i hi
        subst hi
        obtain ⟨s, rfl, hx, _⟩ := DataW.trod_string hu ht
        simp at hx h ⊢
        rw [← h, hx.1]
      · simp at h
    · rename_i n e l hu
      split at h
      · rename_i hi
        obtain ⟨xs, m, _, hx, _, hl, hel⟩ := DataW.trod_array hu ht
        simp only [Prod.mk.injEq, DataW.agg.injEq] at hx
        obtain ⟨rfl, rfl⟩ := hx
        rw [Option.bind_eq_some_iff] at h
        obtain ⟨d', hd, h⟩ := h
        have hlt : i / P.cellsOf e < xs.length := by omega
        rw [List.getElem?_map, List.getElem?_eq_getElem hlt] at hd
        have h2 := hel _ hi.1
        rw [List.getElem?_eq_getElem hlt] at h2
        simp only [Option.map_some, Option.some.injEq] at hd
        subst hd
        have h3 := cellAt_trod f e _ _ v _ _ _ h2 h
        have h4 := chunk_at hi.2 h3
        rwa [Nat.mul_comm, Nat.div_add_mod] at h4
      · simp at h
    · rename_i fs l hu
      rw [Option.bind_eq_some_iff] at h
      obtain ⟨g, hg, h⟩ := h
      split at h
      · rename_i hi
        obtain ⟨xs, m, _, hx, _, hl, hel⟩ := DataW.trod_struct hu ht
        simp only [Prod.mk.injEq, DataW.agg.injEq] at hx
        obtain ⟨rfl, rfl⟩ := hx
        rw [Option.bind_eq_some_iff] at h
        obtain ⟨d', hd, h⟩ := h
        have h2 := hel _ g hg
        rw [List.getElem?_map, Option.map_eq_some_iff] at hd
        obtain ⟨y, hy, rfl⟩ := hd
        rw [hy] at h2
        have h3 := cellAt_trod f g.type _ _ v _ _ _ h2 h
        have h4 := chunk_at (by omega) h3
        rwa [show g.offset + (i - g.offset) = i by omega] at h4
      · simp at h
    · simp at h
theorem var_row {P : Program} {W : World} {n : String} {cs : Array Value} {g : Nat} (h : W.var? P n = some cs) (hg : P.globalNamed n = some g) : ∃ t fr, W.heap[g]? = some (.cells cs t fr) := by
  unfold World.var? at h
  simp only [hg, Option.bind_some] at h
  split at h
  · rename_i c t fr he
    obtain rfl := Option.some.inj h
    exact ⟨t, fr, he⟩
  · simp at h
theorem var_of {P : Program} {W : World} {nm : String} {d : DataW Unit} {rest : List (String × DataW Unit)} {g : Nat} {t e : TypeId} {n : Nat} (C : Array Value)
    (h : laidMet P ((nm, d) :: rest) W) (hg : P.globalNamed nm = some g) (ht : (P.globals[g]?).map (·.type) = some t) (hu : P.underlying t = some (.array n e)) (hc : P.cellsOf t = C.size)
    (hC : (List.range C.size).map (cellAt P 8 t d) = C.toList.map some) : ∃ tt fr, W.heap[g]? = some (.cells C tt fr) := by
  obtain ⟨ps, ⟨g', t', cs, fuel, p, q, hg', ht', hvar, hd, _, _⟩, _⟩ := h
  obtain rfl := Option.some.inj (hg.symm.trans hg')
  obtain rfl := Option.some.inj (ht.symm.trans ht')
  obtain ⟨_, _, _, _, hl, _, _⟩ := DataW.trod_array hu hd
  have hcs : cs = C := by
    apply Array.ext'
    apply List.ext_getElem?
    intro i
    by_cases hi : i < C.size
    · have h1 : ((List.range C.size).map (cellAt P 8 t d))[i]? = (C.toList.map some)[i]? := by rw [hC]
      rw [List.getElem?_map, List.getElem?_range hi, List.getElem?_map, Array.getElem?_toList, Array.getElem?_eq_getElem hi] at h1
      simp only [Option.map_some, Option.some.injEq] at h1
      rw [cellAt_trod 8 t d i _ _ _ _ hd h1, Array.getElem?_toList, Array.getElem?_eq_getElem hi]
    · rw [List.getElem?_eq_none (by omega), List.getElem?_eq_none (by simpa using hi)]
  subst hcs
  exact var_row hvar hg
end Go.Proofs.YtomakklbfjkdpabDoor
namespace Go.Proofs.YtomakklbfjkdpabDoor
open Go.ChangeShapes Go.WideShapes Go.ChangeAt Go.RowKit Go.Joins
open Go.ChangeMaps (open_string shut_string)

namespace kindEnv
/-- The row whose list is read; those of the other rows are the same. -/
abbrev kRow := Rows.evalSidesUptoRow
theorem own : ownKnob Tryd.prog.godebug = none := by kernel_rfl
theorem var_lt {P : Program} {W : World} {n : String} {cs : Array Value} {g : Nat} (h : W.var? P n = some cs) (hg : P.globalNamed n = some g) : g < W.heap.size := by
  unfold World.var? at h
  simp only [hg, Option.bind_some] at h
  rcases Nat.lt_or_ge g W.heap.size with h' | h'
  · exact h'
  · simp [Array.getElem?_eq_none h'] at h
theorem et : Tryd.prog.globalNamed "errors.errorType" = some 0 := by kernel_rfl
theorem rt : (Tryd.prog.cutTypes.find? (·.1 == "internal/reflectlite.rtype")).map (·.2) = some 116 := by kernel_rfl
theorem oneRow : ((List.range 164).filter fun t => Tryd.prog.rowNamed t [101, 114, 114, 111, 114]) = [32] := by kernel_rfl
theorem size : Tryd.prog.types.size = 164 := by kernel_rfl
/-- What the row's list gives: the handle's one cell. -/
theorem handle {W : World} (h : laidMetH Tryd.prog kRow.laid W) : W.cell? ⟨0, 0, none⟩ = some (.iface 116 (.agg #[.pointer (some ⟨5, 32, none⟩)])) ∧ 0 < W.heap.size := by
  have h2 := (laidMetH_iff.1 h).2
  obtain ⟨name, u, ty, e1, e2, e3, e4, e5⟩ := h2 _ (List.mem_singleton.2 rfl)
  have en : name = [101, 114, 114, 111, 114] := (Option.some.inj e1).symm
  subst en
  obtain rfl := Option.some.inj (rt.symm.trans e2)
  have hm : ty ∈ (List.range 164).filter fun t => Tryd.prog.rowNamed t [101, 114, 114, 111, 114] := List.mem_filter.2 ⟨List.mem_range.2 (by rw [← size]; exact e3), e4⟩
  rw [oneRow] at hm
  obtain rfl := List.mem_singleton.1 hm
  have hh : typeHandle Tryd.prog 32 = .pointer (some ⟨5, 32, none⟩) := by kernel_rfl
  rw [hh] at e5
  exact ⟨by simpa using World.var?_cell et e5 0, var_lt e5 et⟩
theorem g_ops : Tryd.prog.globalNamed "sluicebook/tree.operations" = some 1 := by kernel_rfl
theorem t_ops : (Tryd.prog.globals[1]?).map (·.type) = some 101 := by kernel_rfl
theorem g_wds : Tryd.prog.globalNamed "sluicebook/tree.words" = some 3 := by kernel_rfl
theorem t_wds : (Tryd.prog.globals[3]?).map (·.type) = some 129 := by kernel_rfl
theorem g_rul : Tryd.prog.globalNamed "sluicebook/kind.rules" = some 2 := by kernel_rfl
theorem t_rul : (Tryd.prog.globals[2]?).map (·.type) = some 102 := by kernel_rfl
set_option maxRecDepth 100000 in
theorem ops_of {W : World} {rest : List (String × DataW Unit)} (h : laidMet Tryd.prog (("sluicebook/tree.operations", Rows.laid_sluicebook_tree_operations) :: rest) W) : ∃ t fr, W.heap[1]? = some (.cells opsC t fr) :=
  var_of opsC h g_ops t_ops Tryd.underlying101 (by kernel_rfl) (by kernel_rfl)
set_option maxRecDepth 100000 in
theorem wds_of {W : World} {rest : List (String × DataW Unit)} (h : laidMet Tryd.prog (("sluicebook/tree.words", Rows.laid_sluicebook_tree_words) :: rest) W) : ∃ t fr, W.heap[3]? = some (.cells wordsC t fr) :=
  var_of wordsC h g_wds t_wds Tryd.underlying129 (by kernel_rfl) (by kernel_rfl)
set_option maxRecDepth 100000 in
theorem rul_of {W : World} {rest : List (String × DataW Unit)} (h : laidMet Tryd.prog (("sluicebook/kind.rules", Rows.laid_sluicebook_kind_rules) :: rest) W) : REnv W :=
  var_of rulesC h g_rul t_rul Tryd.underlying102 (by kernel_rfl) (by kernel_rfl)
theorem lt_of {W : World} {g : Nat} {C : Array Value} (h : ∃ t fr, W.heap[g]? = some (.cells C t fr)) : g < W.heap.size := by
  obtain ⟨t, fr, h⟩ := h
  exact (Array.getElem?_eq_some_iff.1 h).1
theorem tw_lt {W : World} (h : TW W) : 4 < W.heap.size := h.lt
theorem env {W : World} (hL : laidMetH Tryd.prog kRow.laid W) : KEnv W := by
  obtain ⟨h0, z0⟩ := handle hL
  have hM : laidMet Tryd.prog (("sluicebook/row.typeWords", Rows.laid_sluicebook_row_typeWords) :: ("sluicebook/tree.words", Rows.laid_sluicebook_tree_words) :: ("sluicebook/tree.operations", Rows.laid_sluicebook_tree_operations) :: ("sluicebook/kind.rules", Rows.laid_sluicebook_kind_rules) :: []) W := (laidMetH_iff.1 hL).1
  have h1 := tw_of hM
  have h2 := wds_of hM.tail
  have h3 := ops_of hM.tail.tail
  have h4 := rul_of hM.tail.tail.tail
  have z1 := tw_lt h1
  have z2 := lt_of h2
  have z3 := lt_of h3
  have z4 := h4.lt
  exact ⟨⟨by omega, h3, h2⟩, h1, h0, h4⟩
/-- The cells of a datum of numbers and texts. -/
def flat : Nat → DataW Unit → List Value
  | 0, _ => []
  | _ + 1, .lit (.int k n) => [.int k n]
  | _ + 1, .lit (.string l) => [.string ⟨l.toArray⟩]
  | f + 1, .agg l => l.flatMap (flat f)
  | _ + 1, _ => []
def layAt (w : World) (g : Nat) (cs : List Value) : World :=
  { w with heap := w.heap.modify g fun
      | .cells _ t frozen => .cells cs.toArray t frozen
      | o => o }
/-- A world with the variables' cells laid. -/
def lay (w : World) : World :=
  layAt (layAt (layAt (layAt (layAt w 3 (flat 5 Rows.laid_sluicebook_tree_words)) 1 (flat 5 Rows.laid_sluicebook_tree_operations)) 2 (flat 5 Rows.laid_sluicebook_kind_rules))
    4 (flat 5 Rows.laid_sluicebook_row_typeWords)) 0 [.iface 116 (.agg #[.pointer (some ⟨5, 32, none⟩)])]
end kindEnv
end Go.Proofs.YtomakklbfjkdpabDoor
