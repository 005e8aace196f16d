/-
  KdEnv, KdOpen, EvOpen, EvSd, EvMk, in one text.
-/
import Derived.Test.YtkoejkpjkcejcabDoorCards
import Derived.Test.YtkoejkpjkcejcabDoorTie
import Derived.Test.YtkoejkpjkcejcabDoorGyAh
import Derived.Test.YtkoejkpjkcejcabDoorGyAr
import Derived.LaidHandle
import Derived.LaidSub
import Derived.ProofKit
import Derived.OpenShut
import Derived.SizedLaws
import Derived.Stop.LaidErr
import Derived.Stop.Joined
import Derived.MakeChecks
import Derived.Lib.SmallJoins
import Derived.Deep.DeepHandedRow
import Derived.Test.YtkoejkpjkcejcabDoorGyAl
import Derived.Deep.Strs
import Derived.Test.YtkoejkpjkcejcabDoorGyAn
import Derived.Deep.SlicePairs
import Derived.Test.YtkoejkpjkcejcabDoorYEvEv
namespace Go.Proofs.YtkoejkpjkcejcabDoor
open Go.ChangeShapes Go.WideShapes Go.ChangeAt Go.RowKit Go.Joins
open Go.ChangeMaps (open_string shut_string)

namespace kindEnv
/-- The row whose list is read; those of the other rows are the same. -/
abbrev kRow := Rows.evalSidesUptoRow
theorem own : ownKnob Tryd.prog.godebug = none := by kernel_rfl
theorem var_lt {P : Program} {W : World} {n : String} {cs : Array Value} {g : Nat} (h : W.var? P n = some cs) (hg : P.globalNamed n = some g) : g < W.heap.size := by
  unfold World.var? at h
  simp only [hg, Option.bind_some] at h
  rcases Nat.lt_or_ge g W.heap.size with h' | h'
  · exact h'
  · simp [Array.getElem?_eq_none h'] at h
theorem et : Tryd.prog.globalNamed "errors.errorType" = some 1 := by kernel_rfl
theorem rt : (Tryd.prog.cutTypes.find? (·.1 == "internal/reflectlite.rtype")).map (·.2) = some 168 := by kernel_rfl
theorem oneRow : ((List.range 247).filter fun t => Tryd.prog.rowNamed t [101, 114, 114, 111, 114]) = [32] := by kernel_rfl
theorem size : Tryd.prog.types.size = 247 := by kernel_rfl
/-- What the row's list gives: the handle's one cell. -/
theorem handle {W : World} (h : laidMetH Tryd.prog kRow.laid W) : W.cell? ⟨1, 0, none⟩ = some (.iface 168 (.agg #[.pointer (some ⟨11, 32, none⟩)])) ∧ 1 < W.heap.size := by
  have h2 := (laidMetH_iff.1 h).2
  obtain ⟨name, u, ty, e1, e2, e3, e4, e5⟩ := h2 _ (List.mem_singleton.2 rfl)
  have en : name = [101, 114, 114, 111, 114] := (Option.some.inj e1).symm
  subst en
  obtain rfl := Option.some.inj (rt.symm.trans e2)
  have hm : ty ∈ (List.range 247).filter fun t => Tryd.prog.rowNamed t [101, 114, 114, 111, 114] := List.mem_filter.2 ⟨List.mem_range.2 (by rw [← size]; exact e3), e4⟩
  rw [oneRow] at hm
  obtain rfl := List.mem_singleton.1 hm
  have hh : typeHandle Tryd.prog 32 = .pointer (some ⟨11, 32, none⟩) := by kernel_rfl
  rw [hh] at e5
  exact ⟨by simpa using World.var?_cell et e5 0, var_lt e5 et⟩
theorem g_ops : Tryd.prog.globalNamed "sluicebook/tree.operations" = some 2 := by kernel_rfl
theorem t_ops : (Tryd.prog.globals[2]?).map (·.type) = some 145 := by kernel_rfl
theorem g_wds : Tryd.prog.globalNamed "sluicebook/tree.words" = some 3 := by kernel_rfl
theorem t_wds : (Tryd.prog.globals[3]?).map (·.type) = some 181 := by kernel_rfl
theorem g_rul : Tryd.prog.globalNamed "sluicebook/kind.rules" = some 0 := by kernel_rfl
theorem t_rul : (Tryd.prog.globals[0]?).map (·.type) = some 119 := by kernel_rfl
set_option maxRecDepth 100000 in
theorem ops_of {W : World} {rest : List (String × DataW Unit)} (h : laidMet Tryd.prog (("sluicebook/tree.operations", Rows.laid_sluicebook_tree_operations) :: rest) W) : ∃ t fr, W.heap[2]? = some (.cells opsC t fr) :=
  var_of opsC h g_ops t_ops Tryd.underlying145 (by kernel_rfl) (by kernel_rfl)
set_option maxRecDepth 100000 in
theorem wds_of {W : World} {rest : List (String × DataW Unit)} (h : laidMet Tryd.prog (("sluicebook/tree.words", Rows.laid_sluicebook_tree_words) :: rest) W) : ∃ t fr, W.heap[3]? = some (.cells wordsC t fr) :=
  var_of wordsC h g_wds t_wds Tryd.underlying181 (by kernel_rfl) (by kernel_rfl)
set_option maxRecDepth 100000 in
theorem rul_of {W : World} {rest : List (String × DataW Unit)} (h : laidMet Tryd.prog (("sluicebook/kind.rules", Rows.laid_sluicebook_kind_rules) :: rest) W) : REnv W :=
  var_of rulesC h g_rul t_rul Tryd.underlying119 (by kernel_rfl) (by kernel_rfl)
theorem lt_of {W : World} {g : Nat} {C : Array Value} (h : ∃ t fr, W.heap[g]? = some (.cells C t fr)) : g < W.heap.size := by
  obtain ⟨t, fr, h⟩ := h
  exact (Array.getElem?_eq_some_iff.1 h).1
theorem tw_lt {W : World} (h : TW W) : 4 < W.heap.size := h.lt
theorem envB {W : World} (hL : laidMetH Tryd.prog kRow.laid W) (hbig : 11 ≤ W.heap.size) : KEnv W := by
  obtain ⟨h0, z0⟩ := handle hL
  have hM : laidMet Tryd.prog (("sluicebook/row.typeWords", Rows.laid_sluicebook_row_typeWords) :: ("sluicebook/tree.words", Rows.laid_sluicebook_tree_words) :: ("sluicebook/tree.operations", Rows.laid_sluicebook_tree_operations) :: ("sluicebook/kind.rules", Rows.laid_sluicebook_kind_rules) :: []) W := (laidMetH_iff.1 hL).1
  exact ⟨⟨hbig, ops_of hM.tail.tail, wds_of hM.tail⟩, tw_of hM, h0, rul_of hM.tail.tail.tail⟩
theorem big_of {W : World} (hsh : W.ShapedOpen Tryd.prog) : 11 ≤ W.heap.size := by
  obtain ⟨o, o0, h, _⟩ := hsh.2 11 (Nat.le_of_eq (by kernel_rfl)) (of_decide_eq_true (by kernel_rfl))
  exact Nat.le_of_lt (Array.getElem?_eq_some_iff.1 h).1
/-- The cells of a datum of numbers and texts. -/
def flat : Nat → DataW Unit → List Value
  | 0, _ => []
  | _ + 1, .lit (.int k n) => [.int k n]
  | _ + 1, .lit (.string l) => [.string ⟨l.toArray⟩]
  | f + 1, .agg l => l.flatMap (flat f)
  | _ + 1, _ => []
def layAt (w : World) (g : Nat) (cs : List Value) : World :=
  { w with heap := w.heap.modify g fun
      | .cells _ t frozen => .cells cs.toArray t frozen
      | o => o }
/-- A world with the variables' cells laid. -/
def lay (w : World) : World :=
  layAt (layAt (layAt (layAt (layAt w 3 (flat 5 Rows.laid_sluicebook_tree_words)) 2 (flat 5 Rows.laid_sluicebook_tree_operations)) 0 (flat 5 Rows.laid_sluicebook_kind_rules))
    4 (flat 5 Rows.laid_sluicebook_row_typeWords)) 1 [.iface 168 (.agg #[.pointer (some ⟨11, 32, none⟩)])]
end kindEnv
end Go.Proofs.YtkoejkpjkcejcabDoor
namespace Go.Proofs.YtkoejkpjkcejcabDoor
open Go.ChangeShapes Go.WideShapes Go.ChangeAt Go.RowKit Go.Deep
set_option linter.unusedVariables false

instance : Inhabited Ex := ⟨.node ⟨#[]⟩ ⟨#[]⟩ 0 0 ⟨#[]⟩ 0 []⟩
theorem pres_bulk {H : Type} : ∀ (l : List Ex) (es : List (DataW H)), l.length = es.length → (∀ i (h : i < l.length) (h2 : i < es.length), (l[i].pre 1).length ≤ Rows.uptoBulk es[i]) → (Ex.pres 2 l).length ≤ Rows.uptoBulkAll es
  | [], [], _, _ => by rw [Ex.pres]; simp
  | x :: xs, e :: es, hl, h => by
    rw [Ex.pres, List.length_append, Rows.uptoBulkAll]
    have h0 := h 0 (by simp) (by simp)
    have h1 : (x.pre 1).length = (x.pre 2).length := by rw [pre_shift x 1]; simp
    have h2 := pres_bulk xs es (by simpa using hl) fun i a b => by
      have := h (i + 1) (by simpa using a) (by simpa using b)
      simpa using this
    simp only [List.getElem_cons_zero] at h0
    omega
  | [], _ :: _, hl, _ => by simp at hl
  | _ :: _, [], hl, _ => by simp at hl
theorem cellsEx : Tryd.prog.cellsOf 26 = 7 := by kernel_rfl
theorem cellsVl : Tryd.prog.cellsOf 23 = 3 := by kernel_rfl
theorem cellsSx : Tryd.prog.cellsOf 24 = 1 := by kernel_rfl
/-- The numbers of an expression are a machine's. -/
def Ex.bd (x : Ex) : Prop := ∀ d, ∀ q ∈ x.pre d, -9223372036854775808 ≤ q.1.vn ∧ q.1.vn ≤ 9223372036854775807
theorem mem_presO {d : Nat} {q : Ex × Nat} : ∀ {l : List Ex}, q ∈ Ex.pres d l → ∃ y ∈ l, q ∈ y.pre d
  | [], h => by rw [Ex.pres] at h; cases h
  | x :: xs, h => by
    rw [Ex.pres] at h
    rcases List.mem_append.1 h with h | h
    · exact ⟨x, by simp, h⟩
    · obtain ⟨y, hy, h⟩ := mem_presO h
      exact ⟨y, by simp [hy], h⟩
theorem bd_node {op nm vs : ByteArray} {vt vn pos : Int} {l : List Ex} (h : -9223372036854775808 ≤ vn ∧ vn ≤ 9223372036854775807) (hl : ∀ y ∈ l, y.bd) : (Ex.node op nm vt vn vs pos l).bd := by
  intro d q hq
  rw [Ex.pre] at hq
  rcases List.mem_cons.1 hq with rfl | hq
  · exact h
  · obtain ⟨y, hy, hq⟩ := mem_presO hq
    exact hl y hy _ q hq
theorem int_bd {x : Int} (h : (Lit.int .i64 x).wf = true) : -9223372036854775808 ≤ x ∧ x ≤ 9223372036854775807 := by
  simpa [Lit.wf, IntKind.min, IntKind.max, IntKind.signed, IntKind.bits] using h
/-- Expressions one behind the other, each opened. -/
theorem exs_of {W : World} {a : Addr} {len : Nat} {B : Nat → Nat} (hel : ∀ i, i < len → ∃ x : Ex, ∃ ci : List Value, W.cells? 0 (a.add (i * 7)) 7 = some ci ∧ ExIn W (fun _ => True) (.agg ci.toArray) x ∧ ci.length = 7 ∧ (x.pre 1).length ≤ B i ∧ x.bd) :
    ∃ l : List Ex, l.length = len ∧ (len = 0 ∨ ∃ b off, some a = some (⟨b, off, none⟩ : Addr) ∧ b < W.heap.size ∧ True ∧ ExsIn W (fun _ => True) b off l) ∧ ∀ i (h : i < l.length), (l[i].pre 1).length ≤ B i ∧ l[i].bd := by
  obtain ⟨f, hF⟩ := choose_lt hel
  refine ⟨(List.range len).map f, by simp, ?_, fun i h => ?_⟩
  · by_cases h0 : len = 0
    · exact .inl h0
    · right
      obtain ⟨b, off, spot⟩ := a
      obtain ⟨c0, hc0, _, hl0, _⟩ := hF 0 (by omega)
      have he := (World.cells?_some hc0).2.2 0 (by omega)
      rw [List.getElem?_eq_getElem (by omega)] at he
      have hspot : spot = none := by simpa [Addr.add] using World.cell?_spot he
      subst hspot
      refine ⟨b, off, rfl, cell_lt' (o := off) (by simpa [Addr.add] using he), trivial, exsIn_mk _ _ _ _ _ fun j hj => ?_⟩
      have hj' : j < len := by simpa using hj
      obtain ⟨cj, hcj, hxj, hlj, _⟩ := hF j hj'
      have hc := (World.cells?_some hcj).2.2
      match cj, hlj with
      | [v0, v1, v2, v3, v4, v5, v6], _ =>
        refine ⟨v0, v1, v2, v3, v4, v5, v6, ?_, ?_, ?_, ?_, ?_, ?_, ?_, ?_⟩
        · simpa [add_plain] using hc 0 (by decide)
        · simpa [add_plain, Nat.add_assoc] using hc 1 (by decide)
        · simpa [add_plain, Nat.add_assoc] using hc 2 (by decide)
        · simpa [add_plain, Nat.add_assoc] using hc 3 (by decide)
        · simpa [add_plain, Nat.add_assoc] using hc 4 (by decide)
        · simpa [add_plain, Nat.add_assoc] using hc 5 (by decide)
        · simpa [add_plain, Nat.add_assoc] using hc 6 (by decide)
        · simp only [List.getElem_map, List.getElem_range]
          exact hxj
  · have hi : i < len := by simpa using h
    obtain ⟨_, _, _, _, hb, hd⟩ := hF i hi
    simp only [List.getElem_map, List.getElem_range]
    exact ⟨hb, hd⟩
set_option maxHeartbeats 1000000 in
set_option maxRecDepth 100000 in
theorem open_ex {H : Type} {enc : TypeId × Value → H} {W : World} : ∀ (fuel : Nat) (cs : List Value) (d : DataW H) (ps : List MemPlace), DataW.trod enc Tryd.prog W 0 (fun _ => true) true fuel 26 cs = some (d, ps) → ∃ x, ExIn W (fun _ => True) (.agg cs.toArray) x ∧ cs.length = 7 ∧ (x.pre 1).length ≤ Rows.uptoBulk d ∧ x.bd := by
  intro fuel
  induction fuel using Nat.strongRecOn with
  | ind fuel ih =>
    intro cs d ps h
    obtain ⟨xs, n, hfu, hx, hl, hlen, hf⟩ := DataW.trod_struct Tryd.underlying26 h
    rw [cellsEx] at hl
    match cs, hl, xs, hlen with
    | [c0, c1, c2, c3, c4, c5, c6], _, [y0, y1, y2, y3, y4], _ =>
      have t0 := hf 0 _ rfl
      have t1 := hf 1 _ rfl
      have t2 := hf 2 _ rfl
      have t3 := hf 3 _ rfl
      have t4 := hf 4 _ rfl
      simp [cellsStr, cellsInt, cellsVl, cellsSx] at t0 t1 t2 t3 t4
      obtain ⟨s0, e0, r0, z0⟩ := DataW.trod_string Tryd.underlying9 t0
      obtain ⟨s1, e1, r1, z1⟩ := DataW.trod_string Tryd.underlying9 t1
      obtain ⟨k6, e6, r6, z6⟩ := DataW.trod_int Tryd.underlying3 t4
      obtain ⟨w0, w1, w2, m2, r2, _, v0, v1, v2⟩ := trod_struct3 Tryd.underlying23 t2
      simp [cellsStr, cellsInt] at v0 v1 v2
      obtain ⟨k2, e2, q2, _⟩ := DataW.trod_int Tryd.underlying3 v0
      obtain ⟨k3, e3, q3, z3⟩ := DataW.trod_int Tryd.underlying3 v1
      obtain ⟨s4, e4, q4, z4⟩ := DataW.trod_string Tryd.underlying9 v2
      simp at e0 e1 e2 e3 e4 e6
      subst e0 e1 e2 e3 e4 e6
      obtain ⟨rfl, rfl⟩ := Prod.mk.inj hx
      rcases DataW.trod_slice Tryd.underlying24 t3 with ⟨hcs, hy⟩ | ⟨a, len, cap, elems, rest, m, hm, hcs, hy, _, hlc, hcm, hle, hel, _, _⟩
      · simp at hcs
        subst hcs
        refine ⟨.node s0 s1 k2 k3 s4 k6 [], ?_, rfl, ?_, bd_node (int_bd z3) (fun y hy => by cases hy)⟩
        · rw [ExIn]; exact ⟨none, 0, rfl, ⟨by simp, by simp⟩, z0, z1, z4, .inl rfl⟩
        · rw [Ex.pre, Ex.pres]
          simp [Rows.uptoBulk]
      · simp at hcs
        subst hcs
        rw [cellsEx] at hel
        have hel' : ∀ i, i < len → ∃ x : Ex, ∃ ci : List Value, W.cells? 0 (a.add (i * 7)) 7 = some ci ∧ ExIn W (fun _ => True) (.agg ci.toArray) x ∧ ci.length = 7 ∧ (x.pre 1).length ≤ Rows.uptoBulk ((elems[i]?.map (·.1)).getD .nil) ∧ x.bd := fun i hi => by
          have h1 := hel i hi
          have h2 : elems[i]? = some (elems[i]'(by omega)) := List.getElem?_eq_getElem (by omega)
          rw [h2, Option.bind_eq_some_iff] at h1
          obtain ⟨ci, hci, hti⟩ := h1
          obtain ⟨x, hx1, hx2, hx3, hx4⟩ := ih m (by omega) ci _ _ hti
          exact ⟨x, ci, hci, hx1, hx2, by rw [h2]; exact hx3, hx4⟩
        obtain ⟨l, rfl, hin, hbl⟩ := exs_of (B := fun i => Rows.uptoBulk ((elems[i]?.map (·.1)).getD .nil)) hel'
        refine ⟨.node s0 s1 k2 k3 s4 k6 l, ?_, rfl, ?_, bd_node (int_bd z3) (fun y hy => by
          obtain ⟨i, hi, rfl⟩ := List.mem_iff_getElem.1 hy
          exact (hbl i hi).2)⟩
        · rw [ExIn]
          exact ⟨some a, cap, rfl, ⟨by omega, hlc⟩, z0, z1, z4, hin⟩
        · rw [Ex.pre, List.length_cons]
          have hb : (Ex.pres 2 l).length ≤ Rows.uptoBulkAll (elems.map (·.1)) := by
            refine pres_bulk _ _ (by simp [hle]) fun i h1 h2 => ?_
            have hb := (hbl i h1).1
            rw [List.getElem?_eq_getElem (by omega)] at hb
            simpa using hb
          have hy1 := congrArg Prod.fst hy
          simp only at hy1
          simp only [List.map_cons, List.map_nil, Rows.uptoBulk, Rows.uptoBulkAll, hy1]
          have : (Ex.pres (1 + 1) l).length = (Ex.pres 2 l).length := rfl
          omega
set_option maxRecDepth 100000 in
theorem open_args {H : Type} {enc : TypeId × Value → H} {W : World} {base : Nat} {v : Value} {d : DataW H} {p : List MemPlace} (hv : Value.okWide Tryd.prog W .any base 24 v) (h : DataW.Trod enc Tryd.prog W 0 (fun _ => true) true 24 v d p) :
    ∃ l, ArgsIs W (fun _ => True) v l ∧ (Ex.pres 2 l).length ≤ Rows.uptoBulk d := by
  obtain ⟨a0, len0, cap0, rfl⟩ := okWide_slice Tryd.underlying24 hv
  obtain ⟨fuel, hf⟩ := h
  rcases DataW.trod_slice Tryd.underlying24 hf with ⟨hcs, hy⟩ | ⟨a, len, cap, elems, rest, m, hm, hcs, hy, _, hlc, hcm, hle, hel, _, _⟩
  · simp [Value.cells] at hcs
    obtain ⟨rfl, rfl, rfl⟩ := hcs
    exact ⟨[], ⟨_, _, rfl, ⟨by simp, by simp⟩, .inl rfl⟩, by rw [Ex.pres]; simp⟩
  · simp [Value.cells] at hcs
    obtain ⟨rfl, rfl, rfl⟩ := hcs
    rw [cellsEx] at hel
    have hel' : ∀ i, i < len0 → ∃ x : Ex, ∃ ci : List Value, W.cells? 0 (a.add (i * 7)) 7 = some ci ∧ ExIn W (fun _ => True) (.agg ci.toArray) x ∧ ci.length = 7 ∧ (x.pre 1).length ≤ Rows.uptoBulk ((elems[i]?.map (·.1)).getD .nil) ∧ x.bd := fun i hi => by
      have h1 := hel i hi
      have h2 : elems[i]? = some (elems[i]'(by omega)) := List.getElem?_eq_getElem (by omega)
      rw [h2, Option.bind_eq_some_iff] at h1
      obtain ⟨ci, hci, hti⟩ := h1
      obtain ⟨x, hx1, hx2, hx3, hx4⟩ := open_ex m ci _ _ hti
      exact ⟨x, ci, hci, hx1, hx2, by rw [h2]; exact hx3, hx4⟩
    obtain ⟨l, rfl, hin, hbl⟩ := exs_of (B := fun i => Rows.uptoBulk ((elems[i]?.map (·.1)).getD .nil)) hel'
    refine ⟨l, ⟨_, _, rfl, ⟨by omega, hlc⟩, hin⟩, ?_⟩
    have hb : (Ex.pres 2 l).length ≤ Rows.uptoBulkAll (elems.map (·.1)) := by
      refine pres_bulk _ _ (by simp [hle]) fun i h1 h2 => ?_
      have hb := (hbl i h1).1
      rw [List.getElem?_eq_getElem (by omega)] at hb
      simpa using hb
    have hy1 := congrArg Prod.fst hy
    simp only at hy1
    simp only [Rows.uptoBulk, hy1]
    omega
set_option maxRecDepth 100000 in
/-- An expression that is handed in. -/
theorem open_expr {H : Type} {enc : TypeId × Value → H} {W : World} {base : Nat} {v : Value} {d : DataW H} {p : List MemPlace} (hv : Value.okWide Tryd.prog W .any base 26 v) (h : DataW.Trod enc Tryd.prog W 0 (fun _ => true) true 26 v d p) :
    ∃ x, ExIn W (fun _ => True) v x ∧ (x.pre 1).length ≤ Rows.uptoBulk d ∧ x.bd := by
  obtain ⟨cs, rfl, _⟩ := okWide_struct Tryd.underlying26 hv
  obtain ⟨fuel, hf⟩ := h
  obtain ⟨x, h1, _, h3, h4⟩ := open_ex fuel _ _ _ hf
  exact ⟨x, by simpa [Value.cells] using h1, h3, h4⟩
set_option maxRecDepth 100000 in
/-- Columns that are handed in. -/
theorem open_colsV {H : Type} {enc : TypeId × Value → H} {W : World} {base : Nat} {v : Value} {d : DataW H} {p : List MemPlace} (hv : Value.okWide Tryd.prog W .any base 27 v) (h : DataW.Trod enc Tryd.prog W 0 (fun _ => true) true 27 v d p) : ∃ zs, ColsV W v zs := by
  rcases open_cols hv h with ⟨q, c, rfl⟩ | ⟨b, off, c, zs, rfl, h0, h1, h2, h3, h4⟩
  · exact ⟨[], q, c, rfl, .inl rfl⟩
  · exact ⟨zs, _, c, rfl, .inr ⟨b, off, rfl, h1, h3, h4⟩⟩
end Go.Proofs.YtkoejkpjkcejcabDoor
namespace Go.Proofs.YtkoejkpjkcejcabDoor
open Go.ChangeShapes Go.WideShapes Go.ChangeAt Go.RowKit Go.Deep
set_option linter.unusedVariables false

set_option maxRecDepth 100000 in
theorem open_valsV {H : Type} {enc : TypeId × Value → H} {W : World} {base : Nat} {v : Value} {d : DataW H} {p : List MemPlace} (hv : Value.okWide Tryd.prog W .any base 28 v) (h : DataW.Trod enc Tryd.prog W 0 (fun _ => true) true 28 v d p) :
    ∃ rs, ValsV W v rs ∧ SizedV rs := by
  obtain ⟨a0, len0, cap0, rfl⟩ := okWide_slice Tryd.underlying28 hv
  obtain ⟨fuel, hf⟩ := h
  rcases open_slice Tryd.underlying28 hf with ⟨hcs, hx⟩ | ⟨a, len, cap, m, n, D, Pl, hcs, _, hl, hm, hmeq, hx, hall⟩
  · simp [Value.cells] at hcs
    obtain ⟨rfl, rfl, rfl⟩ := hcs
    exact ⟨[], ⟨_, _, rfl, Nat.zero_le _, .inl rfl⟩, fun r hr => by simp at hr⟩
  · simp [Value.cells] at hcs
    obtain ⟨rfl, rfl, rfl⟩ := hcs
    by_cases h0 : len0 = 0
    · subst h0
      exact ⟨[], ⟨_, _, rfl, Nat.zero_le _, .inl rfl⟩, fun r hr => by simp at hr⟩
    · simp only [if_true] at hmeq
      subst hmeq
      have each : ∀ i, i < len0 → ∃ r : V3, W.cell? (a.add (i * 3)) = some (.int .i64 r.1) ∧ W.cell? (a.add (i * 3 + 1)) = some (.int .i64 r.2.1) ∧ W.cell? (a.add (i * 3 + 2)) = some (.string r.2.2) ∧ r.2.2.size ≤ maxLen ∧ (-9223372036854775808 ≤ r.2.1 ∧ r.2.1 ≤ 9223372036854775807) := by
        intro i hi
        obtain ⟨cs', h1, h2⟩ := hall i (by omega)
        rw [cellsVl] at h1
        obtain ⟨_, hlen, hcell⟩ := World.cells?_some h1
        obtain ⟨y0, y1, y2, k, _, _, t0, t1, t2⟩ := trod_struct3 Tryd.underlying23 h2
        match cs', hlen with
        | [v0, v1, v2], _ =>
          simp [cellsInt, cellsStr] at t0 t1 t2
          obtain ⟨x0, e0, _, _⟩ := DataW.trod_int Tryd.underlying3 t0
          obtain ⟨x1, e1, _, w1⟩ := DataW.trod_int Tryd.underlying3 t1
          obtain ⟨x2, e2, _, hs⟩ := DataW.trod_string Tryd.underlying9 t2
          simp at e0 e1 e2
          subst e0 e1 e2
          have g0 := hcell 0 (by omega)
          have g1 := hcell 1 (by omega)
          have g2 := hcell 2 (by omega)
          rw [add_add] at g0 g1 g2
          exact ⟨(x0, x1, x2), by simpa using g0, by simpa using g1, by simpa using g2, hs, int_bd w1⟩
      obtain ⟨f, hF⟩ := choose_lt (α := V3) each
      obtain ⟨sb, so, spot⟩ := a
      have hspot : spot = none := by simpa [Addr.add] using World.cell?_spot (hF 0 (by omega)).1
      subst hspot
      have hlen : ((List.range len0).map f).length = len0 := by simp
      refine ⟨(List.range len0).map f, ⟨_, _, by rw [hlen], by omega, .inr ⟨sb, so, rfl, ?_, ?_⟩⟩, ?_⟩
      · have := (hF 0 (by omega)).1
        exact cell_lt' (o := so + 0 * 3) (by simpa [add_plain] using this)
      · intro j hj
        obtain ⟨c0, c1, c2, _, _⟩ := hF j (by omega)
        simp only [List.getElem_map, List.getElem_range]
        rw [add_plain] at c0 c1 c2
        exact ⟨c0, by rw [Nat.add_assoc]; exact c1, by rw [Nat.add_assoc]; exact c2⟩
      · intro r hr
        obtain ⟨i, hi, rfl⟩ := List.mem_map.1 hr
        obtain ⟨_, _, _, h1, h2⟩ := hF i (List.mem_range.1 hi)
        exact ⟨h1, h2⟩
end Go.Proofs.YtkoejkpjkcejcabDoor
namespace Go.Proofs.YtkoejkpjkcejcabDoor
open Go.RowKit
set_option linter.unusedVariables false

theorem ckP_iff {x : Ex} : ckP x = 0 ↔ (x.pre 1).length ≤ 200 ∧ (∀ q ∈ x.pre 1, q.2 ≤ 30) ∧ ∀ q ∈ x.pre 1, nodeE q.1 = 0 := by
  constructor
  · intro h
    obtain ⟨h1, h2⟩ := ckP_zero h
    have ht : (foldP ftg 0 (x.pre 1)).2 = true := by rw [tgB] at h1; simpa using h1
    obtain ⟨g1, g2⟩ := (fold_tg _ 0).1 ht
    refine ⟨?_, g2, h2⟩
    rcases g1 with g1 | g1
    · rw [g1]; simp
    · omega
  · rintro ⟨h1, h2, h3⟩
    have ht : tgB x = false := by
      rw [tgB, (fold_tg (x.pre 1) 0).2 ⟨.inr (by omega), h2⟩]; rfl
    rw [ckP, ht, if_neg (by simp)]
    exact fold_ck' (x.pre 1) 0 rfl h3
/-- An operation, as the law writes it. -/
def mkN (op : ByteArray) (l : List Ex) : Ex := .node op ⟨#[]⟩ 0 0 ⟨#[]⟩ 0 l
def yesX : Ex := .node ⟨#[118, 97, 108]⟩ ⟨#[]⟩ 2 1 ⟨#[]⟩ 0 []
def noX : Ex := .node ⟨#[118, 97, 108]⟩ ⟨#[]⟩ 2 0 ⟨#[]⟩ 0 []
theorem mem_pres {d : Nat} {q : Ex × Nat} : ∀ {l : List Ex}, q ∈ Ex.pres d l → ∃ y ∈ l, q ∈ y.pre d
  | [], h => by rw [Ex.pres] at h; cases h
  | x :: xs, h => by
    rw [Ex.pres] at h
    rcases List.mem_append.1 h with h | h
    · exact ⟨x, by simp, h⟩
    · obtain ⟨y, hy, h⟩ := mem_pres h
      exact ⟨y, by simp [hy], h⟩
/-- A part that fits below one node more. -/
def fitP (y : Ex) : Prop := (∀ q ∈ y.pre 2, q.2 ≤ 30) ∧ ∀ q ∈ y.pre 2, nodeE q.1 = 0
theorem fit_of {op : ByteArray} {l : List Ex} (h : ckP (mkN op l) = 0) : (Ex.pres 2 l).length ≤ 199 ∧ ∀ y ∈ l, fitP y := by
  obtain ⟨h1, h2, h3⟩ := ckP_iff.1 h
  rw [mkN, Ex.pre] at h1 h2 h3
  refine ⟨by simpa using h1, fun y hy => ⟨fun q hq => h2 q (List.mem_cons_of_mem _ (pres_mem hy q hq)), fun q hq => h3 q (List.mem_cons_of_mem _ (pres_mem hy q hq))⟩⟩
theorem ck_make {op : ByteArray} {l : List Ex} (hn : nodeE (mkN op l) = 0) (hl : (Ex.pres 2 l).length ≤ 199) (hf : ∀ y ∈ l, fitP y) : ckP (mkN op l) = 0 := by
  refine ckP_iff.2 ⟨?_, ?_, ?_⟩
  · rw [mkN, Ex.pre, List.length_cons]; exact Nat.succ_le_succ hl
  · intro q hq
    rw [mkN, Ex.pre] at hq
    rcases List.mem_cons.1 hq with rfl | hq
    · show 1 ≤ 30
      decide
    · obtain ⟨y, hy, hq⟩ := mem_pres hq
      exact (hf y hy).1 q hq
  · intro q hq
    have hself := hn
    rw [mkN, Ex.pre] at hq
    rcases List.mem_cons.1 hq with rfl | hq
    · exact hself
    · obtain ⟨y, hy, hq⟩ := mem_pres hq
      exact (hf y hy).2 q hq
theorem fit_yes : fitP yesX := by
  constructor
  · intro q hq
    rw [yesX, Ex.pre, Ex.pres] at hq
    obtain rfl := List.mem_singleton.1 hq
    decide
  · intro q hq
    rw [yesX, Ex.pre, Ex.pres] at hq
    obtain rfl := List.mem_singleton.1 hq
    kernel_rfl
theorem fit_no : fitP noX := by
  constructor
  · intro q hq
    rw [noX, Ex.pre, Ex.pres] at hq
    obtain rfl := List.mem_singleton.1 hq
    decide
  · intro q hq
    rw [noX, Ex.pre, Ex.pres] at hq
    obtain rfl := List.mem_singleton.1 hq
    kernel_rfl
theorem len_yes : (yesX.pre 2).length = 1 := rfl
theorem len_no : (noX.pre 2).length = 1 := rfl
theorem pres_two (a b : Ex) : (Ex.pres 2 [a, b]).length = (a.pre 2).length + (b.pre 2).length := by
  rw [Ex.pres, Ex.pres, Ex.pres]; simp
theorem pres_three (a b c : Ex) : (Ex.pres 2 [a, b, c]).length = (a.pre 2).length + (b.pre 2).length + (c.pre 2).length := by
  rw [Ex.pres, Ex.pres, Ex.pres, Ex.pres]; simp; omega
/-- What Check lets through of `if`, it lets through of the others. -/
theorem ck_sides {a b : Ex} (h : ckP (mkN ⟨#[105, 102]⟩ [yesX, a, b]) = 0) :
    ckP (mkN ⟨#[105, 102]⟩ [noX, a, b]) = 0 ∧ ckP (mkN ⟨#[60]⟩ [a, b]) = 0 ∧ ckP (mkN ⟨#[62, 61]⟩ [a, b]) = 0 ∧ ckP (mkN ⟨#[97, 110, 100]⟩ [noX, a]) = 0 ∧ ckP (mkN ⟨#[111, 114]⟩ [yesX, a]) = 0 ∧ ckP (mkN ⟨#[97, 110, 100]⟩ [yesX, a]) = 0 := by
  obtain ⟨hl, hf⟩ := fit_of h
  have fa := hf a (by simp)
  have fb := hf b (by simp)
  rw [pres_three, len_yes] at hl
  have two : ∀ {x y : Ex}, fitP x → fitP y → ∀ z ∈ [x, y], fitP z := fun hx hy z hz => by
    rcases List.mem_cons.1 hz with rfl | hz
    · exact hx
    · obtain rfl := List.mem_singleton.1 hz
      exact hy
  have three : ∀ {x y u : Ex}, fitP x → fitP y → fitP u → ∀ z ∈ [x, y, u], fitP z := fun hx hy hu z hz => by
    rcases List.mem_cons.1 hz with rfl | hz
    · exact hx
    · exact two hy hu z hz
  refine ⟨ck_make (by kernel_rfl) (by rw [pres_three, len_no]; omega) (three fit_no fa fb), ck_make (by kernel_rfl) (by rw [pres_two]; omega) (two fa fb), ck_make (by kernel_rfl) (by rw [pres_two]; omega) (two fa fb), ck_make (by kernel_rfl) (by rw [pres_two, len_no]; omega) (two fit_no fa), ck_make (by kernel_rfl) (by rw [pres_two, len_yes]; omega) (two fit_yes fa), ck_make (by kernel_rfl) (by rw [pres_two, len_yes]; omega) (two fit_yes fa)⟩
theorem tysP_all {zs : List (ByteArray × Int)} : ∀ {l : List Ex}, (∀ y ∈ l, (tyP zs y).2.1 = 0) → tysP zs l = (l.map (fun y => (tyP zs y).1), 0, 0)
  | [], _ => by rw [tysP]; rfl
  | x :: xs, h => by
    rw [tysP, if_neg (fun hh => hh (h x (by simp))), tysP_all fun y hy => h y (by simp [hy]), if_neg (by simp)]
    rfl
theorem ty_make {zs : List (ByteArray × Int)} {op : ByteArray} {l : List Ex} {T : Int} (h1 : op.data.toList ≠ [118, 97, 108]) (h2 : op.data.toList ≠ [99, 111, 108]) (hl : ∀ y ∈ l, (tyP zs y).2.1 = 0) (hr : ruleP op.data.toList (l.map fun y => (tyP zs y).1) = (T, 0)) : tyP zs (mkN op l) = (T, 0, 0) := by
  rw [mkN, tyP_op h1 h2, tysP_all hl, if_neg (by simp)]
  simp only
  rw [hr, if_neg (by simp)]
theorem of_make {zs : List (ByteArray × Int)} {x : Ex} {T : Int} (hc : ckP x = 0) (hs : schE zs = 0) (ht : tyP zs x = (T, 0, 0)) : ofP zs x = (T, 0, 0) := by
  rw [ofP, if_neg (fun hh => hh hc), if_neg (fun hh => hh hs), ht]
theorem of_in {zs : List (ByteArray × Int)} {x : Ex} {T p : Int} (h : ofP zs x = (T, 0, p)) : ckP x = 0 ∧ schE zs = 0 ∧ tyP zs x = (T, 0, p) := by
  rw [ofP] at h
  by_cases hc : ckP x = 0
  · rw [if_neg (fun hh => hh hc)] at h
    by_cases hs : schE zs = 0
    · rw [if_neg (fun hh => hh hs)] at h
      exact ⟨hc, hs, h⟩
    · rw [if_pos hs] at h
      simp only [Prod.mk.injEq] at h
      exact absurd h.2.1 hs
  · rw [if_pos hc] at h
    simp only [Prod.mk.injEq] at h
    exact absurd h.2.1 hc
theorem rule_same {T : Int} (h : isTy T = true) : ruleP [105, 102] [2, T, T] = (T, 0) ∧ ruleP [60] [T, T] = (2, 0) ∧ ruleP [62, 61] [T, T] = (2, 0) := by
  have : T = 1 ∨ T = 2 ∨ T = 3 := by
    unfold isTy at h
    simp at h
    exact h
  rcases this with rfl | rfl | rfl <;> decide
theorem of_ty {zs : List (ByteArray × Int)} {a : Ex} {T p : Int} (ha : ofP zs a = (T, 0, p)) : isTy T = true := by
  obtain ⟨ca, hs, ta⟩ := of_in ha
  have := tyP_ty (y := a) ((ckP_iff.1 ca).2.2 (a, 1) (by rw [pre_eq]; exact List.mem_cons_self ..)) hs (by rw [ta])
  rwa [ta] at this
/-- The six expressions have the types that they should. -/
theorem of_sides {zs : List (ByteArray × Int)} {a b : Ex} {T p q : Int} (ha : ofP zs a = (T, 0, p)) (h : ckP (mkN ⟨#[105, 102]⟩ [yesX, a, b]) = 0) :
    (ofP zs b = (T, 0, q) → ofP zs (mkN ⟨#[105, 102]⟩ [yesX, a, b]) = (T, 0, 0) ∧ ofP zs (mkN ⟨#[105, 102]⟩ [noX, a, b]) = (T, 0, 0) ∧ ofP zs (mkN ⟨#[60]⟩ [a, b]) = (2, 0, 0) ∧ ofP zs (mkN ⟨#[62, 61]⟩ [a, b]) = (2, 0, 0)) ∧
    (T = 2 → ofP zs (mkN ⟨#[97, 110, 100]⟩ [noX, a]) = (2, 0, 0) ∧ ofP zs (mkN ⟨#[111, 114]⟩ [yesX, a]) = (2, 0, 0) ∧ ofP zs (mkN ⟨#[97, 110, 100]⟩ [yesX, a]) = (2, 0, 0)) := by
  obtain ⟨c1, c2, c3, c4, c5, c6⟩ := ck_sides h
  obtain ⟨ca, hs, ta⟩ := of_in ha
  have hT : isTy T = true := by
    have := tyP_ty (y := a) ((ckP_iff.1 ca).2.2 (a, 1) (by rw [pre_eq]; exact List.mem_cons_self ..)) hs (by rw [ta])
    rwa [ta] at this
  have ty2 : ∀ {x y : Ex} {s t u v : Int}, tyP zs x = (s, 0, u) → tyP zs y = (t, 0, v) → ∀ z ∈ [x, y], (tyP zs z).2.1 = 0 := fun hx hy z hz => by
    rcases List.mem_cons.1 hz with rfl | hz
    · rw [hx]
    · obtain rfl := List.mem_singleton.1 hz
      rw [hy]
  have ty3 : ∀ {x y w : Ex} {s t r u v k : Int}, tyP zs x = (s, 0, u) → tyP zs y = (t, 0, v) → tyP zs w = (r, 0, k) → ∀ z ∈ [x, y, w], (tyP zs z).2.1 = 0 := fun hx hy hw z hz => by
    rcases List.mem_cons.1 hz with rfl | hz
    · rw [hx]
    · exact ty2 hy hw z hz
  have tY : tyP zs yesX = (2, 0, 0) := by rw [yesX, tyP, if_pos rfl]
  have tN : tyP zs noX = (2, 0, 0) := by rw [noX, tyP, if_pos rfl]
  refine ⟨fun hb => ?_, fun h2 => ?_⟩
  · obtain ⟨_, _, tb⟩ := of_in hb
    obtain ⟨r1, r2, r3⟩ := rule_same hT
    refine ⟨of_make h hs (ty_make (by decide) (by decide) (ty3 tY ta tb) ?_), of_make c1 hs (ty_make (by decide) (by decide) (ty3 tN ta tb) ?_), of_make c2 hs (ty_make (by decide) (by decide) (ty2 ta tb) ?_), of_make c3 hs (ty_make (by decide) (by decide) (ty2 ta tb) ?_)⟩
    · simp only [List.map_cons, List.map_nil, tY, ta, tb]; exact r1
    · simp only [List.map_cons, List.map_nil, tN, ta, tb]; exact r1
    · simp only [List.map_cons, List.map_nil, ta, tb]; exact r2
    · simp only [List.map_cons, List.map_nil, ta, tb]; exact r3
  · subst h2
    refine ⟨of_make c4 hs (ty_make (by decide) (by decide) (ty2 tN ta) ?_), of_make c5 hs (ty_make (by decide) (by decide) (ty2 tY ta) ?_), of_make c6 hs (ty_make (by decide) (by decide) (ty2 tY ta) ?_)⟩
    · simp only [List.map_cons, List.map_nil, tN, ta]; decide
    · simp only [List.map_cons, List.map_nil, tY, ta]; decide
    · simp only [List.map_cons, List.map_nil, tY, ta]; decide
theorem cm_make {zs : List (ByteArray × Int)} {rs : List V3} {op : ByteArray} {l : List Ex} (h1 : op.data.toList ≠ [118, 97, 108]) (h2 : op.data.toList ≠ [99, 111, 108]) : cmP zs rs (mkN op l) = combP op.data.toList (l.map (cmP zs rs)) := by
  rw [mkN, cmP_op h1 h2]
theorem cm_yes (zs : List (ByteArray × Int)) (rs : List V3) : cmP zs rs yesX = ((2, 1, ⟨#[]⟩), 0) := by rw [yesX, cmP, if_pos rfl]
theorem cm_no (zs : List (ByteArray × Int)) (rs : List V3) : cmP zs rs noX = ((2, 0, ⟨#[]⟩), 0) := by rw [noX, cmP, if_pos rfl]
theorem cm_if (zs : List (ByteArray × Int)) (rs : List V3) (a b : Ex) : cmP zs rs (mkN ⟨#[105, 102]⟩ [yesX, a, b]) = cmP zs rs a ∧ cmP zs rs (mkN ⟨#[105, 102]⟩ [noX, a, b]) = cmP zs rs b := by
  constructor
  · rw [cm_make (by decide) (by decide)]
    simp only [List.map_cons, List.map_nil, cm_yes]
    rfl
  · rw [cm_make (by decide) (by decide)]
    simp only [List.map_cons, List.map_nil, cm_no]
    rfl
theorem cm_and_no (zs : List (ByteArray × Int)) (rs : List V3) (a : Ex) : cmP zs rs (mkN ⟨#[97, 110, 100]⟩ [noX, a]) = ((2, 0, ⟨#[]⟩), 0) ∧ cmP zs rs (mkN ⟨#[111, 114]⟩ [yesX, a]) = ((2, 1, ⟨#[]⟩), 0) := by
  constructor
  · rw [cm_make (by decide) (by decide)]
    simp only [List.map_cons, List.map_nil, cm_no]
    rfl
  · rw [cm_make (by decide) (by decide)]
    simp only [List.map_cons, List.map_nil, cm_yes]
    rfl
theorem bytes_nil {s : ByteArray} (h : s.data.toList = []) : s = ⟨#[]⟩ := by
  obtain ⟨⟨l⟩⟩ := s
  simp at h
  subst h
  rfl
theorem cm_and_yes {zs : List (ByteArray × Int)} {rs : List V3} {a : Ex} (h : comes 2 (cmP zs rs a)) : cmP zs rs (mkN ⟨#[97, 110, 100]⟩ [yesX, a]) = cmP zs rs a := by
  rw [cm_make (by decide) (by decide)]
  simp only [List.map_cons, List.map_nil, cm_yes]
  rcases h with ⟨h0, h1, h2, h3⟩ | h
  · obtain ⟨t, n, s, e, hcm⟩ : ∃ t n s e, cmP zs rs a = ((t, n, s), e) := ⟨_, _, _, _, rfl⟩
    rw [hcm] at h0 h1 h2 h3 ⊢
    simp only at h0 h1 h2 h3
    subst h0 h1
    obtain ⟨hn, hs⟩ := chk_two h2
    obtain rfl := bytes_nil hs
    rcases hn with rfl | rfl <;> decide
  · rw [h]; decide
theorem cm_less {zs : List (ByteArray × Int)} {rs : List V3} {a b : Ex} {T : Int} (hT : isTy T = true) (ha : comes T (cmP zs rs a)) (hb : comes T (cmP zs rs b)) :
    ∃ p q : V3 × Int, cmP zs rs (mkN ⟨#[60]⟩ [a, b]) = p ∧ cmP zs rs (mkN ⟨#[62, 61]⟩ [a, b]) = q ∧ ((p.2 = 0 ∧ q.2 = 0 ∧ (cmP zs rs a).2 = 0 ∧ (cmP zs rs b).2 = 0 ∧ ((p.1.2.1 = 0 ∧ q.1.2.1 = 1) ∨ (p.1.2.1 = 1 ∧ q.1.2.1 = 0))) ∨ (p.2 = 9 ∧ q.2 = 9 ∧ ((cmP zs rs a).2 = 9 ∨ (cmP zs rs b).2 = 9))) := by
  refine ⟨_, _, rfl, rfl, ?_⟩
  rw [cm_make (by decide) (by decide), cm_make (by decide) (by decide)]
  simp only [List.map_cons, List.map_nil]
  rcases ha with ⟨a0, a1, a2, a3⟩ | ha
  · rcases hb with ⟨b0, b1, b2, b3⟩ | hb
    · left
      have hc : ∀ op, op = [60] ∨ op = [62, 61] → combP op [cmP zs rs a, cmP zs rs b] = cmpV op (cmP zs rs a).1 (cmP zs rs b).1 := fun op hop => by
        rw [combP, if_neg (fun hh => hh a0), if_neg (by rcases hop with rfl | rfl <;> simp), if_neg (by rcases hop with rfl | rfl <;> decide), if_neg (by simp [firstE, b0])]
        have hv : vlE ((cmP zs rs a).1 :: [cmP zs rs b].map (·.1)) = 0 := vlE_zero.2 fun v hv => by
          simp at hv
          rcases hv with rfl | rfl
          · exact a2
          · exact b2
        obtain ⟨_, r2, r3⟩ := rule_same hT
        rw [doP, if_neg (fun hh => hh hv)]
        rcases hop with rfl | rfl
        · rw [if_neg (by simp [a1, b1, r2])]; rfl
        · rw [if_neg (by simp [a1, b1, r3])]; rfl
      rw [hc [60] (.inl rfl), hc [62, 61] (.inr rfl)]
      have he : cmpE (cmP zs rs a).1.1 (cmP zs rs a).1.2.1 (cmP zs rs a).1.2.2.data.toList (cmP zs rs b).1.1 (cmP zs rs b).1.2.1 (cmP zs rs b).1.2.2.data.toList = 0 := by
        rw [cmpE, if_neg (fun hh => hh a2), if_neg (fun hh => hh b2), if_neg (fun hh => hh (a1.trans b1.symm))]
      rw [cmpV, if_neg (fun hh => hh he), cmpV, if_neg (fun hh => hh he)]
      refine ⟨rfl, rfl, a0, b0, ?_⟩
      generalize cmpN (cmP zs rs a).1.1 (cmP zs rs a).1.2.1 (cmP zs rs a).1.2.2.data.toList (cmP zs rs b).1.1 (cmP zs rs b).1.2.1 (cmP zs rs b).1.2.2.data.toList = o
      have e1 : holdsP [60] o = decide (o < 0) := rfl
      have e2 : holdsP [62, 61] o = decide (0 ≤ o) := rfl
      rw [e1, e2]
      by_cases h : o < 0
      · right
        simp [truP, h]
      · left
        simp [truP, h]
    · right
      rw [hb]
      have hc : ∀ op, op = [60] ∨ op = [62, 61] → combP op [cmP zs rs a, (noV, 9)] = (noV, 9) := fun op hop => by
        rw [combP, if_neg (fun hh => hh a0), if_neg (by rcases hop with rfl | rfl <;> simp), if_neg (by rcases hop with rfl | rfl <;> decide), if_pos (by simp [firstE])]
        rfl
      rw [hc [60] (.inl rfl), hc [62, 61] (.inr rfl)]
      exact ⟨rfl, rfl, .inr rfl⟩
  · right
    rw [ha]
    exact ⟨rfl, rfl, .inl rfl⟩
end Go.Proofs.YtkoejkpjkcejcabDoor
namespace Go.Proofs.YtkoejkpjkcejcabDoor
open Go.RowKit Go.BigFrame
set_option linter.unusedVariables false

abbrev anyB : Nat → Prop := fun _ => True
theorem bd_mk {op : ByteArray} {l : List Ex} (h : ∀ y ∈ l, ExB y) : ExB (mkN op l) := by
  intro q hq
  rw [mkN, Ex.pre] at hq
  rcases List.mem_cons.1 hq with rfl | hq
  · show inB 0
    unfold inB
    omega
  · obtain ⟨y, hy, hq⟩ := mem_pres hq
    have hs : y.pre 2 = (y.pre 1).map fun q => (q.1, q.2 + 1) := pre_shift y 1
    rw [hs] at hq
    obtain ⟨r, hr, rfl⟩ := List.mem_map.1 hq
    exact h y hy r hr
theorem ExB_yes : ExB yesX := by
  intro q hq
  rw [yesX, Ex.pre, Ex.pres] at hq
  obtain rfl := List.mem_singleton.1 hq
  show inB 1
  unfold inB
  omega
theorem ExB_no : ExB noX := by
  intro q hq
  rw [noX, Ex.pre, Ex.pres] at hq
  obtain rfl := List.mem_singleton.1 hq
  show inB 0
  unfold inB
  omega
theorem len_mk {op : ByteArray} {l : List Ex} : ((mkN op l).pre 1).length = (Ex.pres 2 l).length + 1 := by
  rw [mkN, Ex.pre, List.length_cons]
theorem len_two (y : Ex) : (y.pre 2).length = (y.pre 1).length := by rw [pre_shift y 1]; simp
theorem pres_one (a : Ex) : (Ex.pres 2 [a]).length = (a.pre 2).length := by
  rw [Ex.pres, Ex.pres]; simp
theorem mk1_in (op : ByteArray) (hop : op.size ≤ maxLen) {X : World} {x : Ex} {a0 a1 a2 a3 a4 a5 a6 : Value} (ha : ExIn X anyB (.agg #[a0, a1, a2, a3, a4, a5, a6]) x) (g : Nat) (hg : g = X.heap.size) : ExIn (X.alloc (.cells #[a0, a1, a2, a3, a4, a5, a6] 26)) anyB (.agg #[.string op, .string ⟨#[]⟩, .int .i64 0, .int .i64 0, .string ⟨#[]⟩, .slice (some ⟨g, 0, none⟩) 1 1, .int .i64 0]) (mkN op [x]) := by
  subst hg
  have bb : Below X.heap.size X (X.alloc (.cells #[a0, a1, a2, a3, a4, a5, a6] 26)) := (Below.refl _ X).alloc (Nat.le_refl _) _
  rw [mkN, ExIn]
  refine ⟨some ⟨X.heap.size, 0, none⟩, 1, rfl, ⟨by simp [maxLen], by simp⟩, hop, by decide, by decide, .inr ⟨X.heap.size, 0, rfl, by simp, trivial, ?_⟩⟩
  rw [ExsIn, ExsIn]
  have hcl : ∀ i, (X.alloc (.cells #[a0, a1, a2, a3, a4, a5, a6] 26)).cell? ⟨X.heap.size, i, none⟩ = (#[a0, a1, a2, a3, a4, a5, a6] : Array Value)[i]? := fun i => World.cell?_alloc_at _ _ _ _ rfl
  exact ⟨⟨a0, a1, a2, a3, a4, a5, a6, hcl 0, hcl 1, hcl 2, hcl 3, hcl 4, hcl 5, hcl 6, ha.on bb⟩, trivial⟩
theorem ev1_any (op : ByteArray) (hop : op.size ≤ maxLen) {X : World} {x : Ex} {a0 a1 a2 a3 a4 a5 a6 : Value} (ha : ExIn X anyB (.agg #[a0, a1, a2, a3, a4, a5, a6]) x) (la : (x.pre 1).length ≤ 90) (da : ExB x) (vl vr : Value) (zs : List (ByteArray × Int)) (rs : List V3) (henv : KEnv X) (hcv : ColsV X vl zs) (hrv : ValsV X vr rs) (hrs : SizedV rs) (t k : Int) (s : ByteArray) (e : Int) (hR : evP zs rs (mkN op [x]) = ((t, k, s), e)) (g : Nat) (hg : g = X.heap.size) :
    Calls Tryd.prog 7 #[.agg #[.string op, .string ⟨#[]⟩, .int .i64 0, .int .i64 0, .string ⟨#[]⟩, .slice (some ⟨g, 0, none⟩) 1 1, .int .i64 0], vl, vr] (X.alloc (.cells #[a0, a1, a2, a3, a4, a5, a6] 26)) fun e' w' => e' = .returned (.tuple #[.agg #[.int .i64 t, .int .i64 k, .string s], errV e]) ∧ Below X.heap.size X w' := by
  have bb : Below X.heap.size X (X.alloc (.cells #[a0, a1, a2, a3, a4, a5, a6] 26)) := (Below.refl _ X).alloc (Nat.le_refl _) _
  refine (eval_any (mkN op [x]) anyB _ vl vr zs rs _ (henv.on bb) (mk1_in op hop ha g hg) ?_ (bd_mk fun y hy => ?_) (hcv.on bb) (hrv.on bb) hrs t k s e hR).mono fun e' w' h => ⟨h.1, bb.trans (h.2.mono bb.size)⟩
  · rw [len_mk, pres_one, len_two x]
    omega
  · simp only [List.mem_cons, List.not_mem_nil, or_false] at hy
    subst hy
    exact da
theorem mk2_in (op : ByteArray) (hop : op.size ≤ maxLen) {X : World} {x y : Ex} {a0 a1 a2 a3 a4 a5 a6 b0 b1 b2 b3 b4 b5 b6 : Value} (ha : ExIn X anyB (.agg #[a0, a1, a2, a3, a4, a5, a6]) x) (hb : ExIn X anyB (.agg #[b0, b1, b2, b3, b4, b5, b6]) y) (g : Nat) (hg : g = X.heap.size) : ExIn (X.alloc (.cells #[a0, a1, a2, a3, a4, a5, a6, b0, b1, b2, b3, b4, b5, b6] 26)) anyB (.agg #[.string op, .string ⟨#[]⟩, .int .i64 0, .int .i64 0, .string ⟨#[]⟩, .slice (some ⟨g, 0, none⟩) 2 2, .int .i64 0]) (mkN op [x, y]) := by
  subst hg
  have bb : Below X.heap.size X (X.alloc (.cells #[a0, a1, a2, a3, a4, a5, a6, b0, b1, b2, b3, b4, b5, b6] 26)) := (Below.refl _ X).alloc (Nat.le_refl _) _
  rw [mkN, ExIn]
  refine ⟨some ⟨X.heap.size, 0, none⟩, 2, rfl, ⟨by simp [maxLen], by simp⟩, hop, by decide, by decide, .inr ⟨X.heap.size, 0, rfl, by simp, trivial, ?_⟩⟩
  rw [ExsIn, ExsIn, ExsIn]
  have hcl : ∀ i, (X.alloc (.cells #[a0, a1, a2, a3, a4, a5, a6, b0, b1, b2, b3, b4, b5, b6] 26)).cell? ⟨X.heap.size, i, none⟩ = (#[a0, a1, a2, a3, a4, a5, a6, b0, b1, b2, b3, b4, b5, b6] : Array Value)[i]? := fun i => World.cell?_alloc_at _ _ _ _ rfl
  exact ⟨⟨a0, a1, a2, a3, a4, a5, a6, hcl 0, hcl 1, hcl 2, hcl 3, hcl 4, hcl 5, hcl 6, ha.on bb⟩, ⟨⟨b0, b1, b2, b3, b4, b5, b6, hcl 7, hcl 8, hcl 9, hcl 10, hcl 11, hcl 12, hcl 13, hb.on bb⟩, trivial⟩⟩
theorem ev2_any (op : ByteArray) (hop : op.size ≤ maxLen) {X : World} {x y : Ex} {a0 a1 a2 a3 a4 a5 a6 b0 b1 b2 b3 b4 b5 b6 : Value} (ha : ExIn X anyB (.agg #[a0, a1, a2, a3, a4, a5, a6]) x) (hb : ExIn X anyB (.agg #[b0, b1, b2, b3, b4, b5, b6]) y) (la : (x.pre 1).length ≤ 90) (lb : (y.pre 1).length ≤ 90) (da : ExB x) (db : ExB y) (vl vr : Value) (zs : List (ByteArray × Int)) (rs : List V3) (henv : KEnv X) (hcv : ColsV X vl zs) (hrv : ValsV X vr rs) (hrs : SizedV rs) (t k : Int) (s : ByteArray) (e : Int) (hR : evP zs rs (mkN op [x, y]) = ((t, k, s), e)) (g : Nat) (hg : g = X.heap.size) :
    Calls Tryd.prog 7 #[.agg #[.string op, .string ⟨#[]⟩, .int .i64 0, .int .i64 0, .string ⟨#[]⟩, .slice (some ⟨g, 0, none⟩) 2 2, .int .i64 0], vl, vr] (X.alloc (.cells #[a0, a1, a2, a3, a4, a5, a6, b0, b1, b2, b3, b4, b5, b6] 26)) fun e' w' => e' = .returned (.tuple #[.agg #[.int .i64 t, .int .i64 k, .string s], errV e]) ∧ Below X.heap.size X w' := by
  have bb : Below X.heap.size X (X.alloc (.cells #[a0, a1, a2, a3, a4, a5, a6, b0, b1, b2, b3, b4, b5, b6] 26)) := (Below.refl _ X).alloc (Nat.le_refl _) _
  refine (eval_any (mkN op [x, y]) anyB _ vl vr zs rs _ (henv.on bb) (mk2_in op hop ha hb g hg) ?_ (bd_mk fun y hy => ?_) (hcv.on bb) (hrv.on bb) hrs t k s e hR).mono fun e' w' h => ⟨h.1, bb.trans (h.2.mono bb.size)⟩
  · rw [len_mk, pres_two, len_two x, len_two y]
    omega
  · simp only [List.mem_cons, List.not_mem_nil, or_false] at hy
    rcases hy with rfl | rfl
    · exact da
    · exact db
theorem mk3_in (op : ByteArray) (hop : op.size ≤ maxLen) {X : World} {x y z : Ex} {a0 a1 a2 a3 a4 a5 a6 b0 b1 b2 b3 b4 b5 b6 c0 c1 c2 c3 c4 c5 c6 : Value} (ha : ExIn X anyB (.agg #[a0, a1, a2, a3, a4, a5, a6]) x) (hb : ExIn X anyB (.agg #[b0, b1, b2, b3, b4, b5, b6]) y) (hc : ExIn X anyB (.agg #[c0, c1, c2, c3, c4, c5, c6]) z) (g : Nat) (hg : g = X.heap.size) : ExIn (X.alloc (.cells #[a0, a1, a2, a3, a4, a5, a6, b0, b1, b2, b3, b4, b5, b6, c0, c1, c2, c3, c4, c5, c6] 26)) anyB (.agg #[.string op, .string ⟨#[]⟩, .int .i64 0, .int .i64 0, .string ⟨#[]⟩, .slice (some ⟨g, 0, none⟩) 3 3, .int .i64 0]) (mkN op [x, y, z]) := by
  subst hg
  have bb : Below X.heap.size X (X.alloc (.cells #[a0, a1, a2, a3, a4, a5, a6, b0, b1, b2, b3, b4, b5, b6, c0, c1, c2, c3, c4, c5, c6] 26)) := (Below.refl _ X).alloc (Nat.le_refl _) _
  rw [mkN, ExIn]
  refine ⟨some ⟨X.heap.size, 0, none⟩, 3, rfl, ⟨by simp [maxLen], by simp⟩, hop, by decide, by decide, .inr ⟨X.heap.size, 0, rfl, by simp, trivial, ?_⟩⟩
  rw [ExsIn, ExsIn, ExsIn, ExsIn]
  have hcl : ∀ i, (X.alloc (.cells #[a0, a1, a2, a3, a4, a5, a6, b0, b1, b2, b3, b4, b5, b6, c0, c1, c2, c3, c4, c5, c6] 26)).cell? ⟨X.heap.size, i, none⟩ = (#[a0, a1, a2, a3, a4, a5, a6, b0, b1, b2, b3, b4, b5, b6, c0, c1, c2, c3, c4, c5, c6] : Array Value)[i]? := fun i => World.cell?_alloc_at _ _ _ _ rfl
  exact ⟨⟨a0, a1, a2, a3, a4, a5, a6, hcl 0, hcl 1, hcl 2, hcl 3, hcl 4, hcl 5, hcl 6, ha.on bb⟩, ⟨⟨b0, b1, b2, b3, b4, b5, b6, hcl 7, hcl 8, hcl 9, hcl 10, hcl 11, hcl 12, hcl 13, hb.on bb⟩, ⟨⟨c0, c1, c2, c3, c4, c5, c6, hcl 14, hcl 15, hcl 16, hcl 17, hcl 18, hcl 19, hcl 20, hc.on bb⟩, trivial⟩⟩⟩
theorem ev3_any (op : ByteArray) (hop : op.size ≤ maxLen) {X : World} {x y z : Ex} {a0 a1 a2 a3 a4 a5 a6 b0 b1 b2 b3 b4 b5 b6 c0 c1 c2 c3 c4 c5 c6 : Value} (ha : ExIn X anyB (.agg #[a0, a1, a2, a3, a4, a5, a6]) x) (hb : ExIn X anyB (.agg #[b0, b1, b2, b3, b4, b5, b6]) y) (hc : ExIn X anyB (.agg #[c0, c1, c2, c3, c4, c5, c6]) z) (la : (x.pre 1).length ≤ 90) (lb : (y.pre 1).length ≤ 90) (lc : (z.pre 1).length ≤ 90) (da : ExB x) (db : ExB y) (dc : ExB z) (vl vr : Value) (zs : List (ByteArray × Int)) (rs : List V3) (henv : KEnv X) (hcv : ColsV X vl zs) (hrv : ValsV X vr rs) (hrs : SizedV rs) (t k : Int) (s : ByteArray) (e : Int) (hR : evP zs rs (mkN op [x, y, z]) = ((t, k, s), e)) (g : Nat) (hg : g = X.heap.size) :
    Calls Tryd.prog 7 #[.agg #[.string op, .string ⟨#[]⟩, .int .i64 0, .int .i64 0, .string ⟨#[]⟩, .slice (some ⟨g, 0, none⟩) 3 3, .int .i64 0], vl, vr] (X.alloc (.cells #[a0, a1, a2, a3, a4, a5, a6, b0, b1, b2, b3, b4, b5, b6, c0, c1, c2, c3, c4, c5, c6] 26)) fun e' w' => e' = .returned (.tuple #[.agg #[.int .i64 t, .int .i64 k, .string s], errV e]) ∧ Below X.heap.size X w' := by
  have bb : Below X.heap.size X (X.alloc (.cells #[a0, a1, a2, a3, a4, a5, a6, b0, b1, b2, b3, b4, b5, b6, c0, c1, c2, c3, c4, c5, c6] 26)) := (Below.refl _ X).alloc (Nat.le_refl _) _
  refine (eval_any (mkN op [x, y, z]) anyB _ vl vr zs rs _ (henv.on bb) (mk3_in op hop ha hb hc g hg) ?_ (bd_mk fun y hy => ?_) (hcv.on bb) (hrv.on bb) hrs t k s e hR).mono fun e' w' h => ⟨h.1, bb.trans (h.2.mono bb.size)⟩
  · rw [len_mk, pres_three, len_two x, len_two y, len_two z]
    omega
  · simp only [List.mem_cons, List.not_mem_nil, or_false] at hy
    rcases hy with rfl | rfl | rfl
    · exact da
    · exact db
    · exact dc
theorem ck3_any (op : ByteArray) (hop : op.size ≤ maxLen) {X : World} {x y z : Ex} {a0 a1 a2 a3 a4 a5 a6 b0 b1 b2 b3 b4 b5 b6 c0 c1 c2 c3 c4 c5 c6 : Value} (ha : ExIn X anyB (.agg #[a0, a1, a2, a3, a4, a5, a6]) x) (hb : ExIn X anyB (.agg #[b0, b1, b2, b3, b4, b5, b6]) y) (hc : ExIn X anyB (.agg #[c0, c1, c2, c3, c4, c5, c6]) z) (la : (x.pre 1).length ≤ 90) (lb : (y.pre 1).length ≤ 90) (lc : (z.pre 1).length ≤ 90) (henv : TEnv X) (E : Int) (hR : ckP (mkN op [x, y, z]) = E) (g : Nat) (hg : g = X.heap.size) :
    Calls Tryd.prog 11 #[.agg #[.string op, .string ⟨#[]⟩, .int .i64 0, .int .i64 0, .string ⟨#[]⟩, .slice (some ⟨g, 0, none⟩) 3 3, .int .i64 0]] (X.alloc (.cells #[a0, a1, a2, a3, a4, a5, a6, b0, b1, b2, b3, b4, b5, b6, c0, c1, c2, c3, c4, c5, c6] 26)) fun e' w' => e' = .returned (errV E) ∧ Below X.heap.size X w' := by
  have bb : Below X.heap.size X (X.alloc (.cells #[a0, a1, a2, a3, a4, a5, a6, b0, b1, b2, b3, b4, b5, b6, c0, c1, c2, c3, c4, c5, c6] 26)) := (Below.refl _ X).alloc (Nat.le_refl _) _
  have h := check_tree (mkN op [x, y, z]) anyB _ _ (henv.on bb) (mk3_in op hop ha hb hc g hg) (by
    rw [len_mk, pres_three, len_two x, len_two y, len_two z]
    omega)
  rw [hR] at h
  exact h.mono fun e' w' h => ⟨h.1, bb.trans (h.2.mono bb.size)⟩
theorem yes_in (X : World) : ExIn X anyB (.agg #[.string ⟨#[118, 97, 108]⟩, .string ⟨#[]⟩, .int .i64 2, .int .i64 1, .string ⟨#[]⟩, .slice none 0 0, .int .i64 0]) yesX := by
  rw [yesX, ExIn]
  exact ⟨none, 0, rfl, ⟨by decide, by decide⟩, by decide, by decide, by decide, .inl rfl⟩
theorem no_in (X : World) : ExIn X anyB (.agg #[.string ⟨#[118, 97, 108]⟩, .string ⟨#[]⟩, .int .i64 2, .int .i64 0, .string ⟨#[]⟩, .slice none 0 0, .int .i64 0]) noX := by
  rw [noX, ExIn]
  exact ⟨none, 0, rfl, ⟨by decide, by decide⟩, by decide, by decide, by decide, .inl rfl⟩
theorem ev_fact : evP [(⟨#[120]⟩, 1)] [(1, 3, ⟨#[]⟩)] (mkN ⟨#[110, 111, 116]⟩ [noX]) = ((2, 1, ⟨#[]⟩), 0) := by kernel_rfl
end Go.Proofs.YtkoejkpjkcejcabDoor
