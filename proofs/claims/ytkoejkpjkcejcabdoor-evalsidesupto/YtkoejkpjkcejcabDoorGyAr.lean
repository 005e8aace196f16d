/-
  ColsOpen, VarOf, InsOpen, VmCd, in one text.
-/
import Derived.Test.YtkoejkpjkcejcabDoorGyAg
import Derived.Test.YtkoejkpjkcejcabDoorRows
import Derived.Deep.SlicePairs
import Derived.OpenShut
import Derived.Carry
import Derived.ProofKit
import Derived.ChangeSame
import Derived.MakeChecks
import Derived.RowKit
import Derived.Test.YtkoejkpjkcejcabDoorGyAi
import Derived.Test.YtkoejkpjkcejcabDoorGyAl
import Derived.LaidHandle
import Derived.LaidSub
import Derived.SizedLaws
import Derived.Stop.LaidErr
import Derived.Lib.SmallJoins
import Derived.Deep.Strs
import Derived.Test.YtkoejkpjkcejcabDoorCards
import Derived.Test.YtkoejkpjkcejcabDoorGyAn
import Derived.Stop.Joined
import Derived.Deep.DeepHandedRow
namespace Go.Proofs.YtkoejkpjkcejcabDoor
open Go.ChangeShapes Go.WideShapes Go.ChangeAt Go.RowKit Go.Deep

theorem laidOut : laidOutB Tryd.prog = true := by kernel_rfl
theorem cellsCol : Tryd.prog.cellsOf 30 = 2 := by kernel_rfl
theorem cellsStr : Tryd.prog.cellsOf 9 = 1 := by kernel_rfl
theorem cellsInt : Tryd.prog.cellsOf 3 = 1 := by kernel_rfl
set_option maxRecDepth 100000 in
theorem open_cols {H : Type} {enc : TypeId × Value → H} {W : World} {base : Nat} {v : Value} {d : DataW H} {p : List MemPlace} (hv : Value.okWide Tryd.prog W .any base 27 v) (h : DataW.Trod enc Tryd.prog W 0 (fun _ => true) true 27 v d p) :
    (∃ q c, v = .slice q 0 c) ∨ ∃ (b off c : Nat) (zs : List (ByteArray × Int)), v = .slice (some ⟨b, off, none⟩) zs.length c ∧ zs.length ≠ 0 ∧ zs.length ≤ c ∧ c ≤ maxLen ∧ (∀ z ∈ zs, z.1.size ≤ maxLen) ∧ ColsIn W b off zs := by
  obtain ⟨a0, len0, cap0, rfl⟩ := okWide_slice Tryd.underlying27 hv
  obtain ⟨fuel, hf⟩ := h
  rcases open_slice_pairs Tryd.underlying27 Tryd.underlying30 cellsCol rfl rfl cellsStr cellsInt hf with ⟨hcs, hx⟩ | ⟨a, len, cap, m, n, V0, V1, D0, D1, P0, P1, hcs, _, hl, hm, hmeq, hx, hall⟩
  · simp [Value.cells] at hcs
    obtain ⟨rfl, rfl, rfl⟩ := hcs
    exact Or.inl ⟨_, _, rfl⟩
  · simp [Value.cells] at hcs
    obtain ⟨rfl, rfl, rfl⟩ := hcs
    by_cases h0 : len0 = 0
    · subst h0
      exact Or.inl ⟨_, _, rfl⟩
    · right
      simp only [if_true] at hmeq
      subst hmeq
      obtain ⟨sb, so, spot⟩ := a
      have hspot : spot = none := by simpa [Addr.add] using World.cell?_spot (hall 0 (by omega)).1
      subst hspot
      obtain ⟨f, hF⟩ := choose_lt (α := ByteArray × Int) (n := len0) (p := fun i z => V0 i = .string z.1 ∧ V1 i = .int .i64 z.2 ∧ z.1.size ≤ maxLen) (fun i hi => by
        obtain ⟨_, _, t0, t1⟩ := hall i (by omega)
        obtain ⟨s, e0, _, hs⟩ := DataW.trod_string Tryd.underlying9 t0
        obtain ⟨k, e1, _, _⟩ := DataW.trod_int Tryd.underlying3 t1
        exact ⟨(s, k), by simpa using e0, by simpa using e1, hs⟩)
      have hlen : ((List.range len0).map f).length = len0 := by simp
      refine ⟨sb, so, _, (List.range len0).map f, by rw [hlen], by omega, by omega, hm, ?_, ?_, ?_⟩
      · intro z hz
        obtain ⟨i, hi, rfl⟩ := List.mem_map.1 hz
        exact (hF i (List.mem_range.1 hi)).2.2
      · have := (hall 0 (by omega)).1
        exact cell_lt' (o := so + 0 * 2) (by simpa [Addr.add] using this)
      · intro j hj
        have hj' : j < len0 := by omega
        obtain ⟨c0, c1, _, _⟩ := hall j (by omega)
        obtain ⟨e0, e1, _⟩ := hF j hj'
        rw [e0] at c0
        rw [e1] at c1
        simp only [List.getElem_map, List.getElem_range]
        exact ⟨by simpa [add_plain] using c0, by simpa [add_plain, Nat.add_assoc] using c1⟩

theorem g_tw : Tryd.prog.globalNamed "sluicebook/row.typeWords" = some 4 := by kernel_rfl
theorem t_tw : (Tryd.prog.globals[4]?).map (·.type) = some 191 := by kernel_rfl
theorem cellsTW : Tryd.prog.cellsOf 126 = 2 := by kernel_rfl
theorem cellsTA : Tryd.prog.cellsOf 191 = 6 := by kernel_rfl
set_option maxRecDepth 100000 in
/-- One word of the variable, from its two cells. -/
theorem tw_open {W : World} {m : Nat} {x y : Value} {a : Int} {l : List UInt8} {ps : List MemPlace} (h : DataW.trod (fun _ => ()) Tryd.prog W 0 (fun _ => true) false m 126 [x, y] = some (DataW.agg [.lit (.int .i64 a), .lit (.string l)], ps)) : x = .int .i64 a ∧ y = .string ⟨l.toArray⟩ := by
  obtain ⟨y0, y1, n, e, _, h0, h1⟩ := trod_struct2 Tryd.underlying126 h
  simp [cellsInt, cellsStr] at h0 h1
  obtain ⟨k, e0, r0, _⟩ := DataW.trod_int Tryd.underlying3 h0
  obtain ⟨s, e1, r1, _⟩ := DataW.trod_string Tryd.underlying9 h1
  simp at e0 e1
  subst e0 e1 r0 r1
  simp at e
  obtain ⟨⟨rfl, rfl⟩, _⟩ := e
  exact ⟨rfl, by simp⟩
set_option maxRecDepth 100000 in
theorem tw_of {W : World} {rest : List (String × DataW Unit)} (h : laidMet Tryd.prog (("sluicebook/row.typeWords", Rows.laid_sluicebook_row_typeWords) :: rest) W) : TW W := by
  obtain ⟨ps, ⟨g', t', cs, fuel, p, q, hg', ht', hvar, hd, _, _⟩, _⟩ := h
  obtain rfl := Option.some.inj (g_tw.symm.trans hg')
  obtain rfl := Option.some.inj (t_tw.symm.trans ht')
  obtain ⟨xs, m, _, hx, hl, hlen, hel⟩ := DataW.trod_array Tryd.underlying191 hd
  rw [cellsTA] at hl
  rw [cellsTW] at hel
  have hcs : ∃ c0 c1 c2 c3 c4 c5, cs = #[c0, c1, c2, c3, c4, c5] := by
    obtain ⟨l⟩ := cs
    match l, hl with
    | [c0, c1, c2, c3, c4, c5], _ => exact ⟨_, _, _, _, _, _, rfl⟩
  obtain ⟨c0, c1, c2, c3, c4, c5, rfl⟩ := hcs
  match xs, hlen with
  | [x0, x1, x2], _ =>
    obtain ⟨d0, q0⟩ := x0
    obtain ⟨d1, q1⟩ := x1
    obtain ⟨d2, q2⟩ := x2
    have hx2 := congrArg Prod.fst hx
    simp [Rows.laid_sluicebook_row_typeWords] at hx2
    obtain ⟨r0, r1, r2⟩ := hx2
    subst r0 r1 r2
    obtain ⟨e0, e1⟩ := tw_open (by simpa using hel 0 (by decide))
    obtain ⟨e2, e3⟩ := tw_open (by simpa using hel 1 (by decide))
    obtain ⟨e4, e5⟩ := tw_open (by simpa using hel 2 (by decide))
    subst e0 e1 e2 e3 e4 e5
    have hc := fun i => World.var?_cell g_tw hvar i
    exact ⟨by simpa using hc 0, by simpa using hc 1, by simpa using hc 2, by simpa using hc 3, by simpa using hc 4, by simpa using hc 5, cell_lt' (o := 0) (by simpa using hc 0)⟩
end Go.Proofs.YtkoejkpjkcejcabDoor
namespace Go.Proofs.YtkoejkpjkcejcabDoor
open Go.RowKit

/-- The cell at a place of a datum of numbers and texts. -/
def cellAt (P : Program) : Nat → TypeId → DataW Unit → Nat → Option Value
  | 0, _, _, _ => none
  | f + 1, t, d, i =>
    match P.underlying t, d with
    | some (.int k), .lit (.int _ n) => if i = 0 then some (.int k n) else none
    | some .string, .lit (.string l) => if i = 0 then some (.string ⟨l.toArray⟩) else none
    | some (.array n e), .agg l => if i / P.cellsOf e < n ∧ i % P.cellsOf e < P.cellsOf e then (l[i / P.cellsOf e]?).bind fun d' => cellAt P f e d' (i % P.cellsOf e) else none
    | some (.struct fs), .agg l =>
      (fs[(fs.toList.findIdx fun g => decide (i < g.offset + P.cellsOf g.type))]?).bind fun g =>
        if g.offset ≤ i ∧ i < g.offset + P.cellsOf g.type then (l[(fs.toList.findIdx fun g => decide (i < g.offset + P.cellsOf g.type))]?).bind fun d' => cellAt P f g.type d' (i - g.offset) else none
    | _, _ => none
theorem chunk_at {cs : List Value} {o k i : Nat} {v : Value} (hk : i < k) (h : ((cs.drop o).take k)[i]? = some v) : cs[o + i]? = some v := by
  rw [List.getElem?_take, if_pos hk, List.getElem?_drop] at h
  exact h
theorem cellAt_trod {P : Program} {W : World} {enc : TypeId × Value → Unit} {base : Nat} {spare : Nat → Bool} {held : Bool} : ∀ (f : Nat) (t : TypeId) (d : DataW Unit) (i : Nat) (v : Value) (fuel : Nat) (cs : List Value) (ps : List MemPlace),
    DataW.trod enc P W base spare held fuel t cs = some (d, ps) → cellAt P f t d i = some v → cs[i]? = some v
  | 0, _, _, _, _, _, _, _, _, h => by simp [cellAt] at h
  | f + 1, t, d, i, v, fuel, cs, ps, ht, h => by
    unfold cellAt at h
    split at h
    · rename_i k _ n hu
      split at h
      · rename_i hi
        subst hi
        cases fuel with
        | zero => simp [DataW.trod] at ht
        | succ m =>
          unfold DataW.trod at ht
          rw [hu] at ht
          split at ht <;> simp_all
      · simp at h
    · rename_i l hu
      split at h
      · rename_i hi
        subst hi
        obtain ⟨s, rfl, hx, _⟩ := DataW.trod_string hu ht
        simp at hx h ⊢
        rw [← h, hx.1]
      · simp at h
    · rename_i n e l hu
      split at h
      · rename_i hi
        obtain ⟨xs, m, _, hx, _, hl, hel⟩ := DataW.trod_array hu ht
        simp only [Prod.mk.injEq, DataW.agg.injEq] at hx
        obtain ⟨rfl, rfl⟩ := hx
        rw [Option.bind_eq_some_iff] at h
        obtain ⟨d', hd, h⟩ := h
        have hlt : i / P.cellsOf e < xs.length := by omega
        rw [List.getElem?_map, List.getElem?_eq_getElem hlt] at hd
        have h2 := hel _ hi.1
        rw [List.getElem?_eq_getElem hlt] at h2
        simp only [Option.map_some, Option.some.injEq] at hd
        subst hd
        have h3 := cellAt_trod f e _ _ v _ _ _ h2 h
        have h4 := chunk_at hi.2 h3
        rwa [Nat.mul_comm, Nat.div_add_mod] at h4
      · simp at h
    · rename_i fs l hu
      rw [Option.bind_eq_some_iff] at h
      obtain ⟨g, hg, h⟩ := h
      split at h
      · rename_i hi
        obtain ⟨xs, m, _, hx, _, hl, hel⟩ := DataW.trod_struct hu ht
        simp only [Prod.mk.injEq, DataW.agg.injEq] at hx
        obtain ⟨rfl, rfl⟩ := hx
        rw [Option.bind_eq_some_iff] at h
        obtain ⟨d', hd, h⟩ := h
        have h2 := hel _ g hg
        rw [List.getElem?_map, Option.map_eq_some_iff] at hd
        obtain ⟨y, hy, rfl⟩ := hd
        rw [hy] at h2
        have h3 := cellAt_trod f g.type _ _ v _ _ _ h2 h
        have h4 := chunk_at (by omega) h3
        rwa [show g.offset + (i - g.offset) = i by omega] at h4
      · simp at h
    · simp at h
theorem var_row {P : Program} {W : World} {n : String} {cs : Array Value} {g : Nat} (h : W.var? P n = some cs) (hg : P.globalNamed n = some g) : ∃ t fr, W.heap[g]? = some (.cells cs t fr) := by
  unfold World.var? at h
  simp only [hg, Option.bind_some] at h
  split at h
  · rename_i c t fr he
    obtain rfl := Option.some.inj h
    exact ⟨t, fr, he⟩
  · simp at h
theorem var_of {P : Program} {W : World} {nm : String} {d : DataW Unit} {rest : List (String × DataW Unit)} {g : Nat} {t e : TypeId} {n : Nat} (C : Array Value)
    (h : laidMet P ((nm, d) :: rest) W) (hg : P.globalNamed nm = some g) (ht : (P.globals[g]?).map (·.type) = some t) (hu : P.underlying t = some (.array n e)) (hc : P.cellsOf t = C.size)
    (hC : (List.range C.size).map (cellAt P 8 t d) = C.toList.map some) : ∃ tt fr, W.heap[g]? = some (.cells C tt fr) := by
  obtain ⟨ps, ⟨g', t', cs, fuel, p, q, hg', ht', hvar, hd, _, _⟩, _⟩ := h
  obtain rfl := Option.some.inj (hg.symm.trans hg')
  obtain rfl := Option.some.inj (ht.symm.trans ht')
  obtain ⟨_, _, _, _, hl, _, _⟩ := DataW.trod_array hu hd
  have hcs : cs = C := by
    apply Array.ext'
    apply List.ext_getElem?
    intro i
    by_cases hi : i < C.size
    · have h1 : ((List.range C.size).map (cellAt P 8 t d))[i]? = (C.toList.map some)[i]? := by rw [hC]
      rw [List.getElem?_map, List.getElem?_range hi, List.getElem?_map, Array.getElem?_toList, Array.getElem?_eq_getElem hi] at h1
      simp only [Option.map_some, Option.some.injEq] at h1
      rw [cellAt_trod 8 t d i _ _ _ _ hd h1, Array.getElem?_toList, Array.getElem?_eq_getElem hi]
    · rw [List.getElem?_eq_none (by omega), List.getElem?_eq_none (by simpa using hi)]
  subst hcs
  exact var_row hvar hg
end Go.Proofs.YtkoejkpjkcejcabDoor
namespace Go.Proofs.YtkoejkpjkcejcabDoor
open Go.ChangeShapes Go.WideShapes Go.ChangeAt Go.RowKit Go.Joins
open Go.ChangeMaps (open_string shut_string)
open Go.Deep

theorem int_bndI {x : Int} (h : (Lit.int .i64 x).wf = true) : -9223372036854775808 ≤ x ∧ x ≤ 9223372036854775807 := by
  simpa [Lit.wf, IntKind.min, IntKind.max, IntKind.signed, IntKind.bits] using h
theorem cell_ltI {w : World} {b o : Nat} {v : Value} (h : w.cell? ⟨b, o, none⟩ = some v) : b < w.heap.size := by
  rcases Nat.lt_or_ge b w.heap.size with h' | h'
  · exact h'
  · simp [World.cell?, Array.getElem?_eq_none h'] at h
theorem cellsVa : Tryd.prog.cellsOf 23 = 3 := by kernel_rfl
theorem cellsIns : Tryd.prog.cellsOf 50 = 5 := by kernel_rfl
theorem cellsIn : Tryd.prog.cellsOf 3 = 1 := by kernel_rfl
theorem cellsSt : Tryd.prog.cellsOf 9 = 1 := by kernel_rfl
set_option maxRecDepth 100000 in
/-- Instructions that are handed in. -/
theorem open_ins {H : Type} {enc : TypeId × Value → H} {W : World} {base : Nat} {v : Value} {d : DataW H} {p : List MemPlace} (hv : Value.okWide Tryd.prog W .any base 47 v) (h : DataW.Trod enc Tryd.prog W 0 (fun _ => true) true 47 v d p) :
    ∃ (q : Option Addr) (N c : Nat) (is : List I5), v = .slice q N c ∧ is.length = N ∧ N ≤ maxLen ∧ InsAt W q is ∧ ∀ i ∈ is, okI i := by
  obtain ⟨a0, len0, cap0, rfl⟩ := okWide_slice Tryd.underlying47 hv
  obtain ⟨fuel, hf⟩ := h
  rcases open_slice Tryd.underlying47 hf with ⟨hcs, hx⟩ | ⟨a, len, cap, m, n, D, Pl, hcs, _, hl, hm, hmeq, hx, hall⟩
  · simp [Value.cells] at hcs
    obtain ⟨rfl, rfl, rfl⟩ := hcs
    exact ⟨_, _, _, [], rfl, rfl, Nat.zero_le _, .inl rfl, fun r hr => by simp at hr⟩
  · simp [Value.cells] at hcs
    obtain ⟨rfl, rfl, rfl⟩ := hcs
    by_cases h0 : len0 = 0
    · subst h0
      exact ⟨_, _, _, [], rfl, rfl, Nat.zero_le _, .inl rfl, fun r hr => by simp at hr⟩
    · simp only [if_true] at hmeq
      subst hmeq
      have each : ∀ i, i < len0 → ∃ r : I5, W.cell? (a.add (i * 5)) = some (.int .i64 r.1) ∧ W.cell? (a.add (i * 5 + 1)) = some (.int .i64 r.2.1) ∧ W.cell? (a.add (i * 5 + 2)) = some (.int .i64 r.2.2.1) ∧ W.cell? (a.add (i * 5 + 3)) = some (.int .i64 r.2.2.2.1) ∧ W.cell? (a.add (i * 5 + 4)) = some (.string r.2.2.2.2) ∧ okI r := by
        intro i hi
        obtain ⟨cs', h1, h2⟩ := hall i (by omega)
        rw [cellsIns] at h1
        obtain ⟨_, hlen, hcell⟩ := World.cells?_some h1
        obtain ⟨y0, y1, y2, k, _, _, t0, t1, t2⟩ := trod_struct3 Tryd.underlying50 h2
        obtain ⟨z0, z1, z2, k2, _, _, u0, u1, u2⟩ := trod_struct3 Tryd.underlying23 t2
        match cs', hlen with
        | [v0, v1, v2, v3, v4], _ =>
          simp [cellsIn, cellsSt, cellsVa] at t0 t1 u0 u1 u2
          obtain ⟨x0, e0, _, _⟩ := DataW.trod_int Tryd.underlying3 t0
          obtain ⟨x1, e1, _, w1⟩ := DataW.trod_int Tryd.underlying3 t1
          obtain ⟨x2, e2, _, _⟩ := DataW.trod_int Tryd.underlying3 u0
          obtain ⟨x3, e3, _, w3⟩ := DataW.trod_int Tryd.underlying3 u1
          obtain ⟨x4, e4, _, hs⟩ := DataW.trod_string Tryd.underlying9 u2
          simp at e0 e1 e2 e3 e4
          subst e0 e1 e2 e3 e4
          have g0 := hcell 0 (by omega)
          have g1 := hcell 1 (by omega)
          have g2 := hcell 2 (by omega)
          have g3 := hcell 3 (by omega)
          have g4 := hcell 4 (by omega)
          rw [add_add] at g0 g1 g2 g3 g4
          exact ⟨(x0, x1, x2, x3, x4), by simpa using g0, by simpa using g1, by simpa using g2, by simpa using g3, by simpa using g4, int_bndI w1, int_bndI w3, hs⟩
      obtain ⟨f, hF⟩ := choose_lt (α := I5) each
      obtain ⟨sb, so, spot⟩ := a
      have hspot : spot = none := by simpa [Addr.add] using World.cell?_spot (hF 0 (by omega)).1
      subst hspot
      have hlen : ((List.range len0).map f).length = len0 := by simp
      refine ⟨_, _, _, (List.range len0).map f, rfl, hlen, by omega, .inr ⟨sb, so, rfl, ?_, ?_⟩, ?_⟩
      · have := (hF 0 (by omega)).1
        exact cell_ltI (o := so + 0 * 5) (by simpa [add_plain] using this)
      · intro j hj
        obtain ⟨c0, c1, c2, c3, c4, _⟩ := hF j (by omega)
        simp only [List.getElem_map, List.getElem_range]
        rw [add_plain] at c0 c1 c2 c3 c4
        exact ⟨c0, by rw [Nat.add_assoc]; exact c1, by rw [Nat.add_assoc]; exact c2, by rw [Nat.add_assoc]; exact c3, by rw [Nat.add_assoc]; exact c4⟩
      · intro r hr
        obtain ⟨i, hi, rfl⟩ := List.mem_map.1 hr
        exact (hF i (List.mem_range.1 hi)).2.2.2.2.2
theorem et8 : Tryd.prog.globalNamed "errors.errorType" = some 1 := by kernel_rfl
theorem rt8 : (Tryd.prog.cutTypes.find? (·.1 == "internal/reflectlite.rtype")).map (·.2) = some 168 := by kernel_rfl
theorem oneRow8 : ((List.range 247).filter fun t => Tryd.prog.rowNamed t [101, 114, 114, 111, 114]) = [32] := by kernel_rfl
theorem size8 : Tryd.prog.types.size = 247 := by kernel_rfl
/-- What the rows list. -/
abbrev laid8 : List (String × DataW Unit) := [("errors.errorType", Rows.laid_errors_errorType), ("sluicebook/row.typeWords", Rows.laid_sluicebook_row_typeWords), ("sluicebook/kind.rules", Rows.laid_sluicebook_kind_rules)]
/-- What the rows' list gives: the handle's one cell. -/
theorem handle8 {W : World} (h : laidMetH Tryd.prog laid8 W) : W.cell? ⟨1, 0, none⟩ = some (.iface 168 (.agg #[.pointer (some ⟨11, 32, none⟩)])) := by
  have h2 := (laidMetH_iff.1 h).2
  obtain ⟨name, u, ty, e1, e2, e3, e4, e5⟩ := h2 _ (List.mem_singleton.2 rfl)
  have en : name = [101, 114, 114, 111, 114] := (Option.some.inj e1).symm
  subst en
  obtain rfl := Option.some.inj (rt8.symm.trans e2)
  have hm : ty ∈ (List.range 247).filter fun t => Tryd.prog.rowNamed t [101, 114, 114, 111, 114] := List.mem_filter.2 ⟨List.mem_range.2 (by rw [← size8]; exact e3), e4⟩
  rw [oneRow8] at hm
  obtain rfl := List.mem_singleton.1 hm
  have hh : typeHandle Tryd.prog 32 = .pointer (some ⟨11, 32, none⟩) := by kernel_rfl
  rw [hh] at e5
  simpa using World.var?_cell et8 e5 0
theorem g_rul : Tryd.prog.globalNamed "sluicebook/kind.rules" = some 0 := by kernel_rfl
theorem t_rul : (Tryd.prog.globals[0]?).map (·.type) = some 119 := by kernel_rfl
set_option maxRecDepth 100000 in
theorem rul_of {W : World} {rest : List (String × DataW Unit)} (h : laidMet Tryd.prog (("sluicebook/kind.rules", Rows.laid_sluicebook_kind_rules) :: rest) W) : REnv W :=
  var_of rulesC h g_rul t_rul Tryd.underlying119 (by kernel_rfl) (by kernel_rfl)
theorem env8 {W : World} (h : laidMetH Tryd.prog laid8 W) : TW W ∧ REnv W ∧ W.cell? ⟨1, 0, none⟩ = some (.iface 168 (.agg #[.pointer (some ⟨11, 32, none⟩)])) ∧ 1 < W.heap.size := by
  have hM : laidMet Tryd.prog (("sluicebook/row.typeWords", Rows.laid_sluicebook_row_typeWords) :: ("sluicebook/kind.rules", Rows.laid_sluicebook_kind_rules) :: []) W := (laidMetH_iff.1 h).1
  have hh := handle8 h
  exact ⟨tw_of hM, rul_of hM.tail, hh, cell_ltI hh⟩
theorem colsv_of {W : World} {v : Value} (h : (∃ q c, v = .slice q 0 c) ∨ ∃ (b off c : Nat) (zs : List (ByteArray × Int)), v = .slice (some ⟨b, off, none⟩) zs.length c ∧ zs.length ≠ 0 ∧ zs.length ≤ c ∧ c ≤ maxLen ∧ (∀ z ∈ zs, z.1.size ≤ maxLen) ∧ ColsIn W b off zs) : ∃ zs, ColsV W v zs := by
  rcases h with ⟨q, c, rfl⟩ | ⟨b, off, c, zs, rfl, _, hcap, hm, hl, hc⟩
  · exact ⟨[], q, c, rfl, .inl rfl⟩
  · exact ⟨zs, _, c, rfl, .inr ⟨b, off, rfl, hcap, hl, hc⟩⟩
end Go.Proofs.YtkoejkpjkcejcabDoor
namespace Go.Proofs.YtkoejkpjkcejcabDoor
open Go.ChangeShapes Go.WideShapes Go.ChangeAt Go.RowKit Go.Joins
open Go.Deep
set_option linter.unusedVariables false

set_option maxRecDepth 100000 in
theorem open_valsW {H : Type} {enc : TypeId × Value → H} {W : World} {base : Nat} {v : Value} {d : DataW H} {p : List MemPlace} (hv : Value.okWide Tryd.prog W .any base 28 v) (h : DataW.Trod enc Tryd.prog W 0 (fun _ => true) true 28 v d p) :
    ∃ rs, ValsV W v rs ∧ SizedV rs := by
  obtain ⟨a0, len0, cap0, rfl⟩ := okWide_slice Tryd.underlying28 hv
  obtain ⟨fuel, hf⟩ := h
  rcases open_slice Tryd.underlying28 hf with ⟨hcs, hx⟩ | ⟨a, len, cap, m, n, D, Pl, hcs, _, hl, hm, hmeq, hx, hall⟩
  · simp [Value.cells] at hcs
    obtain ⟨rfl, rfl, rfl⟩ := hcs
    exact ⟨[], ⟨_, _, rfl, Nat.zero_le _, .inl rfl⟩, fun r hr => by simp at hr⟩
  · simp [Value.cells] at hcs
    obtain ⟨rfl, rfl, rfl⟩ := hcs
    by_cases h0 : len0 = 0
    · subst h0
      exact ⟨[], ⟨_, _, rfl, Nat.zero_le _, .inl rfl⟩, fun r hr => by simp at hr⟩
    · simp only [if_true] at hmeq
      subst hmeq
      have each : ∀ i, i < len0 → ∃ r : V3, W.cell? (a.add (i * 3)) = some (.int .i64 r.1) ∧ W.cell? (a.add (i * 3 + 1)) = some (.int .i64 r.2.1) ∧ W.cell? (a.add (i * 3 + 2)) = some (.string r.2.2) ∧ r.2.2.size ≤ maxLen ∧ (-9223372036854775808 ≤ r.2.1 ∧ r.2.1 ≤ 9223372036854775807) := by
        intro i hi
        obtain ⟨cs', h1, h2⟩ := hall i (by omega)
        rw [cellsVa] at h1
        obtain ⟨_, hlen, hcell⟩ := World.cells?_some h1
        obtain ⟨y0, y1, y2, k, _, _, t0, t1, t2⟩ := trod_struct3 Tryd.underlying23 h2
        match cs', hlen with
        | [v0, v1, v2], _ =>
          simp [cellsIn, cellsSt] at t0 t1 t2
          obtain ⟨x0, e0, _, _⟩ := DataW.trod_int Tryd.underlying3 t0
          obtain ⟨x1, e1, _, w1⟩ := DataW.trod_int Tryd.underlying3 t1
          obtain ⟨x2, e2, _, hs⟩ := DataW.trod_string Tryd.underlying9 t2
          simp at e0 e1 e2
          subst e0 e1 e2
          have g0 := hcell 0 (by omega)
          have g1 := hcell 1 (by omega)
          have g2 := hcell 2 (by omega)
          rw [add_add] at g0 g1 g2
          exact ⟨(x0, x1, x2), by simpa using g0, by simpa using g1, by simpa using g2, hs, int_bndI w1⟩
      obtain ⟨f, hF⟩ := choose_lt (α := V3) each
      obtain ⟨sb, so, spot⟩ := a
      have hspot : spot = none := by simpa [Addr.add] using World.cell?_spot (hF 0 (by omega)).1
      subst hspot
      have hlen : ((List.range len0).map f).length = len0 := by simp
      refine ⟨(List.range len0).map f, ⟨_, _, by rw [hlen], by omega, .inr ⟨sb, so, rfl, ?_, ?_⟩⟩, ?_⟩
      · have := (hF 0 (by omega)).1
        exact cell_ltI (o := so + 0 * 3) (by simpa [add_plain] using this)
      · intro j hj
        obtain ⟨c0, c1, c2, _, _⟩ := hF j (by omega)
        simp only [List.getElem_map, List.getElem_range]
        rw [add_plain] at c0 c1 c2
        exact ⟨c0, by rw [Nat.add_assoc]; exact c1, by rw [Nat.add_assoc]; exact c2⟩
      · intro r hr
        obtain ⟨i, hi, rfl⟩ := List.mem_map.1 hr
        obtain ⟨_, _, _, h1, h2⟩ := hF i (List.mem_range.1 hi)
        exact ⟨h1, h2⟩
namespace vmCard
theorem own : ownKnob Tryd.prog.godebug = none := by kernel_rfl
/-- The cells of a datum of numbers and texts. -/
def flat : Nat → DataW Unit → List Value
  | 0, _ => []
  | _ + 1, .lit (.int k n) => [.int k n]
  | _ + 1, .lit (.string l) => [.string ⟨l.toArray⟩]
  | f + 1, .agg l => l.flatMap (flat f)
  | _ + 1, _ => []
def layAt (w : World) (g : Nat) (cs : List Value) : World :=
  { w with heap := w.heap.modify g fun
      | .cells _ t frozen => .cells cs.toArray t frozen
      | o => o }
/-- A world with the variables' cells laid. -/
def lay (w : World) : World :=
  layAt (layAt (layAt w 4 (flat 3 Rows.laid_sluicebook_row_typeWords)) 0 (flat 5 Rows.laid_sluicebook_kind_rules)) 1 [.iface 168 (.agg #[.pointer (some ⟨11, 32, none⟩)])]
end vmCard
end Go.Proofs.YtkoejkpjkcejcabDoor
