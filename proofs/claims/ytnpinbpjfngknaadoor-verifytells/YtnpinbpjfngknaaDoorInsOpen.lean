/-
  Instructions that are handed in, opened; what the laid variables give: the handle of the type error, the rules.
-/
import Derived.Test.YtnpinbpjfngknaaDoorCdO
import Derived.Test.YtnpinbpjfngknaaDoorColV
import Derived.Test.YtnpinbpjfngknaaDoorColsOpen
import Derived.Test.YtnpinbpjfngknaaDoorVarOf
import Derived.Test.YtnpinbpjfngknaaDoorRows
import Derived.LaidHandle
import Derived.LaidSub
import Derived.ProofKit
import Derived.OpenShut
import Derived.SizedLaws
import Derived.Stop.LaidErr
import Derived.Lib.SmallJoins
import Derived.Deep.SlicePairs
import Derived.Deep.Strs
namespace Go.Proofs.YtnpinbpjfngknaaDoor
open Go.ChangeShapes Go.WideShapes Go.ChangeAt Go.RowKit Go.Joins
open Go.ChangeMaps (open_string shut_string)
open Go.Deep

theorem int_bndI {x : Int} (h : (Lit.int .i64 x).wf = true) : -9223372036854775808 ≤ x ∧ x ≤ 9223372036854775807 := by
  simpa [Lit.wf, IntKind.min, IntKind.max, IntKind.signed, IntKind.bits] using h
theorem cell_ltI {w : World} {b o : Nat} {v : Value} (h : w.cell? ⟨b, o, none⟩ = some v) : b < w.heap.size := by
  rcases Nat.lt_or_ge b w.heap.size with h' | h'
  · exact h'
  · simp [World.cell?, Array.getElem?_eq_none h'] at h
theorem cellsVa : Tryd.prog.cellsOf 35 = 3 := by kernel_rfl
theorem cellsIns : Tryd.prog.cellsOf 37 = 5 := by kernel_rfl
theorem cellsIn : Tryd.prog.cellsOf 3 = 1 := by kernel_rfl
theorem cellsSt : Tryd.prog.cellsOf 9 = 1 := by kernel_rfl
set_option maxRecDepth 100000 in
/-- Instructions that are handed in. -/
theorem open_ins {H : Type} {enc : TypeId × Value → H} {W : World} {base : Nat} {v : Value} {d : DataW H} {p : List MemPlace} (hv : Value.okWide Tryd.prog W .any base 22 v) (h : DataW.Trod enc Tryd.prog W 0 (fun _ => true) true 22 v d p) :
    ∃ (q : Option Addr) (N c : Nat) (is : List I5), v = .slice q N c ∧ is.length = N ∧ N ≤ maxLen ∧ InsAt W q is ∧ ∀ i ∈ is, okI i := by
  obtain ⟨a0, len0, cap0, rfl⟩ := okWide_slice Tryd.underlying22 hv
  obtain ⟨fuel, hf⟩ := h
  rcases open_slice Tryd.underlying22 hf with ⟨hcs, hx⟩ | ⟨a, len, cap, m, n, D, Pl, hcs, _, hl, hm, hmeq, hx, hall⟩
  · simp [Value.cells] at hcs
    obtain ⟨rfl, rfl, rfl⟩ := hcs
    exact ⟨_, _, _, [], rfl, rfl, Nat.zero_le _, .inl rfl, fun r hr => by simp at hr⟩
  · simp [Value.cells] at hcs
    obtain ⟨rfl, rfl, rfl⟩ := hcs
    by_cases h0 : len0 = 0
    · subst h0
      exact ⟨_, _, _, [], rfl, rfl, Nat.zero_le _, .inl rfl, fun r hr => by simp at hr⟩
    · simp only [if_true] at hmeq
      subst hmeq
      have each : ∀ i, i < len0 → ∃ r : I5, W.cell? (a.add (i * 5)) = some (.int .i64 r.1) ∧ W.cell? (a.add (i * 5 + 1)) = some (.int .i64 r.2.1) ∧ W.cell? (a.add (i * 5 + 2)) = some (.int .i64 r.2.2.1) ∧ W.cell? (a.add (i * 5 + 3)) = some (.int .i64 r.2.2.2.1) ∧ W.cell? (a.add (i * 5 + 4)) = some (.string r.2.2.2.2) ∧ okI r := by
        intro i hi
        obtain ⟨cs', h1, h2⟩ := hall i (by omega)
        rw [cellsIns] at h1
        obtain ⟨_, hlen, hcell⟩ := World.cells?_some h1
        obtain ⟨y0, y1, y2, k, _, _, t0, t1, t2⟩ := trod_struct3 Tryd.underlying37 h2
        obtain ⟨z0, z1, z2, k2, _, _, u0, u1, u2⟩ := trod_struct3 Tryd.underlying35 t2
        match cs', hlen with
        | [v0, v1, v2, v3, v4], _ =>
          simp [cellsIn, cellsSt, cellsVa] at t0 t1 u0 u1 u2
          obtain ⟨x0, e0, _, _⟩ := DataW.trod_int Tryd.underlying3 t0
          obtain ⟨x1, e1, _, w1⟩ := DataW.trod_int Tryd.underlying3 t1
          obtain ⟨x2, e2, _, _⟩ := DataW.trod_int Tryd.underlying3 u0
          obtain ⟨x3, e3, _, w3⟩ := DataW.trod_int Tryd.underlying3 u1
          obtain ⟨x4, e4, _, hs⟩ := DataW.trod_string Tryd.underlying9 u2
          simp at e0 e1 e2 e3 e4
          subst e0 e1 e2 e3 e4
          have g0 := hcell 0 (by omega)
          have g1 := hcell 1 (by omega)
          have g2 := hcell 2 (by omega)
          have g3 := hcell 3 (by omega)
          have g4 := hcell 4 (by omega)
          rw [add_add] at g0 g1 g2 g3 g4
          exact ⟨(x0, x1, x2, x3, x4), by simpa using g0, by simpa using g1, by simpa using g2, by simpa using g3, by simpa using g4, int_bndI w1, int_bndI w3, hs⟩
      obtain ⟨f, hF⟩ := choose_lt (α := I5) each
      obtain ⟨sb, so, spot⟩ := a
      have hspot : spot = none := by simpa [Addr.add] using World.cell?_spot (hF 0 (by omega)).1
      subst hspot
      have hlen : ((List.range len0).map f).length = len0 := by simp
      refine ⟨_, _, _, (List.range len0).map f, rfl, hlen, by omega, .inr ⟨sb, so, rfl, ?_, ?_⟩, ?_⟩
      · have := (hF 0 (by omega)).1
        exact cell_ltI (o := so + 0 * 5) (by simpa [add_plain] using this)
      · intro j hj
        obtain ⟨c0, c1, c2, c3, c4, _⟩ := hF j (by omega)
        simp only [List.getElem_map, List.getElem_range]
        rw [add_plain] at c0 c1 c2 c3 c4
        exact ⟨c0, by rw [Nat.add_assoc]; exact c1, by rw [Nat.add_assoc]; exact c2, by rw [Nat.add_assoc]; exact c3, by rw [Nat.add_assoc]; exact c4⟩
      · intro r hr
        obtain ⟨i, hi, rfl⟩ := List.mem_map.1 hr
        exact (hF i (List.mem_range.1 hi)).2.2.2.2.2
theorem et8 : Tryd.prog.globalNamed "errors.errorType" = some 0 := by kernel_rfl
theorem rt8 : (Tryd.prog.cutTypes.find? (·.1 == "internal/reflectlite.rtype")).map (·.2) = some 96 := by kernel_rfl
theorem oneRow8 : ((List.range 163).filter fun t => Tryd.prog.rowNamed t [101, 114, 114, 111, 114]) = [27] := by kernel_rfl
theorem size8 : Tryd.prog.types.size = 163 := by kernel_rfl
/-- What the rows list. -/
abbrev laid8 : List (String × DataW Unit) := [("errors.errorType", Rows.laid_errors_errorType), ("sluicebook/row.typeWords", Rows.laid_sluicebook_row_typeWords), ("sluicebook/kind.rules", Rows.laid_sluicebook_kind_rules)]
/-- What the rows' list gives: the handle's one cell. -/
theorem handle8 {W : World} (h : laidMetH Tryd.prog laid8 W) : W.cell? ⟨0, 0, none⟩ = some (.iface 96 (.agg #[.pointer (some ⟨3, 27, none⟩)])) := by
  have h2 := (laidMetH_iff.1 h).2
  obtain ⟨name, u, ty, e1, e2, e3, e4, e5⟩ := h2 _ (List.mem_singleton.2 rfl)
  have en : name = [101, 114, 114, 111, 114] := (Option.some.inj e1).symm
  subst en
  obtain rfl := Option.some.inj (rt8.symm.trans e2)
  have hm : ty ∈ (List.range 163).filter fun t => Tryd.prog.rowNamed t [101, 114, 114, 111, 114] := List.mem_filter.2 ⟨List.mem_range.2 (by rw [← size8]; exact e3), e4⟩
  rw [oneRow8] at hm
  obtain rfl := List.mem_singleton.1 hm
  have hh : typeHandle Tryd.prog 27 = .pointer (some ⟨3, 27, none⟩) := by kernel_rfl
  rw [hh] at e5
  simpa using World.var?_cell et8 e5 0
theorem g_rul : Tryd.prog.globalNamed "sluicebook/kind.rules" = some 2 := by kernel_rfl
theorem t_rul : (Tryd.prog.globals[2]?).map (·.type) = some 126 := by kernel_rfl
set_option maxRecDepth 100000 in
theorem rul_of {W : World} {rest : List (String × DataW Unit)} (h : laidMet Tryd.prog (("sluicebook/kind.rules", Rows.laid_sluicebook_kind_rules) :: rest) W) : REnv W :=
  var_of rulesC h g_rul t_rul Tryd.underlying126 (by kernel_rfl) (by kernel_rfl)
theorem env8 {W : World} (h : laidMetH Tryd.prog laid8 W) : TW W ∧ REnv W ∧ W.cell? ⟨0, 0, none⟩ = some (.iface 96 (.agg #[.pointer (some ⟨3, 27, none⟩)])) ∧ 0 < W.heap.size := by
  have hM : laidMet Tryd.prog (("sluicebook/row.typeWords", Rows.laid_sluicebook_row_typeWords) :: ("sluicebook/kind.rules", Rows.laid_sluicebook_kind_rules) :: []) W := (laidMetH_iff.1 h).1
  have hh := handle8 h
  exact ⟨tw_of hM, rul_of hM.tail, hh, cell_ltI hh⟩
theorem colsv_of {W : World} {v : Value} (h : (∃ q c, v = .slice q 0 c) ∨ ∃ (b off c : Nat) (zs : List (ByteArray × Int)), v = .slice (some ⟨b, off, none⟩) zs.length c ∧ zs.length ≠ 0 ∧ zs.length ≤ c ∧ c ≤ maxLen ∧ (∀ z ∈ zs, z.1.size ≤ maxLen) ∧ ColsIn W b off zs) : ∃ zs, ColsV W v zs := by
  rcases h with ⟨q, c, rfl⟩ | ⟨b, off, c, zs, rfl, _, hcap, hm, hl, hc⟩
  · exact ⟨[], q, c, rfl, .inl rfl⟩
  · exact ⟨zs, _, c, rfl, .inr ⟨b, off, rfl, hcap, hl, hc⟩⟩
end Go.Proofs.YtnpinbpjfngknaaDoor
