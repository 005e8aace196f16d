/-
  A list of values that is handed in, opened.
-/
import Derived.Test.YtggabncpedcmdaaGreatDoorColsOpen
import Derived.Test.YtggabncpedcmdaaGreatDoorRowBackWalk
import Derived.Deep.Strs
namespace Go.Proofs.YtggabncpedcmdaaGreatDoor
open Go.ChangeShapes Go.WideShapes Go.ChangeAt Go.RowKit Go.Deep

theorem cellsValT : Tryz.prog.cellsOf 23 = 3 := by kernel_rfl
theorem int_bounds {x : Int} (h : (Lit.int .i64 x).wf = true) : -9223372036854775808 ≤ x ∧ x ≤ 9223372036854775807 := by
  simpa [Lit.wf, IntKind.min, IntKind.max, IntKind.signed, IntKind.bits] using h
set_option maxRecDepth 100000 in
theorem open_vals {H : Type} {enc : TypeId × Value → H} {W : World} {base : Nat} {v : Value} {d : DataW H} {p : List MemPlace} (hv : Value.okWide Tryz.prog W .any base 44 v) (h : DataW.Trod enc Tryz.prog W 0 (fun _ => true) true 44 v d p) :
    ∃ rs, IsVals W v rs ∧ Sized rs := by
  obtain ⟨a0, len0, cap0, rfl⟩ := okWide_slice Tryz.underlying44 hv
  obtain ⟨fuel, hf⟩ := h
  rcases open_slice Tryz.underlying44 hf with ⟨hcs, hx⟩ | ⟨a, len, cap, m, n, D, Pl, hcs, _, hl, hm, hmeq, hx, hall⟩
  · simp [Value.cells] at hcs
    obtain ⟨rfl, rfl, rfl⟩ := hcs
    exact ⟨[], ⟨_, _, rfl, Nat.zero_le _, .inl rfl⟩, fun r hr => by simp at hr⟩
  · simp [Value.cells] at hcs
    obtain ⟨rfl, rfl, rfl⟩ := hcs
    by_cases h0 : len0 = 0
    · subst h0
      exact ⟨[], ⟨_, _, rfl, Nat.zero_le _, .inl rfl⟩, fun r hr => by simp at hr⟩
    · simp only [if_true] at hmeq
      subst hmeq
      have each : ∀ i, i < len0 → ∃ r : Int × Int × ByteArray, W.cell? (a.add (i * 3)) = some (.int .i64 r.1) ∧ W.cell? (a.add (i * 3 + 1)) = some (.int .i64 r.2.1) ∧ W.cell? (a.add (i * 3 + 2)) = some (.string r.2.2) ∧ r.2.2.size ≤ maxLen ∧ (-9223372036854775808 ≤ r.2.1 ∧ r.2.1 ≤ 9223372036854775807) := by
        intro i hi
        obtain ⟨cs', h1, h2⟩ := hall i (by omega)
        rw [cellsValT] at h1
        obtain ⟨_, hlen, hcell⟩ := World.cells?_some h1
        obtain ⟨y0, y1, y2, k, _, _, t0, t1, t2⟩ := trod_struct3 Tryz.underlying23 h2
        match cs', hlen with
        | [v0, v1, v2], _ =>
          simp [cellsInt, cellsStr] at t0 t1 t2
          obtain ⟨x0, e0, _, _⟩ := DataW.trod_int Tryz.underlying3 t0
          obtain ⟨x1, e1, _, w1⟩ := DataW.trod_int Tryz.underlying3 t1
          obtain ⟨x2, e2, _, hs⟩ := DataW.trod_string Tryz.underlying9 t2
          simp at e0 e1 e2
          subst e0 e1 e2
          have g0 := hcell 0 (by omega)
          have g1 := hcell 1 (by omega)
          have g2 := hcell 2 (by omega)
          rw [add_add] at g0 g1 g2
          exact ⟨(x0, x1, x2), by simpa using g0, by simpa using g1, by simpa using g2, hs, int_bounds w1⟩
      obtain ⟨f, hF⟩ := choose_lt (α := Int × Int × ByteArray) each
      obtain ⟨sb, so, spot⟩ := a
      have hspot : spot = none := by simpa [Addr.add] using World.cell?_spot (hF 0 (by omega)).1
      subst hspot
      have hlen : ((List.range len0).map f).length = len0 := by simp
      refine ⟨(List.range len0).map f, ⟨_, _, by rw [hlen], by omega, .inr ⟨sb, so, rfl, ?_, ?_⟩⟩, ?_⟩
      · have := (hF 0 (by omega)).1
        exact cell_lt' (o := so + 0 * 3) (by simpa [add_plain] using this)
      · intro j hj
        obtain ⟨c0, c1, c2, _, _⟩ := hF j (by omega)
        simp only [List.getElem_map, List.getElem_range]
        rw [add_plain] at c0 c1 c2
        exact ⟨c0, by rw [Nat.add_assoc]; exact c1, by rw [Nat.add_assoc]; exact c2⟩
      · intro r hr
        obtain ⟨i, hi, rfl⟩ := List.mem_map.1 hr
        obtain ⟨_, _, _, h1, h2⟩ := hF i (List.mem_range.1 hi)
        exact ⟨h1, h2⟩
set_option maxRecDepth 100000 in
theorem open_cols_is {H : Type} {enc : TypeId × Value → H} {W : World} {base : Nat} {v : Value} {d : DataW H} {p : List MemPlace} (hv : Value.okWide Tryz.prog W .any base 43 v) (h : DataW.Trod enc Tryz.prog W 0 (fun _ => true) true 43 v d p) :
    ∃ zs, IsCols W v zs := by
  rcases open_cols hv h with ⟨q, c, rfl⟩ | ⟨b, off, c, zs, rfl, h0, hcap, hm, hz, hc⟩
  · exact ⟨[], _, _, rfl, Nat.zero_le _, Nat.zero_le _, fun z hz => by simp at hz, .inl rfl⟩
  · exact ⟨zs, _, _, rfl, hcap, by omega, hz, .inr ⟨b, off, rfl, hc⟩⟩
end Go.Proofs.YtggabncpedcmdaaGreatDoor
