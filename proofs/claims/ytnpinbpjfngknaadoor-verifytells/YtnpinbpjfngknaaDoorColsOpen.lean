/-
  A list of columns that is handed in, opened; and what the laid variable of the types' words gives.
-/
import Derived.Test.YtnpinbpjfngknaaDoorRow5
import Derived.Test.YtnpinbpjfngknaaDoorRows
import Derived.Deep.SlicePairs
import Derived.OpenShut
import Derived.Carry
import Derived.ProofKit
namespace Go.Proofs.YtnpinbpjfngknaaDoor
open Go.ChangeShapes Go.WideShapes Go.ChangeAt Go.RowKit Go.Deep

theorem laidOut : laidOutB Tryd.prog = true := by kernel_rfl
theorem cellsCol : Tryd.prog.cellsOf 33 = 2 := by kernel_rfl
theorem cellsStr : Tryd.prog.cellsOf 9 = 1 := by kernel_rfl
theorem cellsInt : Tryd.prog.cellsOf 3 = 1 := by kernel_rfl
set_option maxRecDepth 100000 in
theorem open_cols {H : Type} {enc : TypeId × Value → H} {W : World} {base : Nat} {v : Value} {d : DataW H} {p : List MemPlace} (hv : Value.okWide Tryd.prog W .any base 23 v) (h : DataW.Trod enc Tryd.prog W 0 (fun _ => true) true 23 v d p) :
    (∃ q c, v = .slice q 0 c) ∨ ∃ (b off c : Nat) (zs : List (ByteArray × Int)), v = .slice (some ⟨b, off, none⟩) zs.length c ∧ zs.length ≠ 0 ∧ zs.length ≤ c ∧ c ≤ maxLen ∧ (∀ z ∈ zs, z.1.size ≤ maxLen) ∧ ColsIn W b off zs := by
  obtain ⟨a0, len0, cap0, rfl⟩ := okWide_slice Tryd.underlying23 hv
  obtain ⟨fuel, hf⟩ := h
  rcases open_slice_pairs Tryd.underlying23 Tryd.underlying33 cellsCol rfl rfl cellsStr cellsInt hf with ⟨hcs, hx⟩ | ⟨a, len, cap, m, n, V0, V1, D0, D1, P0, P1, hcs, _, hl, hm, hmeq, hx, hall⟩
  · simp [Value.cells] at hcs
    obtain ⟨rfl, rfl, rfl⟩ := hcs
    exact Or.inl ⟨_, _, rfl⟩
  · simp [Value.cells] at hcs
    obtain ⟨rfl, rfl, rfl⟩ := hcs
    by_cases h0 : len0 = 0
    · subst h0
      exact Or.inl ⟨_, _, rfl⟩
    · right
      simp only [if_true] at hmeq
      subst hmeq
      obtain ⟨sb, so, spot⟩ := a
      have hspot : spot = none := by simpa [Addr.add] using World.cell?_spot (hall 0 (by omega)).1
      subst hspot
      obtain ⟨f, hF⟩ := choose_lt (α := ByteArray × Int) (n := len0) (p := fun i z => V0 i = .string z.1 ∧ V1 i = .int .i64 z.2 ∧ z.1.size ≤ maxLen) (fun i hi => by
        obtain ⟨_, _, t0, t1⟩ := hall i (by omega)
        obtain ⟨s, e0, _, hs⟩ := DataW.trod_string Tryd.underlying9 t0
        obtain ⟨k, e1, _, _⟩ := DataW.trod_int Tryd.underlying3 t1
        exact ⟨(s, k), by simpa using e0, by simpa using e1, hs⟩)
      have hlen : ((List.range len0).map f).length = len0 := by simp
      refine ⟨sb, so, _, (List.range len0).map f, by rw [hlen], by omega, by omega, hm, ?_, ?_, ?_⟩
      · intro z hz
        obtain ⟨i, hi, rfl⟩ := List.mem_map.1 hz
        exact (hF i (List.mem_range.1 hi)).2.2
      · have := (hall 0 (by omega)).1
        exact cell_lt' (o := so + 0 * 2) (by simpa [Addr.add] using this)
      · intro j hj
        have hj' : j < len0 := by omega
        obtain ⟨c0, c1, _, _⟩ := hall j (by omega)
        obtain ⟨e0, e1, _⟩ := hF j hj'
        rw [e0] at c0
        rw [e1] at c1
        simp only [List.getElem_map, List.getElem_range]
        exact ⟨by simpa [add_plain] using c0, by simpa [add_plain, Nat.add_assoc] using c1⟩

theorem g_tw : Tryd.prog.globalNamed "sluicebook/row.typeWords" = some 1 := by kernel_rfl
theorem t_tw : (Tryd.prog.globals[1]?).map (·.type) = some 122 := by kernel_rfl
theorem cellsTW : Tryd.prog.cellsOf 86 = 2 := by kernel_rfl
theorem cellsTA : Tryd.prog.cellsOf 122 = 6 := by kernel_rfl
set_option maxRecDepth 100000 in
/-- One word of the variable, from its two cells. -/
theorem tw_open {W : World} {m : Nat} {x y : Value} {a : Int} {l : List UInt8} {ps : List MemPlace} (h : DataW.trod (fun _ => ()) Tryd.prog W 0 (fun _ => true) false m 86 [x, y] = some (DataW.agg [.lit (.int .i64 a), .lit (.string l)], ps)) : x = .int .i64 a ∧ y = .string ⟨l.toArray⟩ := by
  obtain ⟨y0, y1, n, e, _, h0, h1⟩ := trod_struct2 Tryd.underlying86 h
  simp [cellsInt, cellsStr] at h0 h1
  obtain ⟨k, e0, r0, _⟩ := DataW.trod_int Tryd.underlying3 h0
  obtain ⟨s, e1, r1, _⟩ := DataW.trod_string Tryd.underlying9 h1
  simp at e0 e1
  subst e0 e1 r0 r1
  simp at e
  obtain ⟨⟨rfl, rfl⟩, _⟩ := e
  exact ⟨rfl, by simp⟩
set_option maxRecDepth 100000 in
theorem tw_of {W : World} {rest : List (String × DataW Unit)} (h : laidMet Tryd.prog (("sluicebook/row.typeWords", Rows.laid_sluicebook_row_typeWords) :: rest) W) : TW W := by
  obtain ⟨ps, ⟨g', t', cs, fuel, p, q, hg', ht', hvar, hd, _, _⟩, _⟩ := h
  obtain rfl := Option.some.inj (g_tw.symm.trans hg')
  obtain rfl := Option.some.inj (t_tw.symm.trans ht')
  obtain ⟨xs, m, _, hx, hl, hlen, hel⟩ := DataW.trod_array Tryd.underlying122 hd
  rw [cellsTA] at hl
  rw [cellsTW] at hel
  have hcs : ∃ c0 c1 c2 c3 c4 c5, cs = #[c0, c1, c2, c3, c4, c5] := by
    obtain ⟨l⟩ := cs
    match l, hl with
    | [c0, c1, c2, c3, c4, c5], _ => exact ⟨_, _, _, _, _, _, rfl⟩
  obtain ⟨c0, c1, c2, c3, c4, c5, rfl⟩ := hcs
  match xs, hlen with
  | [x0, x1, x2], _ =>
    obtain ⟨d0, q0⟩ := x0
    obtain ⟨d1, q1⟩ := x1
    obtain ⟨d2, q2⟩ := x2
    have hx2 := congrArg Prod.fst hx
    simp [Rows.laid_sluicebook_row_typeWords] at hx2
    obtain ⟨r0, r1, r2⟩ := hx2
    subst r0 r1 r2
    obtain ⟨e0, e1⟩ := tw_open (by simpa using hel 0 (by decide))
    obtain ⟨e2, e3⟩ := tw_open (by simpa using hel 1 (by decide))
    obtain ⟨e4, e5⟩ := tw_open (by simpa using hel 2 (by decide))
    subst e0 e1 e2 e3 e4 e5
    have hc := fun i => World.var?_cell g_tw hvar i
    exact ⟨by simpa using hc 0, by simpa using hc 1, by simpa using hc 2, by simpa using hc 3, by simpa using hc 4, by simpa using hc 5, cell_lt' (o := 0) (by simpa using hc 0)⟩
end Go.Proofs.YtnpinbpjfngknaaDoor
