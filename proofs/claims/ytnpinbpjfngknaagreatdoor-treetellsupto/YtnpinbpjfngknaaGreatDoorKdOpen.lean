/-
  Expressions that are handed in, opened: what lies of them in memory, and that they have no more nodes than their reading has values.
-/
import Derived.Test.YtnpinbpjfngknaaGreatDoorLo8
import Derived.Test.YtnpinbpjfngknaaGreatDoorColsOpen
import Derived.Deep.Strs
namespace Go.Proofs.YtnpinbpjfngknaaGreatDoor
open Go.ChangeShapes Go.WideShapes Go.ChangeAt Go.RowKit Go.Deep
set_option linter.unusedVariables false

instance : Inhabited Ex := ⟨.node ⟨#[]⟩ ⟨#[]⟩ 0 0 ⟨#[]⟩ 0 []⟩
theorem pres_bulk {H : Type} : ∀ (l : List Ex) (es : List (DataW H)), l.length = es.length → (∀ i (h : i < l.length) (h2 : i < es.length), (l[i].pre 1).length ≤ Rows.uptoBulk es[i]) → (Ex.pres 2 l).length ≤ Rows.uptoBulkAll es
  | [], [], _, _ => by rw [Ex.pres]; simp
  | x :: xs, e :: es, hl, h => by
    rw [Ex.pres, List.length_append, Rows.uptoBulkAll]
    have h0 := h 0 (by simp) (by simp)
    have h1 : (x.pre 1).length = (x.pre 2).length := by rw [pre_shift x 1]; simp
    have h2 := pres_bulk xs es (by simpa using hl) fun i a b => by
      have := h (i + 1) (by simpa using a) (by simpa using b)
      simpa using this
    simp only [List.getElem_cons_zero] at h0
    omega
  | [], _ :: _, hl, _ => by simp at hl
  | _ :: _, [], hl, _ => by simp at hl
theorem cellsEx : Tryz.prog.cellsOf 26 = 7 := by kernel_rfl
theorem cellsVl : Tryz.prog.cellsOf 23 = 3 := by kernel_rfl
theorem cellsSx : Tryz.prog.cellsOf 24 = 1 := by kernel_rfl
/-- The numbers of an expression are a machine's. -/
def Ex.bd (x : Ex) : Prop := ∀ d, ∀ q ∈ x.pre d, -9223372036854775808 ≤ q.1.vn ∧ q.1.vn ≤ 9223372036854775807
theorem mem_presO {d : Nat} {q : Ex × Nat} : ∀ {l : List Ex}, q ∈ Ex.pres d l → ∃ y ∈ l, q ∈ y.pre d
  | [], h => by rw [Ex.pres] at h; cases h
  | x :: xs, h => by
    rw [Ex.pres] at h
    rcases List.mem_append.1 h with h | h
    · exact ⟨x, by simp, h⟩
    · obtain ⟨y, hy, h⟩ := mem_presO h
      exact ⟨y, by simp [hy], h⟩
theorem bd_node {op nm vs : ByteArray} {vt vn pos : Int} {l : List Ex} (h : -9223372036854775808 ≤ vn ∧ vn ≤ 9223372036854775807) (hl : ∀ y ∈ l, y.bd) : (Ex.node op nm vt vn vs pos l).bd := by
  intro d q hq
  rw [Ex.pre] at hq
  rcases List.mem_cons.1 hq with rfl | hq
  · exact h
  · obtain ⟨y, hy, hq⟩ := mem_presO hq
    exact hl y hy _ q hq
theorem int_bd {x : Int} (h : (Lit.int .i64 x).wf = true) : -9223372036854775808 ≤ x ∧ x ≤ 9223372036854775807 := by
  simpa [Lit.wf, IntKind.min, IntKind.max, IntKind.signed, IntKind.bits] using h
/-- Expressions one behind the other, each opened. -/
theorem exs_of {W : World} {a : Addr} {len : Nat} {B : Nat → Nat} (hel : ∀ i, i < len → ∃ x : Ex, ∃ ci : List Value, W.cells? 0 (a.add (i * 7)) 7 = some ci ∧ ExIn W (fun _ => True) (.agg ci.toArray) x ∧ ci.length = 7 ∧ (x.pre 1).length ≤ B i ∧ x.bd) :
    ∃ l : List Ex, l.length = len ∧ (len = 0 ∨ ∃ b off, some a = some (⟨b, off, none⟩ : Addr) ∧ b < W.heap.size ∧ True ∧ ExsIn W (fun _ => True) b off l) ∧ ∀ i (h : i < l.length), (l[i].pre 1).length ≤ B i ∧ l[i].bd := by
  obtain ⟨f, hF⟩ := choose_lt hel
  refine ⟨(List.range len).map f, by simp, ?_, fun i h => ?_⟩
  · by_cases h0 : len = 0
    · exact .inl h0
    · right
      obtain ⟨b, off, spot⟩ := a
      obtain ⟨c0, hc0, _, hl0, _⟩ := hF 0 (by omega)
      have he := (World.cells?_some hc0).2.2 0 (by omega)
      rw [List.getElem?_eq_getElem (by omega)] at he
      have hspot : spot = none := by simpa [Addr.add] using World.cell?_spot he
      subst hspot
      refine ⟨b, off, rfl, cell_lt' (o := off) (by simpa [Addr.add] using he), trivial, exsIn_mk _ _ _ _ _ fun j hj => ?_⟩
      have hj' : j < len := by simpa using hj
      obtain ⟨cj, hcj, hxj, hlj, _⟩ := hF j hj'
      have hc := (World.cells?_some hcj).2.2
      match cj, hlj with
      | [v0, v1, v2, v3, v4, v5, v6], _ =>
        refine ⟨v0, v1, v2, v3, v4, v5, v6, ?_, ?_, ?_, ?_, ?_, ?_, ?_, ?_⟩
        · simpa [add_plain] using hc 0 (by decide)
        · simpa [add_plain, Nat.add_assoc] using hc 1 (by decide)
        · simpa [add_plain, Nat.add_assoc] using hc 2 (by decide)
        · simpa [add_plain, Nat.add_assoc] using hc 3 (by decide)
        · simpa [add_plain, Nat.add_assoc] using hc 4 (by decide)
        · simpa [add_plain, Nat.add_assoc] using hc 5 (by decide)
        · simpa [add_plain, Nat.add_assoc] using hc 6 (by decide)
        · simp only [List.getElem_map, List.getElem_range]
          exact hxj
  · have hi : i < len := by simpa using h
    obtain ⟨_, _, _, _, hb, hd⟩ := hF i hi
    simp only [List.getElem_map, List.getElem_range]
    exact ⟨hb, hd⟩
set_option maxHeartbeats 1000000 in
set_option maxRecDepth 100000 in
theorem open_ex {H : Type} {enc : TypeId × Value → H} {W : World} : ∀ (fuel : Nat) (cs : List Value) (d : DataW H) (ps : List MemPlace), DataW.trod enc Tryz.prog W 0 (fun _ => true) true fuel 26 cs = some (d, ps) → ∃ x, ExIn W (fun _ => True) (.agg cs.toArray) x ∧ cs.length = 7 ∧ (x.pre 1).length ≤ Rows.uptoBulk d ∧ x.bd := by
  intro fuel
  induction fuel using Nat.strongRecOn with
  | ind fuel ih =>
    intro cs d ps h
    obtain ⟨xs, n, hfu, hx, hl, hlen, hf⟩ := DataW.trod_struct Tryz.underlying26 h
    rw [cellsEx] at hl
    match cs, hl, xs, hlen with
    | [c0, c1, c2, c3, c4, c5, c6], _, [y0, y1, y2, y3, y4], _ =>
      have t0 := hf 0 _ rfl
      have t1 := hf 1 _ rfl
      have t2 := hf 2 _ rfl
      have t3 := hf 3 _ rfl
      have t4 := hf 4 _ rfl
      simp [cellsStr, cellsInt, cellsVl, cellsSx] at t0 t1 t2 t3 t4
      obtain ⟨s0, e0, r0, z0⟩ := DataW.trod_string Tryz.underlying9 t0
      obtain ⟨s1, e1, r1, z1⟩ := DataW.trod_string Tryz.underlying9 t1
      obtain ⟨k6, e6, r6, z6⟩ := DataW.trod_int Tryz.underlying3 t4
      obtain ⟨w0, w1, w2, m2, r2, _, v0, v1, v2⟩ := trod_struct3 Tryz.underlying23 t2
      simp [cellsStr, cellsInt] at v0 v1 v2
      obtain ⟨k2, e2, q2, _⟩ := DataW.trod_int Tryz.underlying3 v0
      obtain ⟨k3, e3, q3, z3⟩ := DataW.trod_int Tryz.underlying3 v1
      obtain ⟨s4, e4, q4, z4⟩ := DataW.trod_string Tryz.underlying9 v2
      simp at e0 e1 e2 e3 e4 e6
      subst e0 e1 e2 e3 e4 e6
      obtain ⟨rfl, rfl⟩ := Prod.mk.inj hx
      rcases DataW.trod_slice Tryz.underlying24 t3 with ⟨hcs, hy⟩ | ⟨a, len, cap, elems, rest, m, hm, hcs, hy, _, hlc, hcm, hle, hel, _, _⟩
      · simp at hcs
        subst hcs
        refine ⟨.node s0 s1 k2 k3 s4 k6 [], ?_, rfl, ?_, bd_node (int_bd z3) (fun y hy => by cases hy)⟩
        · rw [ExIn]; exact ⟨none, 0, rfl, ⟨by simp, by simp⟩, z0, z1, z4, .inl rfl⟩
        · rw [Ex.pre, Ex.pres]
          simp [Rows.uptoBulk]
      · simp at hcs
        subst hcs
        rw [cellsEx] at hel
        have hel' : ∀ i, i < len → ∃ x : Ex, ∃ ci : List Value, W.cells? 0 (a.add (i * 7)) 7 = some ci ∧ ExIn W (fun _ => True) (.agg ci.toArray) x ∧ ci.length = 7 ∧ (x.pre 1).length ≤ Rows.uptoBulk ((elems[i]?.map (·.1)).getD .nil) ∧ x.bd := fun i hi => by
          have h1 := hel i hi
          have h2 : elems[i]? = some (elems[i]'(by omega)) := List.getElem?_eq_getElem (by omega)
          rw [h2, Option.bind_eq_some_iff] at h1
          obtain ⟨ci, hci, hti⟩ := h1
          obtain ⟨x, hx1, hx2, hx3, hx4⟩ := ih m (by omega) ci _ _ hti
          exact ⟨x, ci, hci, hx1, hx2, by rw [h2]; exact hx3, hx4⟩
        obtain ⟨l, rfl, hin, hbl⟩ := exs_of (B := fun i => Rows.uptoBulk ((elems[i]?.map (·.1)).getD .nil)) hel'
        refine ⟨.node s0 s1 k2 k3 s4 k6 l, ?_, rfl, ?_, bd_node (int_bd z3) (fun y hy => by
          obtain ⟨i, hi, rfl⟩ := List.mem_iff_getElem.1 hy
          exact (hbl i hi).2)⟩
        · rw [ExIn]
          exact ⟨some a, cap, rfl, ⟨by omega, hlc⟩, z0, z1, z4, hin⟩
        · rw [Ex.pre, List.length_cons]
          have hb : (Ex.pres 2 l).length ≤ Rows.uptoBulkAll (elems.map (·.1)) := by
            refine pres_bulk _ _ (by simp [hle]) fun i h1 h2 => ?_
            have hb := (hbl i h1).1
            rw [List.getElem?_eq_getElem (by omega)] at hb
            simpa using hb
          have hy1 := congrArg Prod.fst hy
          simp only at hy1
          simp only [List.map_cons, List.map_nil, Rows.uptoBulk, Rows.uptoBulkAll, hy1]
          have : (Ex.pres (1 + 1) l).length = (Ex.pres 2 l).length := rfl
          omega
set_option maxRecDepth 100000 in
theorem open_args {H : Type} {enc : TypeId × Value → H} {W : World} {base : Nat} {v : Value} {d : DataW H} {p : List MemPlace} (hv : Value.okWide Tryz.prog W .any base 24 v) (h : DataW.Trod enc Tryz.prog W 0 (fun _ => true) true 24 v d p) :
    ∃ l, ArgsIs W (fun _ => True) v l ∧ (Ex.pres 2 l).length ≤ Rows.uptoBulk d := by
  obtain ⟨a0, len0, cap0, rfl⟩ := okWide_slice Tryz.underlying24 hv
  obtain ⟨fuel, hf⟩ := h
  rcases DataW.trod_slice Tryz.underlying24 hf with ⟨hcs, hy⟩ | ⟨a, len, cap, elems, rest, m, hm, hcs, hy, _, hlc, hcm, hle, hel, _, _⟩
  · simp [Value.cells] at hcs
    obtain ⟨rfl, rfl, rfl⟩ := hcs
    exact ⟨[], ⟨_, _, rfl, ⟨by simp, by simp⟩, .inl rfl⟩, by rw [Ex.pres]; simp⟩
  · simp [Value.cells] at hcs
    obtain ⟨rfl, rfl, rfl⟩ := hcs
    rw [cellsEx] at hel
    have hel' : ∀ i, i < len0 → ∃ x : Ex, ∃ ci : List Value, W.cells? 0 (a.add (i * 7)) 7 = some ci ∧ ExIn W (fun _ => True) (.agg ci.toArray) x ∧ ci.length = 7 ∧ (x.pre 1).length ≤ Rows.uptoBulk ((elems[i]?.map (·.1)).getD .nil) ∧ x.bd := fun i hi => by
      have h1 := hel i hi
      have h2 : elems[i]? = some (elems[i]'(by omega)) := List.getElem?_eq_getElem (by omega)
      rw [h2, Option.bind_eq_some_iff] at h1
      obtain ⟨ci, hci, hti⟩ := h1
      obtain ⟨x, hx1, hx2, hx3, hx4⟩ := open_ex m ci _ _ hti
      exact ⟨x, ci, hci, hx1, hx2, by rw [h2]; exact hx3, hx4⟩
    obtain ⟨l, rfl, hin, hbl⟩ := exs_of (B := fun i => Rows.uptoBulk ((elems[i]?.map (·.1)).getD .nil)) hel'
    refine ⟨l, ⟨_, _, rfl, ⟨by omega, hlc⟩, hin⟩, ?_⟩
    have hb : (Ex.pres 2 l).length ≤ Rows.uptoBulkAll (elems.map (·.1)) := by
      refine pres_bulk _ _ (by simp [hle]) fun i h1 h2 => ?_
      have hb := (hbl i h1).1
      rw [List.getElem?_eq_getElem (by omega)] at hb
      simpa using hb
    have hy1 := congrArg Prod.fst hy
    simp only at hy1
    simp only [Rows.uptoBulk, hy1]
    omega
set_option maxRecDepth 100000 in
/-- An expression that is handed in. -/
theorem open_expr {H : Type} {enc : TypeId × Value → H} {W : World} {base : Nat} {v : Value} {d : DataW H} {p : List MemPlace} (hv : Value.okWide Tryz.prog W .any base 26 v) (h : DataW.Trod enc Tryz.prog W 0 (fun _ => true) true 26 v d p) :
    ∃ x, ExIn W (fun _ => True) v x ∧ (x.pre 1).length ≤ Rows.uptoBulk d ∧ x.bd := by
  obtain ⟨cs, rfl, _⟩ := okWide_struct Tryz.underlying26 hv
  obtain ⟨fuel, hf⟩ := h
  obtain ⟨x, h1, _, h3, h4⟩ := open_ex fuel _ _ _ hf
  exact ⟨x, by simpa [Value.cells] using h1, h3, h4⟩
end Go.Proofs.YtnpinbpjfngknaaGreatDoor
