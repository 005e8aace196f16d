/-
  KdOpen, QyOpen, in one text.
-/
import Derived.Test.YtkbhmghdonomnaaGreatDoorGzAm
import Derived.Test.YtkbhmghdonomnaaGreatDoorGzAk
import Derived.Deep.Strs
import Derived.Test.YtkbhmghdonomnaaGreatDoorGzAn
namespace Go.Proofs.YtkbhmghdonomnaaGreatDoor
open Go.ChangeShapes Go.WideShapes Go.ChangeAt Go.RowKit Go.Deep
set_option linter.unusedVariables false

instance : Inhabited Ex := ⟨.node ⟨#[]⟩ ⟨#[]⟩ 0 0 ⟨#[]⟩ 0 []⟩
theorem pres_bulk {H : Type} : ∀ (l : List Ex) (es : List (DataW H)), l.length = es.length → (∀ i (h : i < l.length) (h2 : i < es.length), (l[i].pre 1).length ≤ Rows.uptoBulk es[i]) → (Ex.pres 2 l).length ≤ Rows.uptoBulkAll es
  | [], [], _, _ => by rw [Ex.pres]; simp
  | x :: xs, e :: es, hl, h => by
    rw [Ex.pres, List.length_append, Rows.uptoBulkAll]
    have h0 := h 0 (by simp) (by simp)
    have h1 : (x.pre 1).length = (x.pre 2).length := by rw [pre_shift x 1]; simp
    have h2 := pres_bulk xs es (by simpa using hl) fun i a b => by
      have := h (i + 1) (by simpa using a) (by simpa using b)
      simpa using this
    simp only [List.getElem_cons_zero] at h0
    omega
  | [], _ :: _, hl, _ => by simp at hl
  | _ :: _, [], hl, _ => by simp at hl
theorem cellsEx : Tryz.prog.cellsOf 26 = 7 := by kernel_rfl
theorem cellsVl : Tryz.prog.cellsOf 23 = 3 := by kernel_rfl
theorem cellsSx : Tryz.prog.cellsOf 24 = 1 := by kernel_rfl
/-- The numbers of an expression are a machine's. -/
def Ex.bd (x : Ex) : Prop := ∀ d, ∀ q ∈ x.pre d, -9223372036854775808 ≤ q.1.vn ∧ q.1.vn ≤ 9223372036854775807
theorem mem_presO {d : Nat} {q : Ex × Nat} : ∀ {l : List Ex}, q ∈ Ex.pres d l → ∃ y ∈ l, q ∈ y.pre d
  | [], h => by rw [Ex.pres] at h; cases h
  | x :: xs, h => by
    rw [Ex.pres] at h
    rcases List.mem_append.1 h with h | h
    · exact ⟨x, by simp, h⟩
    · obtain ⟨y, hy, h⟩ := mem_presO h
      exact ⟨y, by simp [hy], h⟩
theorem bd_node {op nm vs : ByteArray} {vt vn pos : Int} {l : List Ex} (h : -9223372036854775808 ≤ vn ∧ vn ≤ 9223372036854775807) (hl : ∀ y ∈ l, y.bd) : (Ex.node op nm vt vn vs pos l).bd := by
  intro d q hq
  rw [Ex.pre] at hq
  rcases List.mem_cons.1 hq with rfl | hq
  · exact h
  · obtain ⟨y, hy, hq⟩ := mem_presO hq
    exact hl y hy _ q hq
theorem int_bd {x : Int} (h : (Lit.int .i64 x).wf = true) : -9223372036854775808 ≤ x ∧ x ≤ 9223372036854775807 := by
  simpa [Lit.wf, IntKind.min, IntKind.max, IntKind.signed, IntKind.bits] using h
/-- Expressions one behind the other, each opened. -/
theorem exs_of {W : World} {a : Addr} {len : Nat} {B : Nat → Nat} (hel : ∀ i, i < len → ∃ x : Ex, ∃ ci : List Value, W.cells? 0 (a.add (i * 7)) 7 = some ci ∧ ExIn W (fun _ => True) (.agg ci.toArray) x ∧ ci.length = 7 ∧ (x.pre 1).length ≤ B i ∧ x.bd) :
    ∃ l : List Ex, l.length = len ∧ (len = 0 ∨ ∃ b off, some a = some (⟨b, off, none⟩ : Addr) ∧ b < W.heap.size ∧ True ∧ ExsIn W (fun _ => True) b off l) ∧ ∀ i (h : i < l.length), (l[i].pre 1).length ≤ B i ∧ l[i].bd := by
  obtain ⟨f, hF⟩ := choose_lt hel
  refine ⟨(List.range len).map f, by simp, ?_, fun i h => ?_⟩
  · by_cases h0 : len = 0
    · exact .inl h0
    · right
      obtain ⟨b, off, spot⟩ := a
      obtain ⟨c0, hc0, _, hl0, _⟩ := hF 0 (by omega)
      have he := (World.cells?_some hc0).2.2 0 (by omega)
      rw [List.getElem?_eq_getElem (by omega)] at he
      have hspot : spot = none := by simpa [Addr.add] using World.cell?_spot he
      subst hspot
      refine ⟨b, off, rfl, cell_lt' (o := off) (by simpa [Addr.add] using he), trivial, exsIn_mk _ _ _ _ _ fun j hj => ?_⟩
      have hj' : j < len := by simpa using hj
      obtain ⟨cj, hcj, hxj, hlj, _⟩ := hF j hj'
      have hc := (World.cells?_some hcj).2.2
      match cj, hlj with
      | [v0, v1, v2, v3, v4, v5, v6], _ =>
        refine ⟨v0, v1, v2, v3, v4, v5, v6, ?_, ?_, ?_, ?_, ?_, ?_, ?_, ?_⟩
        · simpa [add_plain] using hc 0 (by decide)
        · simpa [add_plain, Nat.add_assoc] using hc 1 (by decide)
        · simpa [add_plain, Nat.add_assoc] using hc 2 (by decide)
        · simpa [add_plain, Nat.add_assoc] using hc 3 (by decide)
        · simpa [add_plain, Nat.add_assoc] using hc 4 (by decide)
        · simpa [add_plain, Nat.add_assoc] using hc 5 (by decide)
        · simpa [add_plain, Nat.add_assoc] using hc 6 (by decide)
        · simp only [List.getElem_map, List.getElem_range]
          exact hxj
  · have hi : i < len := by simpa using h
    obtain ⟨_, _, _, _, hb, hd⟩ := hF i hi
    simp only [List.getElem_map, List.getElem_range]
    exact ⟨hb, hd⟩
set_option maxHeartbeats 1000000 in
set_option maxRecDepth 100000 in
theorem open_ex {H : Type} {enc : TypeId × Value → H} {W : World} : ∀ (fuel : Nat) (cs : List Value) (d : DataW H) (ps : List MemPlace), DataW.trod enc Tryz.prog W 0 (fun _ => true) true fuel 26 cs = some (d, ps) → ∃ x, ExIn W (fun _ => True) (.agg cs.toArray) x ∧ cs.length = 7 ∧ (x.pre 1).length ≤ Rows.uptoBulk d ∧ x.bd := by
  intro fuel
  induction fuel using Nat.strongRecOn with
  | ind fuel ih =>
    intro cs d ps h
    obtain ⟨xs, n, hfu, hx, hl, hlen, hf⟩ := DataW.trod_struct Tryz.underlying26 h
    rw [cellsEx] at hl
    match cs, hl, xs, hlen with
    | [c0, c1, c2, c3, c4, c5, c6], _, [y0, y1, y2, y3, y4], _ =>
      have t0 := hf 0 _ rfl
      have t1 := hf 1 _ rfl
      have t2 := hf 2 _ rfl
      have t3 := hf 3 _ rfl
      have t4 := hf 4 _ rfl
      simp [cellsStr, cellsInt, cellsVl, cellsSx] at t0 t1 t2 t3 t4
      obtain ⟨s0, e0, r0, z0⟩ := DataW.trod_string Tryz.underlying9 t0
      obtain ⟨s1, e1, r1, z1⟩ := DataW.trod_string Tryz.underlying9 t1
      obtain ⟨k6, e6, r6, z6⟩ := DataW.trod_int Tryz.underlying3 t4
      obtain ⟨w0, w1, w2, m2, r2, _, v0, v1, v2⟩ := trod_struct3 Tryz.underlying23 t2
      simp [cellsStr, cellsInt] at v0 v1 v2
      obtain ⟨k2, e2, q2, _⟩ := DataW.trod_int Tryz.underlying3 v0
      obtain ⟨k3, e3, q3, z3⟩ := DataW.trod_int Tryz.underlying3 v1
      obtain ⟨s4, e4, q4, z4⟩ := DataW.trod_string Tryz.underlying9 v2
      simp at e0 e1 e2 e3 e4 e6
      subst e0 e1 e2 e3 e4 e6
      obtain ⟨rfl, rfl⟩ := Prod.mk.inj hx
      rcases DataW.trod_slice Tryz.underlying24 t3 with ⟨hcs, hy⟩ | ⟨a, len, cap, elems, rest, m, hm, hcs, hy, _, hlc, hcm, hle, hel, _, _⟩
      · simp at hcs
        subst hcs
        refine ⟨.node s0 s1 k2 k3 s4 k6 [], ?_, rfl, ?_, bd_node (int_bd z3) (fun y hy => by cases hy)⟩
        · rw [ExIn]; exact ⟨none, 0, rfl, ⟨by simp, by simp⟩, z0, z1, z4, .inl rfl⟩
        · rw [Ex.pre, Ex.pres]
          simp [Rows.uptoBulk]
      · simp at hcs
        subst hcs
        rw [cellsEx] at hel
        have hel' : ∀ i, i < len → ∃ x : Ex, ∃ ci : List Value, W.cells? 0 (a.add (i * 7)) 7 = some ci ∧ ExIn W (fun _ => True) (.agg ci.toArray) x ∧ ci.length = 7 ∧ (x.pre 1).length ≤ Rows.uptoBulk ((elems[i]?.map (·.1)).getD .nil) ∧ x.bd := fun i hi => by
          have h1 := hel i hi
          have h2 : elems[i]? = some (elems[i]'(by omega)) := List.getElem?_eq_getElem (by omega)
          rw [h2, Option.bind_eq_some_iff] at h1
          obtain ⟨ci, hci, hti⟩ := h1
          obtain ⟨x, hx1, hx2, hx3, hx4⟩ := ih m (by omega) ci _ _ hti
          exact ⟨x, ci, hci, hx1, hx2, by rw [h2]; exact hx3, hx4⟩
        obtain ⟨l, rfl, hin, hbl⟩ := exs_of (B := fun i => Rows.uptoBulk ((elems[i]?.map (·.1)).getD .nil)) hel'
        refine ⟨.node s0 s1 k2 k3 s4 k6 l, ?_, rfl, ?_, bd_node (int_bd z3) (fun y hy => by
          obtain ⟨i, hi, rfl⟩ := List.mem_iff_getElem.1 hy
          exact (hbl i hi).2)⟩
        · rw [ExIn]
          exact ⟨some a, cap, rfl, ⟨by omega, hlc⟩, z0, z1, z4, hin⟩
        · rw [Ex.pre, List.length_cons]
          have hb : (Ex.pres 2 l).length ≤ Rows.uptoBulkAll (elems.map (·.1)) := by
            refine pres_bulk _ _ (by simp [hle]) fun i h1 h2 => ?_
            have hb := (hbl i h1).1
            rw [List.getElem?_eq_getElem (by omega)] at hb
            simpa using hb
          have hy1 := congrArg Prod.fst hy
          simp only at hy1
          simp only [List.map_cons, List.map_nil, Rows.uptoBulk, Rows.uptoBulkAll, hy1]
          have : (Ex.pres (1 + 1) l).length = (Ex.pres 2 l).length := rfl
          omega
set_option maxRecDepth 100000 in
/-- Columns that are handed in. -/
theorem open_colsV {H : Type} {enc : TypeId × Value → H} {W : World} {base : Nat} {v : Value} {d : DataW H} {p : List MemPlace} (hv : Value.okWide Tryz.prog W .any base 31 v) (h : DataW.Trod enc Tryz.prog W 0 (fun _ => true) true 31 v d p) : ∃ zs, ColsV W v zs := by
  rcases open_cols hv h with ⟨q, c, rfl⟩ | ⟨b, off, c, zs, rfl, h0, h1, h2, h3, h4⟩
  · exact ⟨[], q, c, rfl, .inl rfl⟩
  · exact ⟨zs, _, c, rfl, .inr ⟨b, off, rfl, h1, h3, h4⟩⟩
end Go.Proofs.YtkbhmghdonomnaaGreatDoor
namespace Go.Proofs.YtkbhmghdonomnaaGreatDoor
open Go.ChangeShapes Go.WideShapes Go.ChangeAt Go.RowKit Go.Deep
set_option linter.unusedVariables false

theorem cellsQy : Tryz.prog.cellsOf 30 = 14 := by kernel_rfl
theorem cellsAg : Tryz.prog.cellsOf 49 = 9 := by kernel_rfl
theorem cellsSs : Tryz.prog.cellsOf 27 = 1 := by kernel_rfl
theorem cellsSa : Tryz.prog.cellsOf 28 = 1 := by kernel_rfl
theorem bulk_pos {H : Type} (d : DataW H) : 1 ≤ Rows.uptoBulk d := by
  match d with
  | .lit (.string l) => simp [Rows.uptoBulk]
  | .lit (.int _ _) => simp [Rows.uptoBulk]
  | .lit (.bool _) => simp [Rows.uptoBulk]
  | .lit (.float _ _) => simp [Rows.uptoBulk]
  | .lit .nil => simp [Rows.uptoBulk]
  | .nil => simp [Rows.uptoBulk]
  | .ptr _ => simp [Rows.uptoBulk]
  | .slice _ _ => simp [Rows.uptoBulk]
  | .agg _ => simp [Rows.uptoBulk]
  | .iface _ _ => simp [Rows.uptoBulk]
  | .map _ => simp [Rows.uptoBulk]
  | .held _ => simp [Rows.uptoBulk]
theorem bulk_len {H : Type} : ∀ (l : List (DataW H)), l.length ≤ Rows.uptoBulkAll l
  | [] => by simp [Rows.uptoBulkAll]
  | d :: l => by
    rw [Rows.uptoBulkAll, List.length_cons]
    have := bulk_pos d
    have := bulk_len l
    omega
theorem bulk_mem {H : Type} : ∀ (l : List (DataW H)) (i : Nat) (h : i < l.length), Rows.uptoBulk l[i] ≤ Rows.uptoBulkAll l
  | d :: l, 0, h => by rw [Rows.uptoBulkAll]; simp
  | d :: l, i + 1, h => by
    rw [Rows.uptoBulkAll]
    have := bulk_mem l i (by simpa using h)
    simp only [List.getElem_cons_succ]
    omega
set_option maxRecDepth 100000 in
/-- Texts that are handed in. -/
theorem open_sts {H : Type} {enc : TypeId × Value → H} {W : World} {fuel : Nat} {cs : List Value} {d : DataW H} {ps : List MemPlace} (h : DataW.trod enc Tryz.prog W 0 (fun _ => true) true fuel 27 cs = some (d, ps)) (hb : Rows.uptoBulk d ≤ 1048576) :
    ∃ p c ts, cs = [.slice p ts.length c] ∧ StsA W (.slice p ts.length c) ts ∧ (∀ s ∈ ts, s.size ≤ 1048576) := by
  rcases open_strs Tryz.underlying27 Tryz.underlying9 cellsStr h with ⟨rfl, hx⟩ | ⟨a, len, cap, m, Sx, rfl, _, hl, hm, hmm, hx, hall⟩
  · exact ⟨none, 0, [], rfl, StsA.nil _, fun s hs => by cases hs⟩
  · simp only [if_true] at hmm
    obtain rfl : cap = m := hmm.symm
    have hlen : ((List.range len).map Sx).length = len := by simp
    have hd := congrArg Prod.fst hx
    simp only at hd
    subst hd
    have hbl : len ≤ 1048576 := by
      rw [Rows.uptoBulk] at hb
      have := bulk_len ((List.range len).map fun i => (DataW.lit (.string (Sx i).data.toList) : DataW H))
      simp at this
      omega
    refine ⟨some a, cap, (List.range len).map Sx, by rw [hlen], ⟨some a, cap, by rw [hlen], ⟨by omega, by omega⟩, (fun hp => nomatch hp), fun b hb => ?_⟩, fun s hs => ?_⟩
    · injection hb with hb
      subst hb
      by_cases h0 : len = 0
      · exact .inl (by omega)
      · right
        obtain ⟨sb, so, spot⟩ := a
        have hspot : spot = none := by simpa [Addr.add] using World.cell?_spot (hall 0 (by omega)).1
        subst hspot
        refine ⟨sb, so, rfl, ?_, fun j hj => ?_⟩
        · have := (hall 0 (by omega)).1
          exact cell_lt' (o := so + 0) (by simpa [Addr.add] using this)
        · have hj' : j < len := by omega
          have := (hall j (by omega)).1
          simp only [List.getElem_map, List.getElem_range]
          simpa [add_plain] using this
    · obtain ⟨i, hi, rfl⟩ := List.mem_map.1 hs
      have hi2 := List.mem_range.1 hi
      rw [Rows.uptoBulk] at hb
      have h4 := bulk_mem ((List.range len).map fun i => (DataW.lit (.string (Sx i).data.toList) : DataW H)) i (by simpa using hi2)
      rw [List.getElem_map, List.getElem_range, Rows.uptoBulk] at h4
      simp only [Array.length_toList] at h4
      have h5 : (Sx i).data.size = (Sx i).size := rfl
      omega
set_option maxRecDepth 100000 in
/-- Expressions that are handed in. -/
theorem open_exs {H : Type} {enc : TypeId × Value → H} {W : World} {fuel : Nat} {cs : List Value} {d : DataW H} {ps : List MemPlace} (h : DataW.trod enc Tryz.prog W 0 (fun _ => true) true fuel 24 cs = some (d, ps)) (hb : Rows.uptoBulk d ≤ 1048576) :
    ∃ p c l, cs = [.slice p l.length c] ∧ ArgsIs W (fun _ => True) (.slice p l.length c) l ∧ l.length ≤ 1048576 ∧ (∀ x ∈ l, (x.pre 1).length ≤ 1048576 ∧ x.bd) := by
  rcases DataW.trod_slice Tryz.underlying24 h with ⟨rfl, hy⟩ | ⟨a, len, cap, elems, rest, m, hm, rfl, hy, _, hlc, hcm, hle, hel, _, _⟩
  · exact ⟨none, 0, [], rfl, ⟨_, _, rfl, ⟨by simp, by simp⟩, .inl rfl⟩, Nat.zero_le _, fun x hx => by cases hx⟩
  · rw [cellsEx] at hel
    have hel' : ∀ i, i < len → ∃ x : Ex, ∃ ci : List Value, W.cells? 0 (a.add (i * 7)) 7 = some ci ∧ ExIn W (fun _ => True) (.agg ci.toArray) x ∧ ci.length = 7 ∧ (x.pre 1).length ≤ Rows.uptoBulk ((elems[i]?.map (·.1)).getD .nil) ∧ x.bd := fun i hi => by
      have h1 := hel i hi
      have h2 : elems[i]? = some (elems[i]'(by omega)) := List.getElem?_eq_getElem (by omega)
      rw [h2, Option.bind_eq_some_iff] at h1
      obtain ⟨ci, hci, hti⟩ := h1
      obtain ⟨x, hx1, hx2, hx3, hx4⟩ := open_ex m ci _ _ hti
      exact ⟨x, ci, hci, hx1, hx2, by rw [h2]; exact hx3, hx4⟩
    obtain ⟨l, rfl, hin, hbl⟩ := exs_of (B := fun i => Rows.uptoBulk ((elems[i]?.map (·.1)).getD .nil)) hel'
    have hy1 := congrArg Prod.fst hy
    simp only at hy1
    subst hy1
    rw [Rows.uptoBulk] at hb
    have hbl2 := bulk_len (elems.map (·.1))
    rw [List.length_map] at hbl2
    refine ⟨some a, cap, l, rfl, ⟨_, _, rfl, ⟨by omega, hlc⟩, hin⟩, by omega, fun x hx => ?_⟩
    obtain ⟨i, hi, rfl⟩ := List.mem_iff_getElem.1 hx
    refine ⟨?_, (hbl i hi).2⟩
    have h3 := (hbl i hi).1
    rw [List.getElem?_eq_getElem (by omega)] at h3
    have h4 := bulk_mem (elems.map (·.1)) i (by rw [List.length_map]; omega)
    rw [List.getElem_map] at h4
    simp only [Option.map_some, Option.getD_some] at h3
    omega
instance : Inhabited Ag := ⟨⟨⟨#[]⟩, .node ⟨#[]⟩ ⟨#[]⟩ 0 0 ⟨#[]⟩ 0 [], ⟨#[]⟩⟩⟩
set_option maxHeartbeats 1000000 in
set_option maxRecDepth 100000 in
/-- Aggregates that are handed in. -/
theorem open_ags {H : Type} {enc : TypeId × Value → H} {W : World} {fuel : Nat} {cs : List Value} {d : DataW H} {ps : List MemPlace} (h : DataW.trod enc Tryz.prog W 0 (fun _ => true) true fuel 28 cs = some (d, ps)) (hb : Rows.uptoBulk d ≤ 1048576) :
    ∃ p c l, cs = [.slice p l.length c] ∧ AgsIs W (fun _ => True) p l ∧ l.length ≤ c ∧ (∀ a ∈ l, (a.arg.pre 1).length ≤ 1048576 ∧ a.arg.bd ∧ a.what.size ≤ 1048576 ∧ a.name.size ≤ 1048576) := by
  rcases DataW.trod_slice Tryz.underlying28 h with ⟨rfl, hy⟩ | ⟨a, len, cap, elems, rest, m, hm, rfl, hy, _, hlc, hcm, hle, hel, _, _⟩
  · exact ⟨none, 0, [], rfl, ⟨Nat.zero_le _, .inl rfl⟩, Nat.le_refl _, fun x hx => by cases hx⟩
  · rw [cellsAg] at hel
    have hy1 := congrArg Prod.fst hy
    simp only at hy1
    subst hy1
    rw [Rows.uptoBulk] at hb
    have hbl2 := bulk_len (elems.map (·.1))
    rw [List.length_map] at hbl2
    have hel' : ∀ i, i < len → ∃ g : Ag, ∃ ap ac, W.cells? 0 (a.add (i * 9)) 9 = some [.string g.what, .string g.arg.op, .string g.arg.nm, .int .i64 g.arg.vt, .int .i64 g.arg.vn, .string g.arg.vs, .slice ap g.arg.args.length ac, .int .i64 g.arg.pos, .string g.name] ∧ ExIn W (fun _ => True) (exV g.arg ap ac) g.arg ∧ (g.arg.pre 1).length ≤ 1048576 ∧ g.arg.bd ∧ g.what.size ≤ 1048576 ∧ g.name.size ≤ 1048576 := fun i hi => by
      have h1 := hel i hi
      have h2 : elems[i]? = some (elems[i]'(by omega)) := List.getElem?_eq_getElem (by omega)
      rw [h2, Option.bind_eq_some_iff] at h1
      obtain ⟨ci, hci, hti⟩ := h1
      obtain ⟨y0, y1, y2, n, hx, hl, t0, t1, t2⟩ := trod_struct3 Tryz.underlying49 hti
      rw [cellsAg] at hl
      match ci, hl with
      | [c0, c1, c2, c3, c4, c5, c6, c7, c8], _ =>
        simp [cellsStr, cellsEx] at t0 t1 t2
        obtain ⟨s0, e0, r0, z0⟩ := DataW.trod_string Tryz.underlying9 t0
        obtain ⟨s2, e2, r2, z2⟩ := DataW.trod_string Tryz.underlying9 t2
        simp at e0 e2
        subst e0 e2
        obtain ⟨x, hx1, _, hx3, hx4⟩ := open_ex n _ _ _ t1
        obtain ⟨xp, xc, hw, -⟩ := hx1.whole
        injection hw with hw
        simp only [Array.mk.injEq, List.cons.injEq, and_true] at hw
        obtain ⟨rfl, rfl, rfl, rfl, rfl, rfl, rfl⟩ := hw
        have h4 := bulk_mem (elems.map (·.1)) i (by rw [List.length_map]; omega)
        rw [List.getElem_map, hx] at h4
        simp only [Rows.uptoBulk, Rows.uptoBulkAll] at h4
        have hd0 := congrArg Prod.fst r0
        have hd2 := congrArg Prod.fst r2
        simp only at hd0 hd2
        rw [hd0, hd2] at h4
        simp only [Rows.uptoBulk, Array.length_toList] at h4
        have h50 : s0.data.size = s0.size := rfl
        have h52 : s2.data.size = s2.size := rfl
        exact ⟨⟨s0, x, s2⟩, xp, xc, hci, hx1, (show (x.pre 1).length ≤ 1048576 by omega), hx4, (show s0.size ≤ 1048576 by omega), (show s2.size ≤ 1048576 by omega)⟩
    obtain ⟨f, hF⟩ := choose_lt hel'
    have hlen : ((List.range len).map f).length = len := by simp
    refine ⟨some a, cap, (List.range len).map f, by rw [hlen], ⟨by omega, ?_⟩, by omega, fun g hg => ?_⟩
    · by_cases h0 : len = 0
      · exact .inl (by omega)
      · right
        obtain ⟨b, off, spot⟩ := a
        obtain ⟨_, _, hc0, _⟩ := hF 0 (by omega)
        have he := (World.cells?_some hc0).2.2 0 (by simp)
        have hspot : spot = none := by
          simp only [List.getElem?_cons_zero] at he
          simpa [Addr.add] using World.cell?_spot he
        subst hspot
        refine ⟨b, off, rfl, cell_lt' (o := off) (by simpa [Addr.add] using he), trivial, fun j hj => ?_⟩
        have hj' : j < len := by omega
        obtain ⟨ap, ac, hcj, hxj, _⟩ := hF j hj'
        have hc := (World.cells?_some hcj).2.2
        simp only [List.getElem_map, List.getElem_range]
        refine ⟨ap, ac, ?_, ?_, ?_, ?_, ?_, ?_, ?_, ?_, ?_, hxj⟩
        · simpa [add_plain] using hc 0 (by decide)
        · simpa [add_plain, Nat.add_assoc] using hc 1 (by decide)
        · simpa [add_plain, Nat.add_assoc] using hc 2 (by decide)
        · simpa [add_plain, Nat.add_assoc] using hc 3 (by decide)
        · simpa [add_plain, Nat.add_assoc] using hc 4 (by decide)
        · simpa [add_plain, Nat.add_assoc] using hc 5 (by decide)
        · simpa [add_plain, Nat.add_assoc] using hc 6 (by decide)
        · simpa [add_plain, Nat.add_assoc] using hc 7 (by decide)
        · simpa [add_plain, Nat.add_assoc] using hc 8 (by decide)
    · obtain ⟨i, hi, rfl⟩ := List.mem_map.1 hg
      obtain ⟨_, _, _, _, h5, h6, h7, h8⟩ := hF i (List.mem_range.1 hi)
      exact ⟨h5, h6, h7, h8⟩
/-- What is asked of a query that is handed in, besides how it lies. -/
structure QyOk (q : Qy) : Prop where
  wn : (q.whr.pre 1).length ≤ 1048576
  wb : q.whr.bd
  cn : ∀ x ∈ q.cols, (x.pre 1).length ≤ 1048576 ∧ x.bd
  an : ∀ a ∈ q.aggs, (a.arg.pre 1).length ≤ 1048576 ∧ a.arg.bd ∧ a.what.size ≤ 1048576 ∧ a.name.size ≤ 1048576
  ns : ∀ s ∈ q.names, s.size ≤ 1048576
  gs : ∀ s ∈ q.group, s.size ≤ 1048576
  fs : q.frm.size ≤ 1048576
  z1 : -9223372036854775808 ≤ q.size ∧ q.size ≤ 9223372036854775807
  z2 : -9223372036854775808 ≤ q.slide ∧ q.slide ≤ 9223372036854775807
set_option maxHeartbeats 2000000 in
set_option maxRecDepth 100000 in
/-- A query that is handed in. -/
theorem open_query {H : Type} {enc : TypeId × Value → H} {W : World} {base : Nat} {v : Value} {d : DataW H} {p : List MemPlace} (hv : Value.okWide Tryz.prog W .any base 30 v) (h : DataW.Trod enc Tryz.prog W 0 (fun _ => true) true 30 v d p) (hb : Rows.uptoBulk d ≤ 1048576) :
    ∃ q, QyIn W (fun _ => True) v q ∧ QyOk q := by
  obtain ⟨cs, rfl, _⟩ := okWide_struct Tryz.underlying30 hv
  obtain ⟨fuel, hf⟩ := h
  obtain ⟨xs, n, hfu, hx, hl, hlen, hf⟩ := DataW.trod_struct Tryz.underlying30 hf
  rw [cellsQy] at hl
  obtain ⟨cs⟩ := cs
  simp only [Value.cells] at hl hf ⊢
  match cs, hl, xs, hlen with
  | [c0, c1, c2, c3, c4, c5, c6, c7, c8, c9, c10, c11, c12, c13], _, [y0, y1, y2, y3, y4, y5, y6, y7], _ =>
    have t0 := hf 0 _ rfl
    have t1 := hf 1 _ rfl
    have t2 := hf 2 _ rfl
    have t3 := hf 3 _ rfl
    have t4 := hf 4 _ rfl
    have t5 := hf 5 _ rfl
    have t6 := hf 6 _ rfl
    have t7 := hf 7 _ rfl
    simp [cellsStr, cellsInt, cellsEx, cellsSx, cellsSs, cellsSa] at t0 t1 t2 t3 t4 t5 t6 t7
    obtain ⟨rfl, rfl⟩ := Prod.mk.inj hx
    simp only [List.map_cons, List.map_nil, Rows.uptoBulk, Rows.uptoBulkAll] at hb
    obtain ⟨s0, e0, r0, z0⟩ := DataW.trod_string Tryz.underlying9 t0
    obtain ⟨k5, e5, r5, z5⟩ := DataW.trod_int Tryz.underlying3 t5
    obtain ⟨k6, e6, r6, z6⟩ := DataW.trod_int Tryz.underlying3 t6
    simp at e0 e5 e6
    subst e0 e5 e6
    have hd0 := congrArg Prod.fst r0
    simp only at hd0
    rw [hd0] at hb
    simp only [Rows.uptoBulk, Array.length_toList] at hb
    have h50 : s0.data.size = s0.size := rfl
    obtain ⟨x, hx1, _, hx3, hx4⟩ := open_ex n _ _ _ t1
    obtain ⟨xp, xc, hw, -⟩ := hx1.whole
    injection hw with hw
    simp only [Array.mk.injEq, List.cons.injEq, and_true] at hw
    obtain ⟨rfl, rfl, rfl, rfl, rfl, rfl, rfl⟩ := hw
    obtain ⟨cp, cc, cl, e2, hc1, hc2, hc3⟩ := open_exs t2 (by omega)
    obtain ⟨np, nc, nl, e3, hn1, hn2⟩ := open_sts t3 (by omega)
    obtain ⟨gp, gc, gl, e4, hg1, hg2⟩ := open_sts t4 (by omega)
    obtain ⟨ap, ac, al, e7, ha1, _, ha2⟩ := open_ags t7 (by omega)
    simp at e2 e3 e4 e7
    subst e2 e3 e4 e7
    exact ⟨⟨s0, x, cl, nl, gl, k5, k6, al⟩, ⟨xp, xc, cp, cc, np, nc, gp, gc, ap, ac, rfl, ⟨hx1, hc1, hc2, hn1, hg1, ha1⟩⟩, ⟨by simp only; omega, hx4, hc3, ha2, hn2, hg2, (show s0.size ≤ 1048576 by omega), int_bd z5, int_bd z6⟩⟩
end Go.Proofs.YtkbhmghdonomnaaGreatDoor
