/-
  KdRule, VarOf, ColsOpen, in one text.
-/
import Derived.Test.YticdcnbeemkapaaGreatDoorQKdP
import Derived.Test.YticdcnbeemkapaaGreatDoorQAs
import Derived.Laws.Rows
import Derived.OpenShut
import Derived.ChangeSame
import Derived.MakeChecks
import Derived.RowKit
import Derived.Test.YticdcnbeemkapaaGreatDoorGrAg
import Derived.Test.YticdcnbeemkapaaGreatDoorRows
import Derived.Deep.SlicePairs
import Derived.Carry
import Derived.ProofKit
namespace Go.Proofs.YticdcnbeemkapaaGreatDoor
open Go.RowKit Go.BigFrame
set_option linter.unusedVariables false

/-- What package kind's functions read of the variables: tree's words and operations, row's types, the handle of the type error, and the rules. -/
structure KEnv (w : World) : Prop where
  tenv : TEnv w
  tw : TW w
  et : w.cell? ⟨0, 0, none⟩ = some (.iface 158 (.agg #[.pointer (some ⟨6, 33, none⟩)]))
  rules : ∃ t fr, w.heap[2]? = some (.cells rulesC t fr)
theorem KEnv.on {w w' : World} (h : KEnv w) (hb : Below w.heap.size w w') : KEnv w' := by
  have hbig := h.tenv.big
  refine ⟨h.tenv.on hb, h.tw.on hb, ?_, ?_⟩
  · rw [hb.cell (p := ⟨0, 0, none⟩) (by simp; omega)]; exact h.et
  · obtain ⟨t, fr, h1⟩ := h.rules
    exact ⟨t, fr, by rw [hb.block _ (by omega)]; exact h1⟩
set_option maxHeartbeats 1000000 in
set_option maxRecDepth 20000 in
theorem ruleOf_any (x : ByteArray) (w : World) (henv : REnv w) (R : Option KRule) (hx : kdFind x.data.toList kdRules = R) :
    Calls Tryz.prog 61 #[.string x] w fun e w' => (∃ (S : ByteArray) (a0 a1 a2 ty : Int) (ok : Bool), e = .returned (.tuple #[.agg #[.string S, .int .i64 a0, .int .i64 a1, .int .i64 a2, .int .i64 ty], .bool ok]) ∧ Hid (R = if ok = true then some (S.data.toList, a0, a1, a2, ty) else none)) ∧ Below w.heap.size w w' := by
  have hbig := henv.lt
  obtain ⟨tt, fr, hgl⟩ := henv
  have HX : Hid (kdFind x.data.toList kdRules = R) := hx
  clear hx
  have B0 : Below w.heap.size w (w.alloc (.cells #[.string ⟨#[]⟩, .int .i64 0, .int .i64 0, .int .i64 0, .int .i64 0] 131)) := al w _
  have hgl2 : (w.alloc (.cells #[.string ⟨#[]⟩, .int .i64 0, .int .i64 0, .int .i64 0, .int .i64 0] 131)).heap[2]? = some (.cells rulesC tt fr) := by rw [B0.block _ (by omega)]; exact hgl
  clear hgl hbig
  go_enter Tryz.func61, Tryz.ntmps61
  go_wp2_with (refine wpList_load_row rfl 177 _ rfl 2 rfl tt _ fr _ hgl2 Tryz.underlying177 rfl (by kernel_rfl) ?_)
  have hat := rule_at
  generalize Value.agg rulesC = AR at hat ⊢
  clear hgl2
  go_loopg [5, 7] 17 (fun gg _ s7 wr => ∃ kk : Nat, kk ≤ 17 ∧ 17 - kk ≤ gg ∧ s7 = .int .i64 kk ∧ Aside (Below (w.heap.size + 1) (w.alloc (.cells #[.string ⟨#[]⟩, .int .i64 0, .int .i64 0, .int .i64 0, .int .i64 0] 131)) wr) ∧ Hid (kdFind x.data.toList (kdRules.drop kk) = R))
  case atStart => exact ⟨0, Nat.zero_le _, by omega, rfl, (show Aside _ from Below.refl _ _), HX⟩
  case round =>
    obtain ⟨kk, hkk, hg, rfl, BW, HE⟩ := hrel
    clear HX
    have hzr : w.heap.size + 1 ≤ wr.heap.size := by have := BW.out.size; simpa using this
    have hzl : w.heap.size < wr.heap.size := by omega
    have zB : ∀ i, wr.cell? ⟨w.heap.size, i, none⟩ = (#[.string ⟨#[]⟩, .int .i64 0, .int .i64 0, .int .i64 0, .int .i64 0] : Array Value)[i]? := fun i => by rw [BW.out.cell (p := ⟨w.heap.size, i, none⟩) (by simp), World.cell?_alloc_at _ _ _ _ rfl]
    have z0 : wr.cell? ⟨w.heap.size, 0, none⟩ = some (.string ⟨#[]⟩) := zB 0
    have z1 : wr.cell? ⟨w.heap.size, 1, none⟩ = some (.int .i64 0) := zB 1
    have z2 : wr.cell? ⟨w.heap.size, 2, none⟩ = some (.int .i64 0) := zB 2
    have z3 : wr.cell? ⟨w.heap.size, 3, none⟩ = some (.int .i64 0) := zB 3
    have z4 : wr.cell? ⟨w.heap.size, 4, none⟩ = some (.int .i64 0) := zB 4
    have zf : ∀ o, wr.frozen? ⟨w.heap.size, o, none⟩ = false := fun o => by rw [BW.out.frozen (p := ⟨w.heap.size, o, none⟩) (by simp), World.frozen?_alloc_at _ _ _ _ rfl]
    clear zB
    by_cases hlt : kk < 17
    · have hltz : (kk : Int) < 17 := by omega
      obtain ⟨S, a0, a1, a2, ty, hS, hS1, _, _, _, _⟩ := hat kk hlt
      clear hat
      have hd : kdRules.drop kk = (S.data.toList, a0, a1, a2, ty) :: kdRules.drop (kk + 1) := by
        rw [List.drop_eq_getElem_cons (show kk < kdRules.length from hlt)]
        congr 1
      have HS : Hid (kdFind x.data.toList ((S.data.toList, a0, a1, a2, ty) :: kdRules.drop (kk + 1)) = R) := by show _ = _; rw [← hd]; exact HE.out
      clear hd hS1 HE
      by_cases he : S.data.toList = x.data.toList
      · have hq : (S.toList == x.toList) = true := by rw [Lib.toList_data, Lib.toList_data]; simpa using he
        have HR2 : Hid (some (S.data.toList, a0, a1, a2, ty) = R) := by show _ = _; rw [← HS.out, kdFind, if_pos he]
        have BE : Below w.heap.size w wr := B0.trans (BW.out.mono (by omega))
        clear HS he
        go_wp2
        refine bodyPost_ret (v := .tuple #[.agg #[.string S, .int .i64 a0, .int .i64 a1, .int .i64 a2, .int .i64 ty], .bool true]) (by simp [results, Tryz.results61, go_sem, World.cell?_setCell_other, World.cell?_setCell_same, z0, z1, z2, z3, z4, hzl]) rfl ⟨⟨S, a0, a1, a2, ty, true, rfl, ?_⟩, ?_⟩
        · show R = _
          rw [if_pos rfl]; exact HR2.out.symm
        · exact (((((BE.setCell (p := ⟨w.heap.size, 0, none⟩) (Nat.le_refl _) _).setCell (p := ⟨w.heap.size, 1, none⟩) (Nat.le_refl _) _).setCell (p := ⟨w.heap.size, 2, none⟩) (Nat.le_refl _) _).setCell (p := ⟨w.heap.size, 3, none⟩) (Nat.le_refl _) _).setCell (p := ⟨w.heap.size, 4, none⟩) (Nat.le_refl _) _).alloc (by simp [World.setCell]; omega) _
      · have hq : (S.toList == x.toList) = false := by rw [Lib.toList_data, Lib.toList_data]; simpa using he
        have HS2 : Hid (kdFind x.data.toList (kdRules.drop (kk + 1)) = R) := by
          show _ = _
          rw [← HS.out, kdFind, if_neg he]
        clear HS he
        go_wp2
        go_roundg (17 - (kk + 1))
        case measure => omega
        case rel => exact ⟨kk + 1, by omega, by omega, by go_num, (show Aside _ from BW.out.alloc (by omega) _), HS2⟩
    · have hltz : ¬ (kk : Int) < 17 := by omega
      have HR2 : Hid (none = R) := by show _ = _; rw [← HE.out, List.drop_eq_nil_of_le (by show 17 ≤ kk; omega)]; rfl
      have BE : Below w.heap.size w wr := B0.trans (BW.out.mono (by omega))
      clear HE
      go_wp2
      refine bodyPost_ret (v := .tuple #[.agg #[.string ⟨#[]⟩, .int .i64 0, .int .i64 0, .int .i64 0, .int .i64 0], .bool false]) (by simp [results, Tryz.results61, go_sem, World.cell?_setCell_other, World.cell?_setCell_same, z0, z1, z2, z3, z4]) rfl ⟨⟨⟨#[]⟩, 0, 0, 0, 0, .inl ⟨rfl, HR2.out.symm⟩⟩, ?_⟩
      · exact ((((BE.setCell (p := ⟨w.heap.size, 0, none⟩) (Nat.le_refl _) _).setCell (p := ⟨w.heap.size, 1, none⟩) (Nat.le_refl _) _).setCell (p := ⟨w.heap.size, 2, none⟩) (Nat.le_refl _) _).setCell (p := ⟨w.heap.size, 3, none⟩) (Nat.le_refl _) _).setCell (p := ⟨w.heap.size, 4, none⟩) (Nat.le_refl _) _
end Go.Proofs.YticdcnbeemkapaaGreatDoor
namespace Go.Proofs.YticdcnbeemkapaaGreatDoor
open Go.RowKit

/-- The cell at a place of a datum of numbers and texts. -/
def cellAt (P : Program) : Nat → TypeId → DataW Unit → Nat → Option Value
  | 0, _, _, _ => none
  | f + 1, t, d, i =>
    match P.underlying t, d with
    | some (.int k), .lit (.int _ n) => if i = 0 then some (.int k n) else none
    | some .string, .lit (.string l) => if i = 0 then some (.string ⟨l.toArray⟩) else none
    | some (.array n e), .agg l => if i / P.cellsOf e < n ∧ i % P.cellsOf e < P.cellsOf e then (l[i / P.cellsOf e]?).bind fun d' => cellAt P f e d' (i % P.cellsOf e) else none
    | some (.struct fs), .agg l =>
      (fs[(fs.toList.findIdx fun g => decide (i < g.offset + P.cellsOf g.type))]?).bind fun g =>
        if g.offset ≤ i ∧ i < g.offset + P.cellsOf g.type then (l[(fs.toList.findIdx fun g => decide (i < g.offset + P.cellsOf g.type))]?).bind fun d' => cellAt P f g.type d' (i - g.offset) else none
    | _, _ => none
theorem chunk_at {cs : List Value} {o k i : Nat} {v : Value} (hk : i < k) (h : ((cs.drop o).take k)[i]? = some v) : cs[o + i]? = some v := by
  rw [List.getElem?_take, if_pos hk, List.getElem?_drop] at h
  exact h
theorem cellAt_trod {P : Program} {W : World} {enc : TypeId × Value → Unit} {base : Nat} {spare : Nat → Bool} {held : Bool} : ∀ (f : Nat) (t : TypeId) (d : DataW Unit) (i : Nat) (v : Value) (fuel : Nat) (cs : List Value) (ps : List MemPlace),
    DataW.trod enc P W base spare held fuel t cs = some (d, ps) → cellAt P f t d i = some v → cs[i]? = some v
  | 0, _, _, _, _, _, _, _, _, h => by simp [cellAt] at h
  | f + 1, t, d, i, v, fuel, cs, ps, ht, h => by
    unfold cellAt at h
    split at h
    · rename_i k _ n hu
      split at h
      · rename_i hi
        subst hi
        cases fuel with
        | zero => simp [DataW.trod] at ht
        | succ m =>
          unfold DataW.trod at ht
          rw [hu] at ht
          split at ht <;> simp_all
      · simp at h
    · rename_i l hu
      split at h
      · rename_i hi
        subst hi
        obtain ⟨s, rfl, hx, _⟩ := DataW.trod_string hu ht
        simp at hx h ⊢
        rw [← h, hx.1]
      · simp at h
    · rename_i n e l hu
      split at h
      · rename_i hi
        obtain ⟨xs, m, _, hx, _, hl, hel⟩ := DataW.trod_array hu ht
        simp only [Prod.mk.injEq, DataW.agg.injEq] at hx
        obtain ⟨rfl, rfl⟩ := hx
        rw [Option.bind_eq_some_iff] at h
        obtain ⟨d', hd, h⟩ := h
        have hlt : i / P.cellsOf e < xs.length := by omega
        rw [List.getElem?_map, List.getElem?_eq_getElem hlt] at hd
        have h2 := hel _ hi.1
        rw [List.getElem?_eq_getElem hlt] at h2
        simp only [Option.map_some, Option.some.injEq] at hd
        subst hd
        have h3 := cellAt_trod f e _ _ v _ _ _ h2 h
        have h4 := chunk_at hi.2 h3
        rwa [Nat.mul_comm, Nat.div_add_mod] at h4
      · simp at h
    · rename_i fs l hu
      rw [Option.bind_eq_some_iff] at h
      obtain ⟨g, hg, h⟩ := h
      split at h
      · rename_i hi
        obtain ⟨xs, m, _, hx, _, hl, hel⟩ := DataW.trod_struct hu ht
        simp only [Prod.mk.injEq, DataW.agg.injEq] at hx
        obtain ⟨rfl, rfl⟩ := hx
        rw [Option.bind_eq_some_iff] at h
        obtain ⟨d', hd, h⟩ := h
        have h2 := hel _ g hg
        rw [List.getElem?_map, Option.map_eq_some_iff] at hd
        obtain ⟨y, hy, rfl⟩ := hd
        rw [hy] at h2
        have h3 := cellAt_trod f g.type _ _ v _ _ _ h2 h
        have h4 := chunk_at (by omega) h3
        rwa [show g.offset + (i - g.offset) = i by omega] at h4
      · simp at h
    · simp at h
theorem var_row {P : Program} {W : World} {n : String} {cs : Array Value} {g : Nat} (h : W.var? P n = some cs) (hg : P.globalNamed n = some g) : ∃ t fr, W.heap[g]? = some (.cells cs t fr) := by
  unfold World.var? at h
  simp only [hg, Option.bind_some] at h
  split at h
  · rename_i c t fr he
    obtain rfl := Option.some.inj h
    exact ⟨t, fr, he⟩
  · simp at h
theorem var_of {P : Program} {W : World} {nm : String} {d : DataW Unit} {rest : List (String × DataW Unit)} {g : Nat} {t e : TypeId} {n : Nat} (C : Array Value)
    (h : laidMet P ((nm, d) :: rest) W) (hg : P.globalNamed nm = some g) (ht : (P.globals[g]?).map (·.type) = some t) (hu : P.underlying t = some (.array n e)) (hc : P.cellsOf t = C.size)
    (hC : (List.range C.size).map (cellAt P 8 t d) = C.toList.map some) : ∃ tt fr, W.heap[g]? = some (.cells C tt fr) := by
  obtain ⟨ps, ⟨g', t', cs, fuel, p, q, hg', ht', hvar, hd, _, _⟩, _⟩ := h
  obtain rfl := Option.some.inj (hg.symm.trans hg')
  obtain rfl := Option.some.inj (ht.symm.trans ht')
  obtain ⟨_, _, _, _, hl, _, _⟩ := DataW.trod_array hu hd
  have hcs : cs = C := by
    apply Array.ext'
    apply List.ext_getElem?
    intro i
    by_cases hi : i < C.size
    · have h1 : ((List.range C.size).map (cellAt P 8 t d))[i]? = (C.toList.map some)[i]? := by rw [hC]
      rw [List.getElem?_map, List.getElem?_range hi, List.getElem?_map, Array.getElem?_toList, Array.getElem?_eq_getElem hi] at h1
      simp only [Option.map_some, Option.some.injEq] at h1
      rw [cellAt_trod 8 t d i _ _ _ _ hd h1, Array.getElem?_toList, Array.getElem?_eq_getElem hi]
    · rw [List.getElem?_eq_none (by omega), List.getElem?_eq_none (by simpa using hi)]
  subst hcs
  exact var_row hvar hg
end Go.Proofs.YticdcnbeemkapaaGreatDoor
namespace Go.Proofs.YticdcnbeemkapaaGreatDoor
open Go.ChangeShapes Go.WideShapes Go.ChangeAt Go.RowKit Go.Deep

theorem laidOut : laidOutB Tryz.prog = true := by kernel_rfl
theorem cellsCol : Tryz.prog.cellsOf 30 = 2 := by kernel_rfl
theorem cellsStr : Tryz.prog.cellsOf 9 = 1 := by kernel_rfl
theorem cellsInt : Tryz.prog.cellsOf 3 = 1 := by kernel_rfl
set_option maxRecDepth 100000 in
theorem open_cols {H : Type} {enc : TypeId × Value → H} {W : World} {base : Nat} {v : Value} {d : DataW H} {p : List MemPlace} (hv : Value.okWide Tryz.prog W .any base 27 v) (h : DataW.Trod enc Tryz.prog W 0 (fun _ => true) true 27 v d p) :
    (∃ q c, v = .slice q 0 c) ∨ ∃ (b off c : Nat) (zs : List (ByteArray × Int)), v = .slice (some ⟨b, off, none⟩) zs.length c ∧ zs.length ≠ 0 ∧ zs.length ≤ c ∧ c ≤ maxLen ∧ (∀ z ∈ zs, z.1.size ≤ maxLen) ∧ ColsIn W b off zs := by
  obtain ⟨a0, len0, cap0, rfl⟩ := okWide_slice Tryz.underlying27 hv
  obtain ⟨fuel, hf⟩ := h
  rcases open_slice_pairs Tryz.underlying27 Tryz.underlying30 cellsCol rfl rfl cellsStr cellsInt hf with ⟨hcs, hx⟩ | ⟨a, len, cap, m, n, V0, V1, D0, D1, P0, P1, hcs, _, hl, hm, hmeq, hx, hall⟩
  · simp [Value.cells] at hcs
    obtain ⟨rfl, rfl, rfl⟩ := hcs
    exact Or.inl ⟨_, _, rfl⟩
  · simp [Value.cells] at hcs
    obtain ⟨rfl, rfl, rfl⟩ := hcs
    by_cases h0 : len0 = 0
    · subst h0
      exact Or.inl ⟨_, _, rfl⟩
    · right
      simp only [if_true] at hmeq
      subst hmeq
      obtain ⟨sb, so, spot⟩ := a
      have hspot : spot = none := by simpa [Addr.add] using World.cell?_spot (hall 0 (by omega)).1
      subst hspot
      obtain ⟨f, hF⟩ := choose_lt (α := ByteArray × Int) (n := len0) (p := fun i z => V0 i = .string z.1 ∧ V1 i = .int .i64 z.2 ∧ z.1.size ≤ maxLen) (fun i hi => by
        obtain ⟨_, _, t0, t1⟩ := hall i (by omega)
        obtain ⟨s, e0, _, hs⟩ := DataW.trod_string Tryz.underlying9 t0
        obtain ⟨k, e1, _, _⟩ := DataW.trod_int Tryz.underlying3 t1
        exact ⟨(s, k), by simpa using e0, by simpa using e1, hs⟩)
      have hlen : ((List.range len0).map f).length = len0 := by simp
      refine ⟨sb, so, _, (List.range len0).map f, by rw [hlen], by omega, by omega, hm, ?_, ?_, ?_⟩
      · intro z hz
        obtain ⟨i, hi, rfl⟩ := List.mem_map.1 hz
        exact (hF i (List.mem_range.1 hi)).2.2
      · have := (hall 0 (by omega)).1
        exact cell_lt' (o := so + 0 * 2) (by simpa [Addr.add] using this)
      · intro j hj
        have hj' : j < len0 := by omega
        obtain ⟨c0, c1, _, _⟩ := hall j (by omega)
        obtain ⟨e0, e1, _⟩ := hF j hj'
        rw [e0] at c0
        rw [e1] at c1
        simp only [List.getElem_map, List.getElem_range]
        exact ⟨by simpa [add_plain] using c0, by simpa [add_plain, Nat.add_assoc] using c1⟩

theorem g_tw : Tryz.prog.globalNamed "sluicebook/row.typeWords" = some 4 := by kernel_rfl
theorem t_tw : (Tryz.prog.globals[4]?).map (·.type) = some 202 := by kernel_rfl
theorem cellsTW : Tryz.prog.cellsOf 125 = 2 := by kernel_rfl
theorem cellsTA : Tryz.prog.cellsOf 202 = 6 := by kernel_rfl
set_option maxRecDepth 100000 in
/-- One word of the variable, from its two cells. -/
theorem tw_open {W : World} {m : Nat} {x y : Value} {a : Int} {l : List UInt8} {ps : List MemPlace} (h : DataW.trod (fun _ => ()) Tryz.prog W 0 (fun _ => true) false m 125 [x, y] = some (DataW.agg [.lit (.int .i64 a), .lit (.string l)], ps)) : x = .int .i64 a ∧ y = .string ⟨l.toArray⟩ := by
  obtain ⟨y0, y1, n, e, _, h0, h1⟩ := trod_struct2 Tryz.underlying125 h
  simp [cellsInt, cellsStr] at h0 h1
  obtain ⟨k, e0, r0, _⟩ := DataW.trod_int Tryz.underlying3 h0
  obtain ⟨s, e1, r1, _⟩ := DataW.trod_string Tryz.underlying9 h1
  simp at e0 e1
  subst e0 e1 r0 r1
  simp at e
  obtain ⟨⟨rfl, rfl⟩, _⟩ := e
  exact ⟨rfl, by simp⟩
set_option maxRecDepth 100000 in
theorem tw_of {W : World} {rest : List (String × DataW Unit)} (h : laidMet Tryz.prog (("sluicebook/row.typeWords", Rows.laid_sluicebook_row_typeWords) :: rest) W) : TW W := by
  obtain ⟨ps, ⟨g', t', cs, fuel, p, q, hg', ht', hvar, hd, _, _⟩, _⟩ := h
  obtain rfl := Option.some.inj (g_tw.symm.trans hg')
  obtain rfl := Option.some.inj (t_tw.symm.trans ht')
  obtain ⟨xs, m, _, hx, hl, hlen, hel⟩ := DataW.trod_array Tryz.underlying202 hd
  rw [cellsTA] at hl
  rw [cellsTW] at hel
  have hcs : ∃ c0 c1 c2 c3 c4 c5, cs = #[c0, c1, c2, c3, c4, c5] := by
    obtain ⟨l⟩ := cs
    match l, hl with
    | [c0, c1, c2, c3, c4, c5], _ => exact ⟨_, _, _, _, _, _, rfl⟩
  obtain ⟨c0, c1, c2, c3, c4, c5, rfl⟩ := hcs
  match xs, hlen with
  | [x0, x1, x2], _ =>
    obtain ⟨d0, q0⟩ := x0
    obtain ⟨d1, q1⟩ := x1
    obtain ⟨d2, q2⟩ := x2
    have hx2 := congrArg Prod.fst hx
    simp [Rows.laid_sluicebook_row_typeWords] at hx2
    obtain ⟨r0, r1, r2⟩ := hx2
    subst r0 r1 r2
    obtain ⟨e0, e1⟩ := tw_open (by simpa using hel 0 (by decide))
    obtain ⟨e2, e3⟩ := tw_open (by simpa using hel 1 (by decide))
    obtain ⟨e4, e5⟩ := tw_open (by simpa using hel 2 (by decide))
    subst e0 e1 e2 e3 e4 e5
    have hc := fun i => World.var?_cell g_tw hvar i
    exact ⟨by simpa using hc 0, by simpa using hc 1, by simpa using hc 2, by simpa using hc 3, by simpa using hc 4, by simpa using hc 5, cell_lt' (o := 0) (by simpa using hc 0)⟩
end Go.Proofs.YticdcnbeemkapaaGreatDoor
