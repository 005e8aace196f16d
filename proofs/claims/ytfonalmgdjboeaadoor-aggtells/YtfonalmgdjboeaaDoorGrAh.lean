/-
  Told, VarOf, AgEnv, AgCt, AnyL, in one text.
-/
import Derived.Test.YtfonalmgdjboeaaDoorQAs
import Derived.Test.YtfonalmgdjboeaaDoorGrAa
import Derived.OpenShut
import Derived.ChangeSame
import Derived.MakeChecks
import Derived.RowKit
import Derived.Test.YtfonalmgdjboeaaDoorCards
import Derived.Test.YtfonalmgdjboeaaDoorTie
import Derived.Test.YtfonalmgdjboeaaDoorGrAg
import Derived.LaidHandle
import Derived.LaidSub
import Derived.ProofKit
import Derived.SizedLaws
import Derived.Stop.LaidErr
import Derived.Stop.Joined
import Derived.Lib.SmallJoins
import Derived.Deep.DeepHandedRow
namespace Go.Proofs.YtfonalmgdjboeaaDoor
open Go.RowKit
set_option linter.unusedVariables false

theorem told_any (k : Int) (w : World) (hg : w.cell? ⟨1, 0, none⟩ = some (.iface 107 (.agg #[.pointer (some ⟨2, 34, none⟩)]))) :
    Calls Tryd.prog 7 #[errV k, .int .i64 k] w fun e w' => e = .returned (.bool true) ∧ Below w.heap.size w w' := by
  by_cases hk : k = 0
  · subst hk
    exact (same_nil 0 w).mono fun e w' hh => ⟨by rw [hh.1]; rfl, by rw [hh.2]; exact Below.refl _ _⟩
  · rw [errV, if_neg hk]
    exact (same_err k k w hg).mono fun e w' hh => ⟨by rw [hh.1]; simp, hh.2⟩
/-- The handle of the type error lies there. -/
def EtAt (w : World) : Prop := w.cell? ⟨1, 0, none⟩ = some (.iface 107 (.agg #[.pointer (some ⟨2, 34, none⟩)]))
theorem EtAt.on {w w' : World} (h : EtAt w) (hb : Below w.heap.size w w') : EtAt w' := by
  have hl : 1 < w.heap.size := by
    rcases Nat.lt_or_ge 1 w.heap.size with h' | h'
    · exact h'
    · rw [EtAt] at h; simp [World.cell?, Array.getElem?_eq_none h'] at h
  rw [EtAt, hb.cell (p := ⟨1, 0, none⟩) hl]
  exact h
end Go.Proofs.YtfonalmgdjboeaaDoor
namespace Go.Proofs.YtfonalmgdjboeaaDoor
open Go.RowKit

/-- The cell at a place of a datum of numbers and texts. -/
def cellAt (P : Program) : Nat → TypeId → DataW Unit → Nat → Option Value
  | 0, _, _, _ => none
  | f + 1, t, d, i =>
    match P.underlying t, d with
    | some (.int k), .lit (.int _ n) => if i = 0 then some (.int k n) else none
    | some .string, .lit (.string l) => if i = 0 then some (.string ⟨l.toArray⟩) else none
    | some (.array n e), .agg l => if i / P.cellsOf e < n ∧ i % P.cellsOf e < P.cellsOf e then (l[i / P.cellsOf e]?).bind fun d' => cellAt P f e d' (i % P.cellsOf e) else none
    | some (.struct fs), .agg l =>
      (fs[(fs.toList.findIdx fun g => decide (i < g.offset + P.cellsOf g.type))]?).bind fun g =>
        if g.offset ≤ i ∧ i < g.offset + P.cellsOf g.type then (l[(fs.toList.findIdx fun g => decide (i < g.offset + P.cellsOf g.type))]?).bind fun d' => cellAt P f g.type d' (i - g.offset) else none
    | _, _ => none
theorem chunk_at {cs : List Value} {o k i : Nat} {v : Value} (hk : i < k) (h : ((cs.drop o).take k)[i]? = some v) : cs[o + i]? = some v := by
  rw [List.getElem?_take, if_pos hk, List.getElem?_drop] at h
  exact h
theorem cellAt_trod {P : Program} {W : World} {enc : TypeId × Value → Unit} {base : Nat} {spare : Nat → Bool} {held : Bool} : ∀ (f : Nat) (t : TypeId) (d : DataW Unit) (i : Nat) (v : Value) (fuel : Nat) (cs : List Value) (ps : List MemPlace),
    DataW.trod enc P W base spare held fuel t cs = some (d, ps) → cellAt P f t d i = some v → cs[i]? = some v
  | 0, _, _, _, _, _, _, _, _, h => by simp [cellAt] at h
  | f + 1, t, d, i, v, fuel, cs, ps, ht, h => by
    unfold cellAt at h
    split at h
    · rename_i k _ n hu
      split at h
      · rename_i hi
        subst hi
        cases fuel with
        | zero => simp [DataW.trod] at ht
        | succ m =>
          unfold DataW.trod at ht
          rw [hu] at ht
          split at ht <;> simp_all
      · simp at h
    · rename_i l hu
      split at h
      · rename_i hi
        subst hi
        obtain ⟨s, rfl, hx, _⟩ := DataW.trod_string hu ht
        simp at hx h ⊢
        rw [← h, hx.1]
      · simp at h
    · rename_i n e l hu
      split at h
      · rename_i hi
        obtain ⟨xs, m, _, hx, _, hl, hel⟩ := DataW.trod_array hu ht
        simp only [Prod.mk.injEq, DataW.agg.injEq] at hx
        obtain ⟨rfl, rfl⟩ := hx
        rw [Option.bind_eq_some_iff] at h
        obtain ⟨d', hd, h⟩ := h
        have hlt : i / P.cellsOf e < xs.length := by omega
        rw [List.getElem?_map, List.getElem?_eq_getElem hlt] at hd
        have h2 := hel _ hi.1
        rw [List.getElem?_eq_getElem hlt] at h2
        simp only [Option.map_some, Option.some.injEq] at hd
        subst hd
        have h3 := cellAt_trod f e _ _ v _ _ _ h2 h
        have h4 := chunk_at hi.2 h3
        rwa [Nat.mul_comm, Nat.div_add_mod] at h4
      · simp at h
    · rename_i fs l hu
      rw [Option.bind_eq_some_iff] at h
      obtain ⟨g, hg, h⟩ := h
      split at h
      · rename_i hi
        obtain ⟨xs, m, _, hx, _, hl, hel⟩ := DataW.trod_struct hu ht
        simp only [Prod.mk.injEq, DataW.agg.injEq] at hx
        obtain ⟨rfl, rfl⟩ := hx
        rw [Option.bind_eq_some_iff] at h
        obtain ⟨d', hd, h⟩ := h
        have h2 := hel _ g hg
        rw [List.getElem?_map, Option.map_eq_some_iff] at hd
        obtain ⟨y, hy, rfl⟩ := hd
        rw [hy] at h2
        have h3 := cellAt_trod f g.type _ _ v _ _ _ h2 h
        have h4 := chunk_at (by omega) h3
        rwa [show g.offset + (i - g.offset) = i by omega] at h4
      · simp at h
    · simp at h
theorem var_row {P : Program} {W : World} {n : String} {cs : Array Value} {g : Nat} (h : W.var? P n = some cs) (hg : P.globalNamed n = some g) : ∃ t fr, W.heap[g]? = some (.cells cs t fr) := by
  unfold World.var? at h
  simp only [hg, Option.bind_some] at h
  split at h
  · rename_i c t fr he
    obtain rfl := Option.some.inj h
    exact ⟨t, fr, he⟩
  · simp at h
theorem var_of {P : Program} {W : World} {nm : String} {d : DataW Unit} {rest : List (String × DataW Unit)} {g : Nat} {t e : TypeId} {n : Nat} (C : Array Value)
    (h : laidMet P ((nm, d) :: rest) W) (hg : P.globalNamed nm = some g) (ht : (P.globals[g]?).map (·.type) = some t) (hu : P.underlying t = some (.array n e)) (hc : P.cellsOf t = C.size)
    (hC : (List.range C.size).map (cellAt P 8 t d) = C.toList.map some) : ∃ tt fr, W.heap[g]? = some (.cells C tt fr) := by
  obtain ⟨ps, ⟨g', t', cs, fuel, p, q, hg', ht', hvar, hd, _, _⟩, _⟩ := h
  obtain rfl := Option.some.inj (hg.symm.trans hg')
  obtain rfl := Option.some.inj (ht.symm.trans ht')
  obtain ⟨_, _, _, _, hl, _, _⟩ := DataW.trod_array hu hd
  have hcs : cs = C := by
    apply Array.ext'
    apply List.ext_getElem?
    intro i
    by_cases hi : i < C.size
    · have h1 : ((List.range C.size).map (cellAt P 8 t d))[i]? = (C.toList.map some)[i]? := by rw [hC]
      rw [List.getElem?_map, List.getElem?_range hi, List.getElem?_map, Array.getElem?_toList, Array.getElem?_eq_getElem hi] at h1
      simp only [Option.map_some, Option.some.injEq] at h1
      rw [cellAt_trod 8 t d i _ _ _ _ hd h1, Array.getElem?_toList, Array.getElem?_eq_getElem hi]
    · rw [List.getElem?_eq_none (by omega), List.getElem?_eq_none (by simpa using hi)]
  subst hcs
  exact var_row hvar hg
end Go.Proofs.YtfonalmgdjboeaaDoor
namespace Go.Proofs.YtfonalmgdjboeaaDoor
open Go.ChangeShapes Go.WideShapes Go.ChangeAt Go.RowKit Go.Joins

namespace agEnv
theorem own : ownKnob Tryd.prog.godebug = none := by kernel_rfl
theorem laidOut : laidOutB Tryd.prog = true := by kernel_rfl
theorem et : Tryd.prog.globalNamed "errors.errorType" = some 1 := by kernel_rfl
theorem rt : (Tryd.prog.cutTypes.find? (·.1 == "internal/reflectlite.rtype")).map (·.2) = some 107 := by kernel_rfl
theorem oneRow : ((List.range 154).filter fun t => Tryd.prog.rowNamed t [101, 114, 114, 111, 114]) = [34] := by kernel_rfl
theorem size : Tryd.prog.types.size = 154 := by kernel_rfl
/-- The list that the three rows have. -/
abbrev laidA : List (String × DataW Unit) := Rows.aggAnyRow.laid
theorem handle {W : World} (h : laidMetH Tryd.prog laidA W) : EtAt W := by
  have h2 := (laidMetH_iff.1 h).2
  obtain ⟨name, u, ty, e1, e2, e3, e4, e5⟩ := h2 _ (List.mem_singleton.2 rfl)
  have en : name = [101, 114, 114, 111, 114] := (Option.some.inj e1).symm
  subst en
  obtain rfl := Option.some.inj (rt.symm.trans e2)
  have hm : ty ∈ (List.range 154).filter fun t => Tryd.prog.rowNamed t [101, 114, 114, 111, 114] := List.mem_filter.2 ⟨List.mem_range.2 (by rw [← size]; exact e3), e4⟩
  rw [oneRow] at hm
  obtain rfl := List.mem_singleton.1 hm
  have hh : typeHandle Tryd.prog 34 = .pointer (some ⟨2, 34, none⟩) := by kernel_rfl
  rw [hh] at e5
  unfold EtAt
  simpa using World.var?_cell et e5 0
theorem g_ags : Tryd.prog.globalNamed "sluicebook/query.aggs" = some 0 := by kernel_rfl
theorem t_ags : (Tryd.prog.globals[0]?).map (·.type) = some 88 := by kernel_rfl
set_option maxRecDepth 100000 in
theorem ags_of {W : World} {rest : List (String × DataW Unit)} (h : laidMet Tryd.prog (("sluicebook/query.aggs", Rows.laid_sluicebook_query_aggs) :: rest) W) : ∃ t fr, W.heap[0]? = some (.cells aggsC t fr) :=
  var_of aggsC h g_ags t_ags Tryd.underlying88 (by kernel_rfl) (by kernel_rfl)
theorem big_of {W : World} (hsh : W.ShapedOpen Tryd.prog) : 2 ≤ W.heap.size := by
  obtain ⟨o, o0, h, _⟩ := hsh.2 2 (Nat.le_of_eq (by kernel_rfl)) (of_decide_eq_true (by kernel_rfl))
  exact Nat.le_of_lt (Array.getElem?_eq_some_iff.1 h).1
theorem env {W : World} (h : laidMetH Tryd.prog laidA W) (hsh : W.ShapedOpen Tryd.prog) : AEnv W ∧ EtAt W := by
  have hM : laidMet Tryd.prog (("sluicebook/query.aggs", Rows.laid_sluicebook_query_aggs) :: []) W := (laidMetH_iff.1 h).1
  exact ⟨⟨big_of hsh, ags_of hM⟩, handle h⟩
/-- The cells of a datum of numbers and texts. -/
def flat : Nat → DataW Unit → List Value
  | 0, _ => []
  | _ + 1, .lit (.int k n) => [.int k n]
  | _ + 1, .lit (.string l) => [.string ⟨l.toArray⟩]
  | f + 1, .agg l => l.flatMap (flat f)
  | _ + 1, _ => []
def layAt (w : World) (g : Nat) (cs : List Value) : World :=
  { w with heap := w.heap.modify g fun
      | .cells _ t frozen => .cells cs.toArray t frozen
      | o => o }
/-- A world with the variables' cells laid. -/
def lay (w : World) : World :=
  layAt (layAt w 0 (flat 3 Rows.laid_sluicebook_query_aggs)) 1 [.iface 107 (.agg #[.pointer (some ⟨2, 34, none⟩)])]
end agEnv
end Go.Proofs.YtfonalmgdjboeaaDoor
namespace Go.Proofs.YtfonalmgdjboeaaDoor
open Go.RowKit
set_option linter.unusedVariables false

theorem count_any' (a : Nat) (v : Value) (rows : Int) (ps : List Pt) (w : World) (hA : AccAt w a v rows ps) :
    Calls Tryd.prog 14 #[.pointer (some ⟨a, 0, none⟩)] w fun e w' => e = .returned (.int .i64 rows) ∧ w' = w := by
  have h0 := hA.cell0
  clear hA
  go_enter Tryd.func14, Tryd.ntmps14
  go_wp2
  go_ret
  exact ⟨rfl, rfl⟩
theorem count_c (a : Nat) (v : Value) (ps0 : List Pt) (rs : List (List V3)) (W : World) (h : AcAt W a v ps0 rs) :
    Calls Tryd.prog 14 #[.pointer (some ⟨a, 0, none⟩)] W fun e w' => e = .returned (.int .i64 (rs.length : Int)) ∧ w' = W := by
  obtain ⟨ps, h1, h2⟩ := h
  exact count_any' a v _ ps W h1
end Go.Proofs.YtfonalmgdjboeaaDoor
namespace Go.Proofs.YtfonalmgdjboeaaDoor
open Go.RowKit
set_option linter.unusedVariables false

def sumX : ByteArray := ⟨#[115, 117, 109]⟩
def psF : List Pt := nwP [sumX] [1]
theorem psF_ok : nwE [sumX] [1] = 0 := by decide
theorem psF_row (n : Int) : adE psF [(1, n, ⟨#[]⟩)] = 0 := by
  unfold adE
  rw [if_neg (fun h => h (show [((1 : Int), n, (⟨#[]⟩ : ByteArray))].length = psF.length from rfl))]
  show fstE [ckPt _ _] = 0
  have : ckPt (npP sumX 1) (1, n, ⟨#[]⟩) = 0 := by
    unfold ckPt
    rw [if_neg (by decide)]
    have hc : chk 1 n [] = 0 := by simp [chk]
    rw [if_neg (by intro h; exact h hc), if_neg (fun h => h (show (1 : Int) = (npP sumX 1).kind by decide))]
  rw [fstE, if_neg (by rw [this]; decide)]
  rfl
theorem psF_sum {rs : List (List V3)} {ps : List Pt} (h : Acu psF rs ps) : ∃ p, ps = [p] ∧ p.wh = wSum ∧ sv p.ws = ((colV 0 rs).map (·.2.1)).sum := by
  have hl : ps.length = 1 := h.al.1
  obtain ⟨p, rfl⟩ := List.length_eq_one_iff.1 hl
  have hw := (h.al.2 0 (by simp) (by decide)).1
  have hwh : p.wh = wSum := by
    unfold Pt.wh
    have e : p.what = sumX := hw
    rw [e]; rfl
  exact ⟨p, rfl, hwh, (h.kn 0 (by simp)).sum hwh⟩
theorem fact_over {ps : List Pt} (h : Acu psF [[(1, 9223372036854775807, ⟨#[]⟩)], [(1, 5, ⟨#[]⟩)]] ps) : reE ps 2 = 9 := by
  obtain ⟨p, rfl, hw, hs⟩ := psF_sum h
  have hs2 : sv p.ws = 9223372036854775812 := by rw [hs]; decide
  unfold reE
  show fstE [(resP p 2).2] = 9
  rw [resP_s hw, hs2]
  decide
theorem fact_ok {ps : List Pt} (h : Acu psF [[(1, 9223372036854775807, ⟨#[]⟩)], [(1, 5, ⟨#[]⟩)], [(1, -7, ⟨#[]⟩)]] ps) : reE ps 3 = 0 ∧ reV ps 3 = [(1, 9223372036854775805, ⟨#[]⟩)] := by
  obtain ⟨p, rfl, hw, hs⟩ := psF_sum h
  have hs2 : sv p.ws = 9223372036854775805 := by rw [hs]; decide
  unfold reE reV
  show fstE [(resP p 3).2] = 0 ∧ [(resP p 3).1] = _
  rw [resP_s hw, hs2]
  exact ⟨by decide, by rw [if_pos (by decide)]⟩
/-- A row of one value that is made here. -/
theorem add_lit (a : Nat) (v : Value) (rs : List (List V3)) (n : Int) (W : World) (h : AcAt W a v psF rs) (hl : rs.length + 1 ≤ 10000) (hn : inB n) :
    Calls Tryd.prog 9 #[.pointer (some ⟨a, 0, none⟩), .slice (some ⟨W.heap.size, 0, none⟩) 1 1] (W.alloc (.cells #[.int .i64 1, .int .i64 n, .string ⟨#[]⟩] 26)) fun e w' => e = .returned .nilIface ∧ Aside (AcAt w' a v psF (rs ++ [[(1, n, ⟨#[]⟩)]])) ∧ Aside (Kp (accS a v) W w') := by
  have hb := alB W (.cells #[.int .i64 1, .int .i64 n, .string ⟨#[]⟩] 26)
  have P := blk_alloc W #[.int .i64 1, .int .i64 n, .string ⟨#[]⟩] 26
  have := add_c a v psF rs (some ⟨W.heap.size, 0, none⟩) 1 [(1, n, ⟨#[]⟩)] _ (h.on hb) hl (.inr ⟨W.heap.size, 0, rfl, P.lt, fun j hj => by
    have hj0 : j = 0 := by simp at hj; omega
    subst hj0
    exact ⟨P.cell 0, P.cell 1, P.cell 2⟩⟩) (fun r hr => by
      have : r = (1, n, ⟨#[]⟩) := by simpa using hr
      subst this
      exact ⟨Nat.zero_le _, hn⟩) (show (1 : Nat) ≤ maxLen by decide) (.inr fun b o e hs => by
        injection e with e
        injection e with e
        subst e
        have := h.lt _ hs
        omega)
  refine this.mono fun e w' hh => ⟨by rw [hh.1, psF_row]; rfl, ?_, (Kp.of_below hb).trans hh.2.2⟩
  have hA := hh.2.1
  unfold gdR at hA
  rw [if_pos (psF_row n)] at hA
  exact hA
theorem over_c (a : Nat) (v : Value) (W : World) (h : AcAt W a v psF [[(1, 9223372036854775807, ⟨#[]⟩)], [(1, 5, ⟨#[]⟩)]]) :
    Calls Tryd.prog 12 #[.pointer (some ⟨a, 0, none⟩)] W fun e w' => e = .returned (.tuple #[.slice none 0 0, .iface 53 (.int .i64 9)]) ∧ Aside (Below W.heap.size W w') := by
  obtain ⟨ps, hu, h | h⟩ := result_c a v psF _ W h
  · have := fact_over hu
    exact absurd h.1 (by show reE ps 2 ≠ 0; rw [this]; decide)
  · refine h.2.mono fun e w' hh => ⟨?_, hh.2⟩
    rw [hh.1]
    show Ending.returned (.tuple #[.slice none 0 0, .iface 53 (.int .i64 (reE ps 2))]) = _
    rw [fact_over hu]
theorem fact_c (a : Nat) (v : Value) (W : World) (h : AcAt W a v psF [[(1, 9223372036854775807, ⟨#[]⟩)], [(1, 5, ⟨#[]⟩)], [(1, -7, ⟨#[]⟩)]]) :
    Calls Tryd.prog 12 #[.pointer (some ⟨a, 0, none⟩)] W fun e w' => (∃ b o c, e = .returned (.tuple #[.slice (some ⟨b, o, none⟩) 1 c, .nilIface]) ∧ b < w'.heap.size ∧ w'.cell? ⟨b, o + 1, none⟩ = some (.int .i64 9223372036854775805)) ∧ Aside (Below W.heap.size W w') := by
  obtain ⟨ps, hu, h | h⟩ := result_c a v psF _ W h
  · obtain ⟨f1, f2⟩ := fact_ok hu
    refine h.2.mono fun e w' hh => ?_
    obtain ⟨⟨q, c, e1, e2⟩, e3⟩ := hh
    have e2' : ValsAt w' q (reV ps 3) := e2
    have e1' : e = .returned (.tuple #[.slice q (reV ps 3).length c, .nilIface]) := e1
    rw [f2] at e2' e1'
    obtain ⟨b, o, rfl, hb, hc⟩ := e2'.resolve_left (by decide)
    have := (hc 0 (by decide)).2.1
    exact ⟨⟨b, o, c, e1', hb, by simpa using this⟩, e3⟩
  · exact absurd (fact_ok hu).1 h.1
theorem ags_lit (w : World) (x : ByteArray) (o1 : Obj) : AgsW ((w.alloc (.cells #[.string x, .string ⟨#[]⟩, .string ⟨#[]⟩, .int .i64 0, .int .i64 0, .string ⟨#[]⟩, .slice none 0 0, .int .i64 0, .string ⟨#[]⟩] 31)).alloc o1) (some ⟨w.heap.size, 0, none⟩) [x] := by
  have P := (blk_alloc w #[.string x, .string ⟨#[]⟩, .string ⟨#[]⟩, .int .i64 0, .int .i64 0, .string ⟨#[]⟩, .slice none 0 0, .int .i64 0, .string ⟨#[]⟩] 31).on (alB _ o1)
  refine .inr ⟨w.heap.size, 0, rfl, P.lt, fun j hj => ⟨⟨#[]⟩, ⟨#[]⟩, 0, 0, ⟨#[]⟩, none, 0, 0, 0, ⟨#[]⟩, fun k v hv => ?_⟩⟩
  have hj0 : j = 0 := by simp at hj; omega
  subst hj0
  rw [show 0 + 0 * 9 + k = k by omega, P.cell]
  simpa using hv
theorem ints_lit (w : World) (t : Int) : IntW (w.alloc (.cells #[.int .i64 t] 3)) (some ⟨w.heap.size, 0, none⟩) [t] := by
  have P := blk_alloc w #[.int .i64 t] 3
  refine .inr ⟨w.heap.size, 0, rfl, P.lt, fun j hj => ?_⟩
  have hj0 : j = 0 := by simp at hj; omega
  subst hj0
  exact P.cell 0
/-- What AggAny begins with. -/
structure AnyE (w : World) (ap : Option Addr) (xs : List ByteArray) (tp : Option Addr) (ts : List Int) (rp : Option Addr) (rws : List (List V3)) : Prop where
  env : AEnv w
  et : EtAt w
  ags : AgsW w ap xs
  tys : IntW w tp ts
  rows : RowsAt w rp rws
  xl : xs.length ≤ maxLen
  tl : ts.length ≤ maxLen
  rl : rws.length ≤ maxLen
  sz : ∀ r ∈ rws, SizedV r ∧ r.length ≤ maxLen
theorem RowsAt.on {w w' : World} {p : Option Addr} {rws : List (List V3)} (h : RowsAt w p rws) (hb : Below w.heap.size w w') : RowsAt w' p rws := by
  have hs := hb.size
  rcases h with h | ⟨b, off, e, hl, h⟩
  · exact .inl h
  · refine .inr ⟨b, off, e, by omega, fun j hj => ?_⟩
    obtain ⟨q, c, h1, h2, h3⟩ := h j hj
    exact ⟨q, c, by rw [hb.cell (p := ⟨b, _, none⟩) hl]; exact h1, h2.on hb, h3.imp id (fun h3 g o e => by have := h3 g o e; omega)⟩
theorem AnyE.on {w w' : World} {ap tp rp : Option Addr} {xs : List ByteArray} {ts : List Int} {rws : List (List V3)} (h : AnyE w ap xs tp ts rp rws) (hb : Below w.heap.size w w') : AnyE w' ap xs tp ts rp rws :=
  ⟨h.env.on hb, h.et.on hb, h.ags.on hb, h.tys.on hb, h.rows.on hb, h.xl, h.tl, h.rl, h.sz⟩
theorem new_lit (w W : World) (h : AEnv W) (hb : Below w.heap.size w W) :
    Calls Tryd.prog 6 #[.slice (some ⟨W.heap.size, 0, none⟩) 1 1, .slice (some ⟨W.heap.size + 1, 0, none⟩) 1 1] ((W.alloc (.cells #[.string ⟨#[115, 117, 109]⟩, .string ⟨#[]⟩, .string ⟨#[]⟩, .int .i64 0, .int .i64 0, .string ⟨#[]⟩, .slice none 0 0, .int .i64 0, .string ⟨#[]⟩] 31)).alloc (.cells #[.int .i64 1] 3)) fun e w' => (∃ a v, e = .returned (.tuple #[.pointer (some ⟨a, 0, none⟩), .nilIface]) ∧ Aside (AcAt w' a v psF []) ∧ Aside (∀ k, accS a v k → w.heap.size ≤ k)) ∧ Aside (Below w.heap.size w w') := by
  have b2 := al2 W (.cells #[.string ⟨#[115, 117, 109]⟩, .string ⟨#[]⟩, .string ⟨#[]⟩, .int .i64 0, .int .i64 0, .string ⟨#[]⟩, .slice none 0 0, .int .i64 0, .string ⟨#[]⟩] 31) (.cells #[.int .i64 1] 3)
  have hs := hb.size
  have hi : IntW ((W.alloc (.cells #[.string ⟨#[115, 117, 109]⟩, .string ⟨#[]⟩, .string ⟨#[]⟩, .int .i64 0, .int .i64 0, .string ⟨#[]⟩, .slice none 0 0, .int .i64 0, .string ⟨#[]⟩] 31)).alloc (.cells #[.int .i64 1] 3)) (some ⟨W.heap.size + 1, 0, none⟩) [1] := by
    have := ints_lit (W.alloc (.cells #[.string ⟨#[115, 117, 109]⟩, .string ⟨#[]⟩, .string ⟨#[]⟩, .int .i64 0, .int .i64 0, .string ⟨#[]⟩, .slice none 0 0, .int .i64 0, .string ⟨#[]⟩] 31)) 1
    simpa using this
  refine (new_c (some ⟨W.heap.size, 0, none⟩) 1 [sumX] (some ⟨W.heap.size + 1, 0, none⟩) 1 [1] _ (h.on b2) (ags_lit W sumX _) hi (show (1 : Nat) ≤ maxLen by decide) (show (1 : Nat) ≤ maxLen by decide) psF_ok).mono fun e w' hh => ?_
  obtain ⟨a, v, e1, e2, e3, e4⟩ := hh
  have b2s := b2.size
  exact ⟨⟨a, v, e1, e2, fun k hk => by have := e3 k hk; omega⟩, hb.trans ((b2.trans (e4.mono b2s)).mono hs)⟩
end Go.Proofs.YtfonalmgdjboeaaDoor
