/-
  Told, VarOf, AgEnv, AnyL, AnyP, in one text.
-/
import Derived.Test.YtckonjacccfmmaaDoorQAs
import Derived.Test.YtckonjacccfmmaaDoorGrAa
import Derived.OpenShut
import Derived.ChangeSame
import Derived.MakeChecks
import Derived.RowKit
import Derived.Test.YtckonjacccfmmaaDoorCards
import Derived.Test.YtckonjacccfmmaaDoorTie
import Derived.Test.YtckonjacccfmmaaDoorGrAg
import Derived.LaidHandle
import Derived.LaidSub
import Derived.ProofKit
import Derived.SizedLaws
import Derived.Stop.LaidErr
import Derived.Stop.Joined
import Derived.Lib.SmallJoins
import Derived.Deep.DeepHandedRow
namespace Go.Proofs.YtckonjacccfmmaaDoor
open Go.RowKit
set_option linter.unusedVariables false

theorem told_any (k : Int) (w : World) (hg : w.cell? ⟨1, 0, none⟩ = some (.iface 107 (.agg #[.pointer (some ⟨2, 34, none⟩)]))) :
    Calls Tryd.prog 7 #[errV k, .int .i64 k] w fun e w' => e = .returned (.bool true) ∧ Below w.heap.size w w' := by
  by_cases hk : k = 0
  · subst hk
    exact (same_nil 0 w).mono fun e w' hh => ⟨by rw [hh.1]; rfl, by rw [hh.2]; exact Below.refl _ _⟩
  · rw [errV, if_neg hk]
    exact (same_err k k w hg).mono fun e w' hh => ⟨by rw [hh.1]; simp, hh.2⟩
/-- The handle of the type error lies there. -/
def EtAt (w : World) : Prop := w.cell? ⟨1, 0, none⟩ = some (.iface 107 (.agg #[.pointer (some ⟨2, 34, none⟩)]))
theorem EtAt.on {w w' : World} (h : EtAt w) (hb : Below w.heap.size w w') : EtAt w' := by
  have hl : 1 < w.heap.size := by
    rcases Nat.lt_or_ge 1 w.heap.size with h' | h'
    · exact h'
    · rw [EtAt] at h; simp [World.cell?, Array.getElem?_eq_none h'] at h
  rw [EtAt, hb.cell (p := ⟨1, 0, none⟩) hl]
  exact h
end Go.Proofs.YtckonjacccfmmaaDoor
namespace Go.Proofs.YtckonjacccfmmaaDoor
open Go.RowKit

/-- The cell at a place of a datum of numbers and texts. -/
def cellAt (P : Program) : Nat → TypeId → DataW Unit → Nat → Option Value
  | 0, _, _, _ => none
  | f + 1, t, d, i =>
    match P.underlying t, d with
    | some (.int k), .lit (.int _ n) => if i = 0 then some (.int k n) else none
    | some .string, .lit (.string l) => if i = 0 then some (.string ⟨l.toArray⟩) else none
    | some (.array n e), .agg l => if i / P.cellsOf e < n ∧ i % P.cellsOf e < P.cellsOf e then (l[i / P.cellsOf e]?).bind fun d' => cellAt P f e d' (i % P.cellsOf e) else none
    | some (.struct fs), .agg l =>
      (fs[(fs.toList.findIdx fun g => decide (i < g.offset + P.cellsOf g.type))]?).bind fun g =>
        if g.offset ≤ i ∧ i < g.offset + P.cellsOf g.type then (l[(fs.toList.findIdx fun g => decide (i < g.offset + P.cellsOf g.type))]?).bind fun d' => cellAt P f g.type d' (i - g.offset) else none
    | _, _ => none
theorem chunk_at {cs : List Value} {o k i : Nat} {v : Value} (hk : i < k) (h : ((cs.drop o).take k)[i]? = some v) : cs[o + i]? = some v := by
  rw [List.getElem?_take, if_pos hk, List.getElem?_drop] at h
  exact h
theorem cellAt_trod {P : Program} {W : World} {enc : TypeId × Value → Unit} {base : Nat} {spare : Nat → Bool} {held : Bool} : ∀ (f : Nat) (t : TypeId) (d : DataW Unit) (i : Nat) (v : Value) (fuel : Nat) (cs : List Value) (ps : List MemPlace),
    DataW.trod enc P W base spare held fuel t cs = some (d, ps) → cellAt P f t d i = some v → cs[i]? = some v
  | 0, _, _, _, _, _, _, _, _, h => by simp [cellAt] at h
  | f + 1, t, d, i, v, fuel, cs, ps, ht, h => by
    unfold cellAt at h
    split at h
    · rename_i k _ n hu
      split at h
      · rename_i hi
        subst hi
        cases fuel with
        | zero => simp [DataW.trod] at ht
        | succ m =>
          unfold DataW.trod at ht
          rw [hu] at ht
          split at ht <;> simp_all
      · simp at h
    · rename_i l hu
      split at h
      · rename_i hi
        subst hi
        obtain ⟨s, rfl, hx, _⟩ := DataW.trod_string hu ht
        simp at hx h ⊢
        rw [← h, hx.1]
      · simp at h
    · rename_i n e l hu
      split at h
      · rename_i hi
        obtain ⟨xs, m, _, hx, _, hl, hel⟩ := DataW.trod_array hu ht
        simp only [Prod.mk.injEq, DataW.agg.injEq] at hx
        obtain ⟨rfl, rfl⟩ := hx
        rw [Option.bind_eq_some_iff] at h
        obtain ⟨d', hd, h⟩ := h
        have hlt : i / P.cellsOf e < xs.length := by omega
        rw [List.getElem?_map, List.getElem?_eq_getElem hlt] at hd
        have h2 := hel _ hi.1
        rw [List.getElem?_eq_getElem hlt] at h2
        simp only [Option.map_some, Option.some.injEq] at hd
        subst hd
        have h3 := cellAt_trod f e _ _ v _ _ _ h2 h
        have h4 := chunk_at hi.2 h3
        rwa [Nat.mul_comm, Nat.div_add_mod] at h4
      · simp at h
    · rename_i fs l hu
      rw [Option.bind_eq_some_iff] at h
      obtain ⟨g, hg, h⟩ := h
      split at h
      · rename_i hi
        obtain ⟨xs, m, _, hx, _, hl, hel⟩ := DataW.trod_struct hu ht
        simp only [Prod.mk.injEq, DataW.agg.injEq] at hx
        obtain ⟨rfl, rfl⟩ := hx
        rw [Option.bind_eq_some_iff] at h
        obtain ⟨d', hd, h⟩ := h
        have h2 := hel _ g hg
        rw [List.getElem?_map, Option.map_eq_some_iff] at hd
        obtain ⟨y, hy, rfl⟩ := hd
        rw [hy] at h2
        have h3 := cellAt_trod f g.type _ _ v _ _ _ h2 h
        have h4 := chunk_at (by omega) h3
        rwa [show g.offset + (i - g.offset) = i by omega] at h4
      · simp at h
    · simp at h
theorem var_row {P : Program} {W : World} {n : String} {cs : Array Value} {g : Nat} (h : W.var? P n = some cs) (hg : P.globalNamed n = some g) : ∃ t fr, W.heap[g]? = some (.cells cs t fr) := by
  unfold World.var? at h
  simp only [hg, Option.bind_some] at h
  split at h
  · rename_i c t fr he
    obtain rfl := Option.some.inj h
    exact ⟨t, fr, he⟩
  · simp at h
theorem var_of {P : Program} {W : World} {nm : String} {d : DataW Unit} {rest : List (String × DataW Unit)} {g : Nat} {t e : TypeId} {n : Nat} (C : Array Value)
    (h : laidMet P ((nm, d) :: rest) W) (hg : P.globalNamed nm = some g) (ht : (P.globals[g]?).map (·.type) = some t) (hu : P.underlying t = some (.array n e)) (hc : P.cellsOf t = C.size)
    (hC : (List.range C.size).map (cellAt P 8 t d) = C.toList.map some) : ∃ tt fr, W.heap[g]? = some (.cells C tt fr) := by
  obtain ⟨ps, ⟨g', t', cs, fuel, p, q, hg', ht', hvar, hd, _, _⟩, _⟩ := h
  obtain rfl := Option.some.inj (hg.symm.trans hg')
  obtain rfl := Option.some.inj (ht.symm.trans ht')
  obtain ⟨_, _, _, _, hl, _, _⟩ := DataW.trod_array hu hd
  have hcs : cs = C := by
    apply Array.ext'
    apply List.ext_getElem?
    intro i
    by_cases hi : i < C.size
    · have h1 : ((List.range C.size).map (cellAt P 8 t d))[i]? = (C.toList.map some)[i]? := by rw [hC]
      rw [List.getElem?_map, List.getElem?_range hi, List.getElem?_map, Array.getElem?_toList, Array.getElem?_eq_getElem hi] at h1
      simp only [Option.map_some, Option.some.injEq] at h1
      rw [cellAt_trod 8 t d i _ _ _ _ hd h1, Array.getElem?_toList, Array.getElem?_eq_getElem hi]
    · rw [List.getElem?_eq_none (by omega), List.getElem?_eq_none (by simpa using hi)]
  subst hcs
  exact var_row hvar hg
end Go.Proofs.YtckonjacccfmmaaDoor
namespace Go.Proofs.YtckonjacccfmmaaDoor
open Go.ChangeShapes Go.WideShapes Go.ChangeAt Go.RowKit Go.Joins

namespace agEnv
theorem own : ownKnob Tryd.prog.godebug = none := by kernel_rfl
theorem laidOut : laidOutB Tryd.prog = true := by kernel_rfl
theorem et : Tryd.prog.globalNamed "errors.errorType" = some 1 := by kernel_rfl
theorem rt : (Tryd.prog.cutTypes.find? (·.1 == "internal/reflectlite.rtype")).map (·.2) = some 107 := by kernel_rfl
theorem oneRow : ((List.range 154).filter fun t => Tryd.prog.rowNamed t [101, 114, 114, 111, 114]) = [34] := by kernel_rfl
theorem size : Tryd.prog.types.size = 154 := by kernel_rfl
/-- The list that the three rows have. -/
abbrev laidA : List (String × DataW Unit) := Rows.aggAnyRow.laid
theorem handle {W : World} (h : laidMetH Tryd.prog laidA W) : EtAt W := by
  have h2 := (laidMetH_iff.1 h).2
  obtain ⟨name, u, ty, e1, e2, e3, e4, e5⟩ := h2 _ (List.mem_singleton.2 rfl)
  have en : name = [101, 114, 114, 111, 114] := (Option.some.inj e1).symm
  subst en
  obtain rfl := Option.some.inj (rt.symm.trans e2)
  have hm : ty ∈ (List.range 154).filter fun t => Tryd.prog.rowNamed t [101, 114, 114, 111, 114] := List.mem_filter.2 ⟨List.mem_range.2 (by rw [← size]; exact e3), e4⟩
  rw [oneRow] at hm
  obtain rfl := List.mem_singleton.1 hm
  have hh : typeHandle Tryd.prog 34 = .pointer (some ⟨2, 34, none⟩) := by kernel_rfl
  rw [hh] at e5
  unfold EtAt
  simpa using World.var?_cell et e5 0
theorem g_ags : Tryd.prog.globalNamed "sluicebook/query.aggs" = some 0 := by kernel_rfl
theorem t_ags : (Tryd.prog.globals[0]?).map (·.type) = some 88 := by kernel_rfl
set_option maxRecDepth 100000 in
theorem ags_of {W : World} {rest : List (String × DataW Unit)} (h : laidMet Tryd.prog (("sluicebook/query.aggs", Rows.laid_sluicebook_query_aggs) :: rest) W) : ∃ t fr, W.heap[0]? = some (.cells aggsC t fr) :=
  var_of aggsC h g_ags t_ags Tryd.underlying88 (by kernel_rfl) (by kernel_rfl)
theorem big_of {W : World} (hsh : W.ShapedOpen Tryd.prog) : 2 ≤ W.heap.size := by
  obtain ⟨o, o0, h, _⟩ := hsh.2 2 (Nat.le_of_eq (by kernel_rfl)) (of_decide_eq_true (by kernel_rfl))
  exact Nat.le_of_lt (Array.getElem?_eq_some_iff.1 h).1
theorem env {W : World} (h : laidMetH Tryd.prog laidA W) (hsh : W.ShapedOpen Tryd.prog) : AEnv W ∧ EtAt W := by
  have hM : laidMet Tryd.prog (("sluicebook/query.aggs", Rows.laid_sluicebook_query_aggs) :: []) W := (laidMetH_iff.1 h).1
  exact ⟨⟨big_of hsh, ags_of hM⟩, handle h⟩
/-- The cells of a datum of numbers and texts. -/
def flat : Nat → DataW Unit → List Value
  | 0, _ => []
  | _ + 1, .lit (.int k n) => [.int k n]
  | _ + 1, .lit (.string l) => [.string ⟨l.toArray⟩]
  | f + 1, .agg l => l.flatMap (flat f)
  | _ + 1, _ => []
def layAt (w : World) (g : Nat) (cs : List Value) : World :=
  { w with heap := w.heap.modify g fun
      | .cells _ t frozen => .cells cs.toArray t frozen
      | o => o }
/-- A world with the variables' cells laid. -/
def lay (w : World) : World :=
  layAt (layAt w 0 (flat 3 Rows.laid_sluicebook_query_aggs)) 1 [.iface 107 (.agg #[.pointer (some ⟨2, 34, none⟩)])]
end agEnv
end Go.Proofs.YtckonjacccfmmaaDoor
namespace Go.Proofs.YtckonjacccfmmaaDoor
open Go.RowKit
set_option linter.unusedVariables false

def sumX : ByteArray := ⟨#[115, 117, 109]⟩
def psF : List Pt := nwP [sumX] [1]
theorem psF_ok : nwE [sumX] [1] = 0 := by decide
theorem psF_row (n : Int) : adE psF [(1, n, ⟨#[]⟩)] = 0 := by
  unfold adE
  rw [if_neg (fun h => h (show [((1 : Int), n, (⟨#[]⟩ : ByteArray))].length = psF.length from rfl))]
  show fstE [ckPt _ _] = 0
  have : ckPt (npP sumX 1) (1, n, ⟨#[]⟩) = 0 := by
    unfold ckPt
    rw [if_neg (by decide)]
    have hc : chk 1 n [] = 0 := by simp [chk]
    rw [if_neg (by intro h; exact h hc), if_neg (fun h => h (show (1 : Int) = (npP sumX 1).kind by decide))]
  rw [fstE, if_neg (by rw [this]; decide)]
  rfl
theorem psF_sum {rs : List (List V3)} {ps : List Pt} (h : Acu psF rs ps) : ∃ p, ps = [p] ∧ p.wh = wSum ∧ sv p.ws = ((colV 0 rs).map (·.2.1)).sum := by
  have hl : ps.length = 1 := h.al.1
  obtain ⟨p, rfl⟩ := List.length_eq_one_iff.1 hl
  have hw := (h.al.2 0 (by simp) (by decide)).1
  have hwh : p.wh = wSum := by
    unfold Pt.wh
    have e : p.what = sumX := hw
    rw [e]; rfl
  exact ⟨p, rfl, hwh, (h.kn 0 (by simp)).sum hwh⟩
theorem fact_over {ps : List Pt} (h : Acu psF [[(1, 9223372036854775807, ⟨#[]⟩)], [(1, 5, ⟨#[]⟩)]] ps) : reE ps 2 = 9 := by
  obtain ⟨p, rfl, hw, hs⟩ := psF_sum h
  have hs2 : sv p.ws = 9223372036854775812 := by rw [hs]; decide
  unfold reE
  show fstE [(resP p 2).2] = 9
  rw [resP_s hw, hs2]
  decide
theorem fact_ok {ps : List Pt} (h : Acu psF [[(1, 9223372036854775807, ⟨#[]⟩)], [(1, 5, ⟨#[]⟩)], [(1, -7, ⟨#[]⟩)]] ps) : reE ps 3 = 0 ∧ reV ps 3 = [(1, 9223372036854775805, ⟨#[]⟩)] := by
  obtain ⟨p, rfl, hw, hs⟩ := psF_sum h
  have hs2 : sv p.ws = 9223372036854775805 := by rw [hs]; decide
  unfold reE reV
  show fstE [(resP p 3).2] = 0 ∧ [(resP p 3).1] = _
  rw [resP_s hw, hs2]
  exact ⟨by decide, by rw [if_pos (by decide)]⟩
/-- A row of one value that is made here. -/
theorem add_lit (a : Nat) (v : Value) (rs : List (List V3)) (n : Int) (W : World) (h : AcAt W a v psF rs) (hl : rs.length + 1 ≤ 10000) (hn : inB n) :
    Calls Tryd.prog 9 #[.pointer (some ⟨a, 0, none⟩), .slice (some ⟨W.heap.size, 0, none⟩) 1 1] (W.alloc (.cells #[.int .i64 1, .int .i64 n, .string ⟨#[]⟩] 26)) fun e w' => e = .returned .nilIface ∧ Aside (AcAt w' a v psF (rs ++ [[(1, n, ⟨#[]⟩)]])) ∧ Aside (Kp (accS a v) W w') := by
  have hb := alB W (.cells #[.int .i64 1, .int .i64 n, .string ⟨#[]⟩] 26)
  have P := blk_alloc W #[.int .i64 1, .int .i64 n, .string ⟨#[]⟩] 26
  have := add_c a v psF rs (some ⟨W.heap.size, 0, none⟩) 1 [(1, n, ⟨#[]⟩)] _ (h.on hb) hl (.inr ⟨W.heap.size, 0, rfl, P.lt, fun j hj => by
    have hj0 : j = 0 := by simp at hj; omega
    subst hj0
    exact ⟨P.cell 0, P.cell 1, P.cell 2⟩⟩) (fun r hr => by
      have : r = (1, n, ⟨#[]⟩) := by simpa using hr
      subst this
      exact ⟨Nat.zero_le _, hn⟩) (show (1 : Nat) ≤ maxLen by decide) (.inr fun b o e hs => by
        injection e with e
        injection e with e
        subst e
        have := h.lt _ hs
        omega)
  refine this.mono fun e w' hh => ⟨by rw [hh.1, psF_row]; rfl, ?_, (Kp.of_below hb).trans hh.2.2⟩
  have hA := hh.2.1
  unfold gdR at hA
  rw [if_pos (psF_row n)] at hA
  exact hA
theorem over_c (a : Nat) (v : Value) (W : World) (h : AcAt W a v psF [[(1, 9223372036854775807, ⟨#[]⟩)], [(1, 5, ⟨#[]⟩)]]) :
    Calls Tryd.prog 12 #[.pointer (some ⟨a, 0, none⟩)] W fun e w' => e = .returned (.tuple #[.slice none 0 0, .iface 53 (.int .i64 9)]) ∧ Aside (Below W.heap.size W w') := by
  obtain ⟨ps, hu, h | h⟩ := result_c a v psF _ W h
  · have := fact_over hu
    exact absurd h.1 (by show reE ps 2 ≠ 0; rw [this]; decide)
  · refine h.2.mono fun e w' hh => ⟨?_, hh.2⟩
    rw [hh.1]
    show Ending.returned (.tuple #[.slice none 0 0, .iface 53 (.int .i64 (reE ps 2))]) = _
    rw [fact_over hu]
theorem fact_c (a : Nat) (v : Value) (W : World) (h : AcAt W a v psF [[(1, 9223372036854775807, ⟨#[]⟩)], [(1, 5, ⟨#[]⟩)], [(1, -7, ⟨#[]⟩)]]) :
    Calls Tryd.prog 12 #[.pointer (some ⟨a, 0, none⟩)] W fun e w' => (∃ b o c, e = .returned (.tuple #[.slice (some ⟨b, o, none⟩) 1 c, .nilIface]) ∧ b < w'.heap.size ∧ w'.cell? ⟨b, o + 1, none⟩ = some (.int .i64 9223372036854775805)) ∧ Aside (Below W.heap.size W w') := by
  obtain ⟨ps, hu, h | h⟩ := result_c a v psF _ W h
  · obtain ⟨f1, f2⟩ := fact_ok hu
    refine h.2.mono fun e w' hh => ?_
    obtain ⟨⟨q, c, e1, e2⟩, e3⟩ := hh
    have e2' : ValsAt w' q (reV ps 3) := e2
    have e1' : e = .returned (.tuple #[.slice q (reV ps 3).length c, .nilIface]) := e1
    rw [f2] at e2' e1'
    obtain ⟨b, o, rfl, hb, hc⟩ := e2'.resolve_left (by decide)
    have := (hc 0 (by decide)).2.1
    exact ⟨⟨b, o, c, e1', hb, by simpa using this⟩, e3⟩
  · exact absurd (fact_ok hu).1 h.1
theorem ags_lit (w : World) (x : ByteArray) (o1 : Obj) : AgsW ((w.alloc (.cells #[.string x, .string ⟨#[]⟩, .string ⟨#[]⟩, .int .i64 0, .int .i64 0, .string ⟨#[]⟩, .slice none 0 0, .int .i64 0, .string ⟨#[]⟩] 31)).alloc o1) (some ⟨w.heap.size, 0, none⟩) [x] := by
  have P := (blk_alloc w #[.string x, .string ⟨#[]⟩, .string ⟨#[]⟩, .int .i64 0, .int .i64 0, .string ⟨#[]⟩, .slice none 0 0, .int .i64 0, .string ⟨#[]⟩] 31).on (alB _ o1)
  refine .inr ⟨w.heap.size, 0, rfl, P.lt, fun j hj => ⟨⟨#[]⟩, ⟨#[]⟩, 0, 0, ⟨#[]⟩, none, 0, 0, 0, ⟨#[]⟩, fun k v hv => ?_⟩⟩
  have hj0 : j = 0 := by simp at hj; omega
  subst hj0
  rw [show 0 + 0 * 9 + k = k by omega, P.cell]
  simpa using hv
theorem ints_lit (w : World) (t : Int) : IntW (w.alloc (.cells #[.int .i64 t] 3)) (some ⟨w.heap.size, 0, none⟩) [t] := by
  have P := blk_alloc w #[.int .i64 t] 3
  refine .inr ⟨w.heap.size, 0, rfl, P.lt, fun j hj => ?_⟩
  have hj0 : j = 0 := by simp at hj; omega
  subst hj0
  exact P.cell 0
/-- What AggAny begins with. -/
structure AnyE (w : World) (ap : Option Addr) (xs : List ByteArray) (tp : Option Addr) (ts : List Int) (rp : Option Addr) (rws : List (List V3)) : Prop where
  env : AEnv w
  et : EtAt w
  ags : AgsW w ap xs
  tys : IntW w tp ts
  rows : RowsAt w rp rws
  xl : xs.length ≤ maxLen
  tl : ts.length ≤ maxLen
  rl : rws.length ≤ maxLen
  sz : ∀ r ∈ rws, SizedV r ∧ r.length ≤ maxLen
theorem RowsAt.on {w w' : World} {p : Option Addr} {rws : List (List V3)} (h : RowsAt w p rws) (hb : Below w.heap.size w w') : RowsAt w' p rws := by
  have hs := hb.size
  rcases h with h | ⟨b, off, e, hl, h⟩
  · exact .inl h
  · refine .inr ⟨b, off, e, by omega, fun j hj => ?_⟩
    obtain ⟨q, c, h1, h2, h3⟩ := h j hj
    exact ⟨q, c, by rw [hb.cell (p := ⟨b, _, none⟩) hl]; exact h1, h2.on hb, h3.imp id (fun h3 g o e => by have := h3 g o e; omega)⟩
theorem AnyE.on {w w' : World} {ap tp rp : Option Addr} {xs : List ByteArray} {ts : List Int} {rws : List (List V3)} (h : AnyE w ap xs tp ts rp rws) (hb : Below w.heap.size w w') : AnyE w' ap xs tp ts rp rws :=
  ⟨h.env.on hb, h.et.on hb, h.ags.on hb, h.tys.on hb, h.rows.on hb, h.xl, h.tl, h.rl, h.sz⟩
theorem new_lit (w W : World) (h : AEnv W) (hb : Below w.heap.size w W) :
    Calls Tryd.prog 6 #[.slice (some ⟨W.heap.size, 0, none⟩) 1 1, .slice (some ⟨W.heap.size + 1, 0, none⟩) 1 1] ((W.alloc (.cells #[.string ⟨#[115, 117, 109]⟩, .string ⟨#[]⟩, .string ⟨#[]⟩, .int .i64 0, .int .i64 0, .string ⟨#[]⟩, .slice none 0 0, .int .i64 0, .string ⟨#[]⟩] 31)).alloc (.cells #[.int .i64 1] 3)) fun e w' => (∃ a v, e = .returned (.tuple #[.pointer (some ⟨a, 0, none⟩), .nilIface]) ∧ Aside (AcAt w' a v psF []) ∧ Aside (∀ k, accS a v k → w.heap.size ≤ k)) ∧ Aside (Below w.heap.size w w') := by
  have b2 := al2 W (.cells #[.string ⟨#[115, 117, 109]⟩, .string ⟨#[]⟩, .string ⟨#[]⟩, .int .i64 0, .int .i64 0, .string ⟨#[]⟩, .slice none 0 0, .int .i64 0, .string ⟨#[]⟩] 31) (.cells #[.int .i64 1] 3)
  have hs := hb.size
  have hi : IntW ((W.alloc (.cells #[.string ⟨#[115, 117, 109]⟩, .string ⟨#[]⟩, .string ⟨#[]⟩, .int .i64 0, .int .i64 0, .string ⟨#[]⟩, .slice none 0 0, .int .i64 0, .string ⟨#[]⟩] 31)).alloc (.cells #[.int .i64 1] 3)) (some ⟨W.heap.size + 1, 0, none⟩) [1] := by
    have := ints_lit (W.alloc (.cells #[.string ⟨#[115, 117, 109]⟩, .string ⟨#[]⟩, .string ⟨#[]⟩, .int .i64 0, .int .i64 0, .string ⟨#[]⟩, .slice none 0 0, .int .i64 0, .string ⟨#[]⟩] 31)) 1
    simpa using this
  refine (new_c (some ⟨W.heap.size, 0, none⟩) 1 [sumX] (some ⟨W.heap.size + 1, 0, none⟩) 1 [1] _ (h.on b2) (ags_lit W sumX _) hi (show (1 : Nat) ≤ maxLen by decide) (show (1 : Nat) ≤ maxLen by decide) psF_ok).mono fun e w' hh => ?_
  obtain ⟨a, v, e1, e2, e3, e4⟩ := hh
  have b2s := b2.size
  exact ⟨⟨a, v, e1, e2, fun k hk => by have := e3 k hk; omega⟩, hb.trans ((b2.trans (e4.mono b2s)).mono hs)⟩
end Go.Proofs.YtckonjacccfmmaaDoor
namespace Go.Proofs.YtckonjacccfmmaaDoor
open Go.RowKit
set_option linter.unusedVariables false

/-- The rows that are right. -/
def gdL (ps0 : List Pt) (l : List (List V3)) : List (List V3) := l.filter fun r => decide (adE ps0 r = 0)
theorem gdL_snoc (ps0 : List Pt) (l : List (List V3)) (r : List V3) : gdL ps0 (l ++ [r]) = gdR ps0 (gdL ps0 l) r := by
  unfold gdL gdR
  rw [List.filter_append]
  by_cases h : adE ps0 r = 0
  · rw [if_pos h]; simp [h]
  · rw [if_neg h]; simp [h]
theorem gdL_len (ps0 : List Pt) (l : List (List V3)) : (gdL ps0 l).length ≤ l.length := List.length_filter_le _ _
/-- Which rows each knows. -/
structure AnyR (ps0 : List Pt) (rr : List (List V3)) (cn kk : Nat) (R : Nat → List (List V3)) : Prop where
  r0 : R 0 = gdL ps0 (rr.take kk)
  r1 : R 1 = gdL ps0 (rr.reverse.take kk)
  r2 : R 2 = gdL ps0 ((rr.take kk).take cn)
  r3 : R 3 = gdL ps0 ((rr.take kk).drop cn)
theorem AnyR.zero (ps0 : List Pt) (rr : List (List V3)) (cn : Nat) : AnyR ps0 rr cn 0 (fun _ => []) := ⟨by simp [gdL], by simp [gdL], by simp [gdL], by simp [gdL]⟩
theorem take_more {rr : List (List V3)} {kk : Nat} (h : kk < rr.length) : rr.take (kk + 1) = rr.take kk ++ [rr[kk]] := List.take_succ_eq_append_getElem h
theorem rev_more {rr : List (List V3)} {kk j : Nat} (h : kk < rr.length) (hj : j < rr.length) (e : rr.length - 1 - kk = j) : rr.reverse.take (kk + 1) = rr.reverse.take kk ++ [rr[j]] := by
  rw [List.take_succ_eq_append_getElem (by simpa using h), List.getElem_reverse]
  subst e
  rfl
theorem AnyR.step2 {ps0 : List Pt} {rr : List (List V3)} {cn kk j : Nat} {R : Nat → List (List V3)} (h : AnyR ps0 rr cn kk R) (hk : kk < rr.length) (hj : j < rr.length) (e : rr.length - 1 - kk = j) (hc : kk < cn) :
    AnyR ps0 rr cn (kk + 1) (updR (updR (updR R 0 (gdR ps0 (R 0) rr[kk])) 1 (gdR ps0 (R 1) rr[j])) 2 (gdR ps0 (R 2) rr[kk])) := by
  have hl : (rr.take kk).length = kk := by rw [List.length_take]; omega
  refine ⟨?_, ?_, ?_, ?_⟩
  · show gdR ps0 (R 0) rr[kk] = _
    rw [h.r0, take_more hk, gdL_snoc]
  · show gdR ps0 (R 1) rr[j] = _
    rw [h.r1, rev_more hk hj e, gdL_snoc]
  · show gdR ps0 (R 2) rr[kk] = _
    have e2 : (rr.take kk ++ [rr[kk]]).take cn = rr.take kk ++ [rr[kk]] := List.take_of_length_le (by rw [List.length_append, hl, List.length_singleton]; omega)
    have e3 : (rr.take kk).take cn = rr.take kk := List.take_of_length_le (by omega)
    rw [h.r2, take_more hk, e2, e3, gdL_snoc]
  · show R 3 = _
    rw [h.r3, take_more hk, List.drop_eq_nil_of_le (by omega), List.drop_eq_nil_of_le (by simp; omega)]
theorem AnyR.step3 {ps0 : List Pt} {rr : List (List V3)} {cn kk j : Nat} {R : Nat → List (List V3)} (h : AnyR ps0 rr cn kk R) (hk : kk < rr.length) (hj : j < rr.length) (e : rr.length - 1 - kk = j) (hc : ¬ kk < cn) :
    AnyR ps0 rr cn (kk + 1) (updR (updR (updR R 0 (gdR ps0 (R 0) rr[kk])) 1 (gdR ps0 (R 1) rr[j])) 3 (gdR ps0 (R 3) rr[kk])) := by
  have hl : (rr.take kk).length = kk := by rw [List.length_take]; omega
  refine ⟨?_, ?_, ?_, ?_⟩
  · show gdR ps0 (R 0) rr[kk] = _
    rw [h.r0, take_more hk, gdL_snoc]
  · show gdR ps0 (R 1) rr[j] = _
    rw [h.r1, rev_more hk hj e, gdL_snoc]
  · show R 2 = _
    rw [h.r2, take_more hk, List.take_append_of_le_length (by omega)]
  · show gdR ps0 (R 3) rr[kk] = _
    rw [h.r3, take_more hk, ← gdL_snoc, List.drop_append_of_le_length (by omega)]
theorem AnyR.len {ps0 : List Pt} {rr : List (List V3)} {cn kk : Nat} {R : Nat → List (List V3)} (h : AnyR ps0 rr cn kk R) (hr : rr.length ≤ 60) : (R 0).length ≤ 60 ∧ (R 1).length ≤ 60 ∧ (R 2).length ≤ 60 ∧ (R 3).length ≤ 60 := by
  have l0 := gdL_len ps0 (rr.take kk)
  have l1 := gdL_len ps0 (rr.reverse.take kk)
  have l2 := gdL_len ps0 ((rr.take kk).take cn)
  have l3 := gdL_len ps0 ((rr.take kk).drop cn)
  rw [h.r0, h.r1, h.r2, h.r3]
  simp at l0 l1 l2 l3
  omega
theorem AnyR.end {ps0 : List Pt} {rr : List (List V3)} {cn kk : Nat} {R : Nat → List (List V3)} (h : AnyR ps0 rr cn kk R) (hk : kk = rr.length) : (R 1).Perm (R 0) ∧ (R 3 ++ R 2).Perm (R 0) ∧ (R 0).length = (R 2).length + (R 3).length := by
  have e0 : R 0 = gdL ps0 rr := by rw [h.r0, hk, List.take_length]
  have e1 : R 1 = gdL ps0 rr.reverse := by rw [h.r1, hk, List.take_of_length_le (by simp)]
  have e2 : R 2 = gdL ps0 (rr.take cn) := by rw [h.r2, hk, List.take_length]
  have e3 : R 3 = gdL ps0 (rr.drop cn) := by rw [h.r3, hk, List.take_length]
  have ep : R 2 ++ R 3 = R 0 := by
    rw [e0, e2, e3]
    unfold gdL
    rw [← List.filter_append, List.take_append_drop]
  refine ⟨?_, ?_, ?_⟩
  · rw [e0, e1]
    unfold gdL
    exact (List.reverse_perm rr).filter _
  · rw [← ep]
    exact List.perm_append_comm
  · rw [← ep]; simp
/-- What is told by one that knows the same rows as another one. -/
theorem result_p (a : Nat) (v : Value) (ps0 : List Pt) (rs us : List (List V3)) (qs : List Pt) (W : World) (h : AcAt W a v ps0 rs) (hu : Acu ps0 us qs) (hp : rs.Perm us) (L : List V3) (hL : reV qs (us.length : Int) = L) (E : Int) (hE : reE qs (us.length : Int) = E) :
    (E = 0 → Calls Tryd.prog 12 #[.pointer (some ⟨a, 0, none⟩)] W fun e w' => (∃ q c, e = .returned (.tuple #[.slice q L.length c, .nilIface]) ∧ Aside (ValsAt w' q L)) ∧ Aside (Below W.heap.size W w')) ∧
    (E ≠ 0 → Calls Tryd.prog 12 #[.pointer (some ⟨a, 0, none⟩)] W fun e w' => e = .returned (.tuple #[.slice none 0 0, .iface 53 (.int .i64 E)]) ∧ Aside (Below W.heap.size W w')) := by
  obtain ⟨ps, hu2, hc⟩ := result_c a v ps0 rs W h
  obtain ⟨s1, s2⟩ := tell_same hu2 hu hp
  rw [hE] at s1
  rw [hL] at s2
  rw [s1, s2] at hc
  refine ⟨fun h0 => ?_, fun h0 => ?_⟩
  · rcases hc with hc | hc
    · exact hc.2
    · exact absurd h0 hc.1
  · rcases hc with hc | hc
    · exact absurd hc.1 h0
    · exact hc.2
/-- A row of those that were handed in is Added to one of the Accs. -/
theorem accs_row {n : Nat} {w W : World} {ps0 : List Pt} {A : Nat → Nat} {V : Nat → Value} {R : Nat → List (List V3)} (h : Accs n w W ps0 A V R) {rb ro : Nat} {rws : List (List V3)} (hr : RowsAt w (some ⟨rb, ro, none⟩) rws) (hs : ∀ r ∈ rws, SizedV r ∧ r.length ≤ maxLen) (j : Nat) (hj : j < rws.length) (i : Nat) (hi : i < n) (hl : (R i).length + 1 ≤ 10000) : ∃ q M c, W.cell? ⟨rb, ro + j, none⟩ = some (.slice q M c) ∧
    Calls Tryd.prog 9 #[.pointer (some ⟨A i, 0, none⟩), .slice q M c] W fun e w' => (∃ v, e = .returned v) ∧ Aside (Accs n w w' ps0 A V (updR R i (gdR ps0 (R i) rws[j]))) := by
  obtain ⟨rb', ro', q, c, e, w2, v2⟩ := h.rows hr hj
  injection e with e
  injection e with e1 e2
  subst e1 e2
  have s1 := hs _ (List.getElem_mem hj)
  exact ⟨q, _, c, w2, (accs_add h i hi q c _ hl (v2 i hi).1 s1.1 s1.2 (v2 i hi).2).mono fun e w' hh => ⟨⟨_, hh.1⟩, hh.2⟩⟩
theorem rows_at {w : World} {p : Option Addr} {rws : List (List V3)} (h : RowsAt w p rws) (h0 : 0 < rws.length) : ∃ rb ro, p = some ⟨rb, ro, none⟩ := by
  rcases h with h | ⟨b, o, e, _⟩
  · omega
  · exact ⟨b, o, e⟩
/-- A round of the loop. -/
theorem any_more {ps0 : List Pt} {rws : List (List V3)} {nat cn kk j : Nat} {R : Nat → List (List V3)} (h : AnyR ps0 (rws.take nat) cn kk R) (hn : nat ≤ rws.length) (hk : kk < nat) (hj : nat - 1 - kk = j) (h1 : kk < rws.length) (h2 : j < rws.length) :
    (kk < cn → AnyR ps0 (rws.take nat) cn (kk + 1) (updR (updR (updR R 0 (gdR ps0 (R 0) rws[kk])) 1 (gdR ps0 (updR R 0 (gdR ps0 (R 0) rws[kk]) 1) rws[j])) 2 (gdR ps0 (updR (updR R 0 (gdR ps0 (R 0) rws[kk])) 1 (gdR ps0 (updR R 0 (gdR ps0 (R 0) rws[kk]) 1) rws[j]) 2) rws[kk]))) ∧
    (¬ kk < cn → AnyR ps0 (rws.take nat) cn (kk + 1) (updR (updR (updR R 0 (gdR ps0 (R 0) rws[kk])) 1 (gdR ps0 (updR R 0 (gdR ps0 (R 0) rws[kk]) 1) rws[j])) 3 (gdR ps0 (updR (updR R 0 (gdR ps0 (R 0) rws[kk])) 1 (gdR ps0 (updR R 0 (gdR ps0 (R 0) rws[kk]) 1) rws[j]) 3) rws[kk]))) := by
  have hl : (rws.take nat).length = nat := by rw [List.length_take]; omega
  have k1 : kk < (rws.take nat).length := by omega
  have k2 : j < (rws.take nat).length := by omega
  have g1 : (rws.take nat)[kk] = rws[kk] := List.getElem_take
  have g2 : (rws.take nat)[j] = rws[j] := List.getElem_take
  refine ⟨fun hc => ?_, fun hc => ?_⟩
  · have := h.step2 k1 k2 (by rw [hl]; exact hj) hc
    rw [g1, g2] at this
    exact this
  · have := h.step3 k1 k2 (by rw [hl]; exact hj) hc
    rw [g1, g2] at this
    exact this
end Go.Proofs.YtckonjacccfmmaaDoor
