/-
  A package-level variable that holds an array of plain data (numbers, texts, structs and arrays of them): its cells, read off the datum that the row lists.
-/
import Derived.OpenShut
import Derived.ChangeSame
import Derived.MakeChecks
import Derived.RowKit
namespace Go.Proofs.YtnpinbpjfngknaaGreatDoor
open Go.RowKit

/-- The cell at a place of a datum of numbers and texts. -/
def cellAt (P : Program) : Nat → TypeId → DataW Unit → Nat → Option Value
  | 0, _, _, _ => none
  | f + 1, t, d, i =>
    match P.underlying t, d with
    | some (.int k), .lit (.int _ n) => if i = 0 then some (.int k n) else none
    | some .string, .lit (.string l) => if i = 0 then some (.string ⟨l.toArray⟩) else none
    | some (.array n e), .agg l => if i / P.cellsOf e < n ∧ i % P.cellsOf e < P.cellsOf e then (l[i / P.cellsOf e]?).bind fun d' => cellAt P f e d' (i % P.cellsOf e) else none
    | some (.struct fs), .agg l =>
      (fs[(fs.toList.findIdx fun g => decide (i < g.offset + P.cellsOf g.type))]?).bind fun g =>
        if g.offset ≤ i ∧ i < g.offset + P.cellsOf g.type then (l[(fs.toList.findIdx fun g => decide (i < g.offset + P.cellsOf g.type))]?).bind fun d' => cellAt P f g.type d' (i - g.offset) else none
    | _, _ => none
theorem chunk_at {cs : List Value} {o k i : Nat} {v : Value} (hk : i < k) (h : ((cs.drop o).take k)[i]? = some v) : cs[o + i]? = some v := by
  rw [List.getElem?_take, if_pos hk, List.getElem?_drop] at h
  exact h
theorem cellAt_trod {P : Program} {W : World} {enc : TypeId × Value → Unit} {base : Nat} {spare : Nat → Bool} {held : Bool} : ∀ (f : Nat) (t : TypeId) (d : DataW Unit) (i : Nat) (v : Value) (fuel : Nat) (cs : List Value) (ps : List MemPlace),
    DataW.trod enc P W base spare held fuel t cs = some (d, ps) → cellAt P f t d i = some v → cs[i]? = some v
  | 0, _, _, _, _, _, _, _, _, h => by simp [cellAt] at h
  | f + 1, t, d, i, v, fuel, cs, ps, ht, h => by
    unfold cellAt at h
    split at h
    · rename_i k _ n hu
      split at h
      · rename_i hi
        subst hi
        cases fuel with
        | zero => simp [DataW.trod] at ht
        | succ m =>
          unfold DataW.trod at ht
          rw [hu] at ht
          split at ht <;> simp_all
      · simp at h
    · rename_i l hu
      split at h
      · rename_i hi
        subst hi
        obtain ⟨s, rfl, hx, _⟩ := DataW.trod_string hu ht
        simp at hx h ⊢
        rw [← h, hx.1]
      · simp at h
    · rename_i n e l hu
      split at h
      · rename_i hi
        obtain ⟨xs, m, _, hx, _, hl, hel⟩ := DataW.trod_array hu ht
        simp only [Prod.mk.injEq, DataW.agg.injEq] at hx
        obtain ⟨rfl, rfl⟩ := hx
        rw [Option.bind_eq_some_iff] at h
        obtain ⟨d', hd, h⟩ := h
        have hlt : i / P.cellsOf e < xs.length := by omega
        rw [List.getElem?_map, List.getElem?_eq_getElem hlt] at hd
        have h2 := hel _ hi.1
        rw [List.getElem?_eq_getElem hlt] at h2
        simp only [Option.map_some, Option.some.injEq] at hd
        subst hd
        have h3 := cellAt_trod f e _ _ v _ _ _ h2 h
        have h4 := chunk_at hi.2 h3
        rwa [Nat.mul_comm, Nat.div_add_mod] at h4
      · simp at h
    · rename_i fs l hu
      rw [Option.bind_eq_some_iff] at h
      obtain ⟨g, hg, h⟩ := h
      split at h
      · rename_i hi
        obtain ⟨xs, m, _, hx, _, hl, hel⟩ := DataW.trod_struct hu ht
        simp only [Prod.mk.injEq, DataW.agg.injEq] at hx
        obtain ⟨rfl, rfl⟩ := hx
        rw [Option.bind_eq_some_iff] at h
        obtain ⟨d', hd, h⟩ := h
        have h2 := hel _ g hg
        rw [List.getElem?_map, Option.map_eq_some_iff] at hd
        obtain ⟨y, hy, rfl⟩ := hd
        rw [hy] at h2
        have h3 := cellAt_trod f g.type _ _ v _ _ _ h2 h
        have h4 := chunk_at (by omega) h3
        rwa [show g.offset + (i - g.offset) = i by omega] at h4
      · simp at h
    · simp at h
theorem var_row {P : Program} {W : World} {n : String} {cs : Array Value} {g : Nat} (h : W.var? P n = some cs) (hg : P.globalNamed n = some g) : ∃ t fr, W.heap[g]? = some (.cells cs t fr) := by
  unfold World.var? at h
  simp only [hg, Option.bind_some] at h
  split at h
  · rename_i c t fr he
    obtain rfl := Option.some.inj h
    exact ⟨t, fr, he⟩
  · simp at h
theorem var_of {P : Program} {W : World} {nm : String} {d : DataW Unit} {rest : List (String × DataW Unit)} {g : Nat} {t e : TypeId} {n : Nat} (C : Array Value)
    (h : laidMet P ((nm, d) :: rest) W) (hg : P.globalNamed nm = some g) (ht : (P.globals[g]?).map (·.type) = some t) (hu : P.underlying t = some (.array n e)) (hc : P.cellsOf t = C.size)
    (hC : (List.range C.size).map (cellAt P 8 t d) = C.toList.map some) : ∃ tt fr, W.heap[g]? = some (.cells C tt fr) := by
  obtain ⟨ps, ⟨g', t', cs, fuel, p, q, hg', ht', hvar, hd, _, _⟩, _⟩ := h
  obtain rfl := Option.some.inj (hg.symm.trans hg')
  obtain rfl := Option.some.inj (ht.symm.trans ht')
  obtain ⟨_, _, _, _, hl, _, _⟩ := DataW.trod_array hu hd
  have hcs : cs = C := by
    apply Array.ext'
    apply List.ext_getElem?
    intro i
    by_cases hi : i < C.size
    · have h1 : ((List.range C.size).map (cellAt P 8 t d))[i]? = (C.toList.map some)[i]? := by rw [hC]
      rw [List.getElem?_map, List.getElem?_range hi, List.getElem?_map, Array.getElem?_toList, Array.getElem?_eq_getElem hi] at h1
      simp only [Option.map_some, Option.some.injEq] at h1
      rw [cellAt_trod 8 t d i _ _ _ _ hd h1, Array.getElem?_toList, Array.getElem?_eq_getElem hi]
    · rw [List.getElem?_eq_none (by omega), List.getElem?_eq_none (by simpa using hi)]
  subst hcs
  exact var_row hvar hg
end Go.Proofs.YtnpinbpjfngknaaGreatDoor
