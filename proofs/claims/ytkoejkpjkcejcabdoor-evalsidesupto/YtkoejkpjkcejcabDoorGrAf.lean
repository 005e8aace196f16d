/-
  EnvT, CdTl, VarOf, in one text.
-/
import Derived.Test.YtkoejkpjkcejcabDoorGrAb
import Derived.Test.YtkoejkpjkcejcabDoorQAs
import Derived.Test.YtkoejkpjkcejcabDoorGrAd
import Derived.Test.YtkoejkpjkcejcabDoorGrAe
import Derived.OpenShut
import Derived.ChangeSame
import Derived.MakeChecks
import Derived.RowKit
namespace Go.Proofs.YtkoejkpjkcejcabDoor
open Go.RowKit
set_option linter.unusedVariables false

/-- What is read of the library's variables: its tables and errors, and the handle of the type error. -/
structure EnvT (w : World) : Prop where
  env : Env w
  et : w.cell? ⟨1, 0, none⟩ = some (.iface 168 (.agg #[.pointer (some ⟨11, 32, none⟩)]))
theorem cell_lt {w : World} {b o : Nat} {v : Value} (h : w.cell? ⟨b, o, none⟩ = some v) : b < w.heap.size := by
  rcases Nat.lt_or_ge b w.heap.size with h' | h'
  · exact h'
  · simp [World.cell?, Array.getElem?_eq_none h'] at h
theorem EnvT.on {w w' : World} (h : EnvT w) (hb : Below w.heap.size w w') : EnvT w' :=
  ⟨h.env.on hb, by rw [hb.cell (p := ⟨1, 0, none⟩) (cell_lt h.et)]; exact h.et⟩
theorem EnvT.alloc {w : World} (h : EnvT w) (o : Obj) : EnvT (w.alloc o) := h.on ((Below.refl _ _).alloc (Nat.le_refl _) o)
theorem same_any (k : Int) (w : World) (h : EnvT w) :
    Calls Tryd.prog 17 #[errV k, .int .i64 k] w fun e w' => e = .returned (.bool true) ∧ Below w.heap.size w w' := by
  by_cases hk : k = 0
  · subst hk
    exact (same_nil 0 w).mono fun e w' hh => ⟨by rw [hh.1]; rfl, by rw [hh.2]; exact Below.refl _ _⟩
  · rw [errV, if_neg hk]
    exact (same_err k k w h.et).mono fun e w' hh => ⟨by rw [hh.1]; simp, hh.2⟩
end Go.Proofs.YtkoejkpjkcejcabDoor
namespace Go.Proofs.YtkoejkpjkcejcabDoor
open Go.RowKit
set_option linter.unusedVariables false

theorem cat3 (a x : ByteArray) (l m : List UInt8) (h1 : a.data.toList = l) (h2 : x.data.toList = m) : (a ++ x ++ ⟨#[10]⟩).data.toList = l ++ m ++ [10] := by
  simp [h1, h2]
set_option maxHeartbeats 4000000 in
set_option maxRecDepth 20000 in
theorem tells_code (p : Option Addr) (c N : Nat) (is : List I5) (n : Int) (w : World) (hN : is.length = N) (hNm : N ≤ maxLen) (hc : InsAt w p is) (hz : ∀ i ∈ is, okI i) (henv : EnvT w) (hr : REnv w) :
    Calls Tryd.prog 5 #[.slice p N c, .int .i64 n] w fun e w' => e = .returned (.bool true) ∧ Below w.heap.size w w' := by
  have HZ : Hid (∀ i ∈ is, okI i) := hz
  have HN : Hid (is.length = N) := hN
  unfold maxLen at hNm
  clear hz hN
  have hop := opN_len n
  have cR := fun W => refOp_any n W
  have cC := fun W hW => codeOp_any n W hW
  have HE : Hid (opE n = 0 ∨ opE n = 1) := by
    show _ ∨ _
    unfold opE
    split
    · exact .inl rfl
    · exact .inr rfl
  generalize opN n = O at *
  generalize opE n = E at *
  generalize (⟨O.toArray⟩ : ByteArray) = Q at *
  have hqo : (Q.toList == Q.toList) = true := by simp
  go_enter Tryd.func5, Tryd.ntmps5
  go_wp2
  go_loopg [5, 6, 7] N (fun gg s5 s6 _ wr => ∃ (kk : Nat) (acc : ByteArray), kk ≤ N ∧ kk ≤ 60 ∧ N - kk ≤ gg ∧ s6 = .int .i64 kk ∧ s5 = .string acc ∧ Aside (Below w.heap.size w wr) ∧ Hid (acc.data.toList = textP (is.take kk)) ∧ acc.size ≤ kk * 101)
  case atStart => exact ⟨0, ⟨#[]⟩, Nat.zero_le _, Nat.zero_le _, by omega, rfl, rfl, (show Aside _ from Below.refl _ _), rfl, by decide⟩
  case round =>
    obtain ⟨kk, acc, hkk, hk60, hg, rfl, rfl, BW, HA, hlen⟩ := hrel
    by_cases hlt : kk < N ∧ kk < 60
    · obtain ⟨hlt, hlt6⟩ := hlt
      have hltz : (kk : Int) < (N : Int) := by omega
      have hltz6 : (kk : Int) < 60 := by omega
      have k0 : (0 : Int) ≤ (kk : Int) := by omega
      have hk2 : kk < is.length := by rw [HN.out]; exact hlt
      have HS : Hid (textP (is.take (kk + 1)) = textP (is.take kk) ++ lineP is[kk] ++ [10]) := text_step hk2
      have hyo := HZ.out _ (List.getElem_mem hk2)
      rcases hc.on BW.out with h | ⟨b1, o1, rfl, hbl, h⟩
      · omega
      obtain ⟨c0, c1, c2, c3, c4⟩ := h kk hk2
      clear h
      generalize is[kk] = y at c0 c1 c2 c3 c4 HS hyo
      obtain ⟨ya, yg, yt, yn, ys⟩ := y
      simp only at c0 c1 c2 c3 c4
      have hll := lineP_len hyo
      have cL := refWord_any (ya, yg, yt, yn, ys) wr hyo
      have HS2 : Hid (textP (is.take (kk + 1)) = acc.data.toList ++ lineP (ya, yg, yt, yn, ys) ++ [10]) := by
        show _ = _
        rw [HS.out, HA.out]
      clear HS HA hyo
      generalize lineP (ya, yg, yt, yn, ys) = X at cL HS2 hll
      have hXs := sizeL X
      have HX : Hid ((⟨X.toArray⟩ : ByteArray).data.toList = X) := rfl
      generalize (⟨X.toArray⟩ : ByteArray) = Y at *
      have HF : Hid ((acc ++ Y ++ ⟨#[10]⟩).data.toList = textP (is.take (kk + 1))) := by
        show _ = _
        rw [HS2.out]
        exact cat3 acc Y _ _ rfl HX.out
      have hsz : (acc ++ Y ++ ⟨#[10]⟩).size = acc.size + Y.size + 1 := by rw [ByteArray.size_append, ByteArray.size_append]; rfl
      go_wp2_with fail
      refine cL.mono ?_
      rintro e w1 ⟨rfl, b1⟩
      have B3 := BW.out.trans (b1.mono BW.out.size)
      clear b1 cL
      go_wp2
      go_roundg (N - (kk + 1))
      case measure => omega
      case rel => exact ⟨kk + 1, acc ++ Y ++ ⟨#[10]⟩, by omega, by omega, by omega, by go_num, rfl, B3, HF, by rw [hsz]; omega⟩
    · have HT : N ≤ 60 → acc.data.toList = textP is := fun h => by
        rw [HA.out, List.take_of_length_le (by have := HN.out; omega)]
      have HT' : Hid (N ≤ 60 → acc.data.toList = textP is) := HT
      clear HA HT
      by_cases h60 : N ≤ 60
      · have hz60 : (N : Int) ≤ 60 := by omega
        have hnl : ¬ (kk : Int) < (N : Int) := by omega
        have cP := print_anyI p c N is wr HN.out (hc.on BW.out) h60 HZ.out (henv.env.on BW.out) (hr.on BW.out) acc (by
          apply ByteArray.ext
          apply Array.toList_inj.1
          rw [HT'.out h60])
        have hq : (acc.toList != acc.toList) = false := by simp
        clear hc hlt
        go_wp2_with fail
        refine cP.mono ?_
        rintro e w1 ⟨rfl, b1⟩
        have B1 := BW.out.trans (b1.mono BW.out.size)
        clear b1 cP
        rcases HE.out with rfl | rfl
        all_goals
          go_wp2_with fail
          refine (cR _).mono ?_
          rintro e w2 ⟨rfl, b2⟩
          have B2 := B1.trans (b2.mono B1.size)
          clear b2
          go_wp2_with fail
          refine (cC _ (hr.on B2)).mono ?_
          rintro e w3 ⟨rfl, b3⟩
          have B3 := B2.trans (b3.mono B2.size)
          clear b3
          go_wp2_with fail
          refine (same_any _ _ (henv.on B3)).mono ?_
          rintro e w4 ⟨rfl, b4⟩
          have B4 := B3.trans (b4.mono B3.size)
          clear b4
          go_wp2
          go_ret
          exact ⟨rfl, B4⟩
      · have hz60 : ¬ (N : Int) ≤ 60 := by omega
        have hnl : (kk : Int) < (N : Int) := by omega
        have hn6 : ¬ (kk : Int) < 60 := by omega
        have B1 := BW.out
        clear hc hlt
        rcases HE.out with rfl | rfl
        all_goals
          go_wp2_with fail
          refine (cR _).mono ?_
          rintro e w2 ⟨rfl, b2⟩
          have B2 := B1.trans (b2.mono B1.size)
          clear b2
          go_wp2_with fail
          refine (cC _ (hr.on B2)).mono ?_
          rintro e w3 ⟨rfl, b3⟩
          have B3 := B2.trans (b3.mono B2.size)
          clear b3
          go_wp2_with fail
          refine (same_any _ _ (henv.on B3)).mono ?_
          rintro e w4 ⟨rfl, b4⟩
          have B4 := B3.trans (b4.mono B3.size)
          clear b4
          go_wp2
          go_ret
          exact ⟨rfl, B4⟩
end Go.Proofs.YtkoejkpjkcejcabDoor
namespace Go.Proofs.YtkoejkpjkcejcabDoor
open Go.RowKit

/-- The cell at a place of a datum of numbers and texts. -/
def cellAt (P : Program) : Nat → TypeId → DataW Unit → Nat → Option Value
  | 0, _, _, _ => none
  | f + 1, t, d, i =>
    match P.underlying t, d with
    | some (.int k), .lit (.int _ n) => if i = 0 then some (.int k n) else none
    | some .string, .lit (.string l) => if i = 0 then some (.string ⟨l.toArray⟩) else none
    | some (.array n e), .agg l => if i / P.cellsOf e < n ∧ i % P.cellsOf e < P.cellsOf e then (l[i / P.cellsOf e]?).bind fun d' => cellAt P f e d' (i % P.cellsOf e) else none
    | some (.struct fs), .agg l =>
      (fs[(fs.toList.findIdx fun g => decide (i < g.offset + P.cellsOf g.type))]?).bind fun g =>
        if g.offset ≤ i ∧ i < g.offset + P.cellsOf g.type then (l[(fs.toList.findIdx fun g => decide (i < g.offset + P.cellsOf g.type))]?).bind fun d' => cellAt P f g.type d' (i - g.offset) else none
    | _, _ => none
theorem chunk_at {cs : List Value} {o k i : Nat} {v : Value} (hk : i < k) (h : ((cs.drop o).take k)[i]? = some v) : cs[o + i]? = some v := by
  rw [List.getElem?_take, if_pos hk, List.getElem?_drop] at h
  exact h
theorem cellAt_trod {P : Program} {W : World} {enc : TypeId × Value → Unit} {base : Nat} {spare : Nat → Bool} {held : Bool} : ∀ (f : Nat) (t : TypeId) (d : DataW Unit) (i : Nat) (v : Value) (fuel : Nat) (cs : List Value) (ps : List MemPlace),
    DataW.trod enc P W base spare held fuel t cs = some (d, ps) → cellAt P f t d i = some v → cs[i]? = some v
  | 0, _, _, _, _, _, _, _, _, h => by simp [cellAt] at h
  | f + 1, t, d, i, v, fuel, cs, ps, ht, h => by
    unfold cellAt at h
    split at h
    · rename_i k _ n hu
      split at h
      · rename_i hi
        subst hi
        cases fuel with
        | zero => simp [DataW.trod] at ht
        | succ m =>
          unfold DataW.trod at ht
          rw [hu] at ht
          split at ht <;> simp_all
      · simp at h
    · rename_i l hu
      split at h
      · rename_i hi
        subst hi
        obtain ⟨s, rfl, hx, _⟩ := DataW.trod_string hu ht
        simp at hx h ⊢
        rw [← h, hx.1]
      · simp at h
    · rename_i n e l hu
      split at h
      · rename_i hi
        obtain ⟨xs, m, _, hx, _, hl, hel⟩ := DataW.trod_array hu ht
        simp only [Prod.mk.injEq, DataW.agg.injEq] at hx
        obtain ⟨rfl, rfl⟩ := hx
        rw [Option.bind_eq_some_iff] at h
        obtain ⟨d', hd, h⟩ := h
        have hlt : i / P.cellsOf e < xs.length := by omega
        rw [List.getElem?_map, List.getElem?_eq_getElem hlt] at hd
        have h2 := hel _ hi.1
        rw [List.getElem?_eq_getElem hlt] at h2
        simp only [Option.map_some, Option.some.injEq] at hd
        subst hd
        have h3 := cellAt_trod f e _ _ v _ _ _ h2 h
        have h4 := chunk_at hi.2 h3
        rwa [Nat.mul_comm, Nat.div_add_mod] at h4
      · simp at h
    · rename_i fs l hu
      rw [Option.bind_eq_some_iff] at h
      obtain ⟨g, hg, h⟩ := h
      split at h
      · rename_i hi
        obtain ⟨xs, m, _, hx, _, hl, hel⟩ := DataW.trod_struct hu ht
        simp only [Prod.mk.injEq, DataW.agg.injEq] at hx
        obtain ⟨rfl, rfl⟩ := hx
        rw [Option.bind_eq_some_iff] at h
        obtain ⟨d', hd, h⟩ := h
        have h2 := hel _ g hg
        rw [List.getElem?_map, Option.map_eq_some_iff] at hd
        obtain ⟨y, hy, rfl⟩ := hd
        rw [hy] at h2
        have h3 := cellAt_trod f g.type _ _ v _ _ _ h2 h
        have h4 := chunk_at (by omega) h3
        rwa [show g.offset + (i - g.offset) = i by omega] at h4
      · simp at h
    · simp at h
theorem var_row {P : Program} {W : World} {n : String} {cs : Array Value} {g : Nat} (h : W.var? P n = some cs) (hg : P.globalNamed n = some g) : ∃ t fr, W.heap[g]? = some (.cells cs t fr) := by
  unfold World.var? at h
  simp only [hg, Option.bind_some] at h
  split at h
  · rename_i c t fr he
    obtain rfl := Option.some.inj h
    exact ⟨t, fr, he⟩
  · simp at h
theorem var_of {P : Program} {W : World} {nm : String} {d : DataW Unit} {rest : List (String × DataW Unit)} {g : Nat} {t e : TypeId} {n : Nat} (C : Array Value)
    (h : laidMet P ((nm, d) :: rest) W) (hg : P.globalNamed nm = some g) (ht : (P.globals[g]?).map (·.type) = some t) (hu : P.underlying t = some (.array n e)) (hc : P.cellsOf t = C.size)
    (hC : (List.range C.size).map (cellAt P 8 t d) = C.toList.map some) : ∃ tt fr, W.heap[g]? = some (.cells C tt fr) := by
  obtain ⟨ps, ⟨g', t', cs, fuel, p, q, hg', ht', hvar, hd, _, _⟩, _⟩ := h
  obtain rfl := Option.some.inj (hg.symm.trans hg')
  obtain rfl := Option.some.inj (ht.symm.trans ht')
  obtain ⟨_, _, _, _, hl, _, _⟩ := DataW.trod_array hu hd
  have hcs : cs = C := by
    apply Array.ext'
    apply List.ext_getElem?
    intro i
    by_cases hi : i < C.size
    · have h1 : ((List.range C.size).map (cellAt P 8 t d))[i]? = (C.toList.map some)[i]? := by rw [hC]
      rw [List.getElem?_map, List.getElem?_range hi, List.getElem?_map, Array.getElem?_toList, Array.getElem?_eq_getElem hi] at h1
      simp only [Option.map_some, Option.some.injEq] at h1
      rw [cellAt_trod 8 t d i _ _ _ _ hd h1, Array.getElem?_toList, Array.getElem?_eq_getElem hi]
    · rw [List.getElem?_eq_none (by omega), List.getElem?_eq_none (by simpa using hi)]
  subst hcs
  exact var_row hvar hg
end Go.Proofs.YtkoejkpjkcejcabDoor
