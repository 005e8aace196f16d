/-
  The walk of sluicelaw1.RowBack, for all columns, values and texts.
-/
import Derived.Test.YtggabncpedcmdaaGreatDoorRowFacts
import Derived.Test.YtggabncpedcmdaaGreatDoorRowSame
import Derived.Test.YtggabncpedcmdaaGreatDoorIsErr
import Derived.Deep.DeepCutAuto
namespace Go.Proofs.YtggabncpedcmdaaGreatDoor
open Go.RowKit
set_option linter.unusedVariables false

/-- A list of values as a Go value. -/
def IsVals (w : World) (v : Value) (rs : List (Int × Int × ByteArray)) : Prop :=
  ∃ p c, v = .slice p rs.length c ∧ rs.length ≤ maxLen ∧ (rs.length = 0 ∨ ∃ b off, p = some ⟨b, off, none⟩ ∧ ValsIn w b off rs)
theorem IsVals.on {w w' : World} {v : Value} {rs : List (Int × Int × ByteArray)} (h : IsVals w v rs) (hb : Below w.heap.size w w') : IsVals w' v rs := by
  obtain ⟨p, c, e, hm, h⟩ := h
  refine ⟨p, c, e, hm, ?_⟩
  rcases h with h | ⟨b, off, e2, h⟩
  · exact .inl h
  · exact .inr ⟨b, off, e2, h.on hb⟩
/-- A list of columns as a Go value. -/
def IsCols (w : World) (v : Value) (zs : List (ByteArray × Int)) : Prop :=
  ∃ p c, v = .slice p zs.length c ∧ zs.length ≤ c ∧ zs.length ≤ maxLen ∧ (∀ z ∈ zs, z.1.size ≤ maxLen) ∧ (zs.length = 0 ∨ ∃ b off, p = some ⟨b, off, none⟩ ∧ ColsIn w b off zs)
theorem IsCols.on {w w' : World} {v : Value} {zs : List (ByteArray × Int)} (h : IsCols w v zs) (hb : Below w.heap.size w w') : IsCols w' v zs := by
  obtain ⟨p, c, e, hcap, hm, hz, h⟩ := h
  refine ⟨p, c, e, hcap, hm, hz, ?_⟩
  rcases h with h | ⟨b, off, e2, h⟩
  · exact .inl h
  · exact .inr ⟨b, off, e2, h.on hb⟩
theorem valCells_at : ∀ (rs : List (Int × Int × ByteArray)) (j : Nat) (h : j < rs.length), (valCells rs)[j * 3]? = some (.int .i64 rs[j].1) ∧ (valCells rs)[j * 3 + 1]? = some (.int .i64 rs[j].2.1) ∧ (valCells rs)[j * 3 + 2]? = some (.string rs[j].2.2)
  | [], j, h => absurd h (by simp)
  | r :: rs, 0, _ => by simp [valCells]
  | r :: rs, j + 1, h => by
    have ih := valCells_at rs j (by simpa using h)
    have e : valCells (r :: rs) = .int .i64 r.1 :: .int .i64 r.2.1 :: .string r.2.2 :: valCells rs := rfl
    rw [e, show (j + 1) * 3 = j * 3 + 1 + 1 + 1 by omega]
    simp only [List.getElem?_cons_succ]
    simpa using ih
theorem own_vals {W : World} {base : Nat} {v : Value} {rs : List (Int × Int × ByteArray)} (h : W.ownsRow base 23 3 v rs.length (valCells rs)) : IsVals W v rs := by
  rcases h.2 with ⟨e, h0⟩ | ⟨g, cap, cur, e, _, hgg, hcap, hmx, _, _⟩
  · exact ⟨none, 0, by rw [e, h0], by omega, .inl h0⟩
  · refine ⟨_, cap, e, by omega, .inr ⟨g, 0, rfl, (Array.getElem?_eq_some_iff.1 hgg).1, fun j hj => ?_⟩⟩
    obtain ⟨e0, e1, e2⟩ := valCells_at rs j hj
    have h0 := h.cells (g := g) (by rw [e]; rfl) _ _ e0
    have h1 := h.cells (g := g) (by rw [e]; rfl) _ _ e1
    have h2 := h.cells (g := g) (by rw [e]; rfl) _ _ e2
    rw [Go.WideShapes.add_plain] at h0 h1 h2
    exact ⟨h0, h1, h2⟩
theorem own_colsv {W : World} {base : Nat} {v : Value} {zs : List (ByteArray × Int)} (h : W.ownsRow base 86 2 v zs.length (colCells zs)) (hz : ∀ z ∈ zs, z.1.size ≤ maxLen) : IsCols W v zs := by
  rcases h.2 with ⟨e, h0⟩ | ⟨g, cap, cur, e, _, hgg, hcap, hmx, _, _⟩
  · exact ⟨none, 0, by rw [e, h0], by omega, by omega, hz, .inl h0⟩
  · subst e
    exact ⟨_, cap, rfl, hcap, by omega, hz, .inr ⟨g, 0, rfl, own_cols h (Array.getElem?_eq_some_iff.1 hgg).1⟩⟩
theorem print_v (v : Value) (rs : List (Int × Int × ByteArray)) (w : World) (henv : Env w) (h : IsVals w v rs) (hsz : Sized rs) :
    Calls Tryz.prog 22 #[v] w fun e w' => (∃ (X : ByteArray) (er : Value) (b : Bool), e = .returned (.tuple #[.string X, er]) ∧ IsErr er b ∧ Hid (b = true → er = .nilIface ∧ rowE rs = 0 ∧ X.data.toList = rowT rs)) ∧ Below w.heap.size w w' := by
  obtain ⟨p, c, rfl, hm, h⟩ := h
  rcases h with h0 | ⟨b, off, rfl, h⟩
  · have hr := List.length_eq_zero_iff.1 h0
    subst hr
    exact (rprint_nil p c w).mono fun e w' hh => ⟨⟨_, _, _, hh.1, isErr_errV _, (show Hid _ from fun _ => ⟨rfl, rfl, rfl⟩)⟩, hh.2⟩
  · exact (rprint_any b off c rs w henv hsz h).mono fun e w' hh => ⟨⟨_, _, _, hh.1, isErr_errV _, (show Hid _ from fun hb => by
      have h0 := of_decide_eq_true hb
      exact ⟨by rw [h0]; rfl, h0, by rw [if_pos h0]⟩)⟩, hh.2⟩
theorem parse_v (s : ByteArray) (w : World) (hs : s.size ≤ 140737488355328) (henv : Env w) :
    Calls Tryz.prog 24 #[.string s] w fun e w' => (∃ (v er : Value) (b : Bool) (R : List (Int × Int × ByteArray)), e = .returned (.tuple #[v, er]) ∧ IsErr er b ∧ IsVals w' v R ∧ Hid (b = true → er = .nilIface ∧ rdRow s = (R, 0))) ∧ Below w.heap.size w w' :=
  (rparse_any s w hs henv).mono fun e w' ⟨⟨v, he, hown⟩, hb⟩ => ⟨⟨v, _, _, _, he, isErr_errV _, own_vals hown, (show Hid _ from fun h => by
    have h0 := of_decide_eq_true h
    exact ⟨by rw [h0]; rfl, Prod.ext rfl h0⟩)⟩, hb⟩
theorem parse_vok (s : ByteArray) (rs : List (Int × Int × ByteArray)) (w : World) (hs : s.size ≤ 140737488355328) (henv : Env w) (h : rdRow s = (rs, 0)) :
    Calls Tryz.prog 24 #[.string s] w fun e w' => (∃ v, e = .returned (.tuple #[v, .nilIface]) ∧ IsVals w' v rs) ∧ Below w.heap.size w w' :=
  (rparse_any s w hs henv).mono fun e w' ⟨⟨v, he, hown⟩, hb⟩ => ⟨⟨v, by rw [he, h]; rfl, by rw [h] at hown; exact own_vals hown⟩, hb⟩
theorem print_vok (v : Value) (rs : List (Int × Int × ByteArray)) (X : ByteArray) (w : World) (henv : Env w) (h : IsVals w v rs) (hsz : Sized rs) (hE : rowE rs = 0) (hX : X.data.toList = rowT rs) :
    Calls Tryz.prog 22 #[v] w fun e w' => e = .returned (.tuple #[.string X, .nilIface]) ∧ Below w.heap.size w w' := by
  obtain ⟨p, c, rfl, hm, h⟩ := h
  rcases h with h0 | ⟨b, off, rfl, h⟩
  · have hr := List.length_eq_zero_iff.1 h0
    subst hr
    have hX0 : X = ⟨#[]⟩ := of_list hX
    subst hX0
    exact (rprint_nil p c w).mono fun e w' hh => ⟨hh.1, hh.2⟩
  · exact (rprint_any b off c rs w henv hsz h).mono fun e w' hh => ⟨by rw [hh.1, hE, if_pos rfl, ← hX]; simp [errV], hh.2⟩
theorem vals_v (a b : Value) (rs : List (Int × Int × ByteArray)) (w : World) (ha : IsVals w a rs) (hb : IsVals w b rs) :
    Calls Tryz.prog 25 #[a, b] w fun e w' => e = .returned (.bool true) ∧ Below w.heap.size w w' := by
  obtain ⟨pa, ca, rfl, hm, ha⟩ := ha
  obtain ⟨pb, cb, rfl, _, hb⟩ := hb
  rcases ha with h0 | ⟨ba, oa, rfl, ha⟩
  · rw [h0]
    exact vals_none pa pb ca cb w
  · rcases hb with h0 | ⟨bb, ob, rfl, hb⟩
    · rw [h0]
      exact vals_none _ pb ca cb w
    · exact vals_same ba oa ca bb ob cb rs w hm ha hb
theorem showS_v (v : Value) (zs : List (ByteArray × Int)) (w : World) (hw : TW w) (h : IsCols w v zs) :
    Calls Tryz.prog 27 #[v] w fun e w' => (∃ (X : ByteArray) (er : Value) (b : Bool), e = .returned (.tuple #[.string X, er]) ∧ IsErr er b ∧ Hid (b = true → er = .nilIface ∧ schE zs = 0 ∧ X.data.toList = schT zs)) ∧ Below w.heap.size w w' := by
  obtain ⟨p, c, rfl, hcap, hm, hz, h⟩ := h
  rcases h with h0 | ⟨b, off, rfl, h⟩
  · rw [h0]
    exact (pschema_none p c w).mono fun e w' hh => ⟨⟨_, _, _, hh.1, isErr_errV 5, (show Hid _ from fun hb => absurd hb (by decide))⟩, hh.2⟩
  · by_cases hE : schE zs = 0
    · exact (pschema_ok b off c zs w hw hcap hz h hE).mono fun e w' hh => ⟨⟨_, _, _, hh.1, isErr_nil, (show Hid _ from fun _ => ⟨rfl, hE, by simp⟩)⟩, hh.2⟩
    · exact (pschema_bad b off c zs w hw hcap hz h hE).mono fun e w' hh => ⟨⟨_, _, _, hh.1, isErr_errV _, (show Hid _ from fun hb => absurd (of_decide_eq_true hb) hE)⟩, hh.2⟩
theorem showS_vok (v : Value) (zs : List (ByteArray × Int)) (X : ByteArray) (w : World) (hw : TW w) (h : IsCols w v zs) (hE : schE zs = 0) (hX : X.data.toList = schT zs) :
    Calls Tryz.prog 27 #[v] w fun e w' => e = .returned (.tuple #[.string X, .nilIface]) ∧ Below w.heap.size w w' := by
  obtain ⟨p, c, rfl, hcap, hm, hz, h⟩ := h
  rcases h with h0 | ⟨b, off, rfl, h⟩
  · exact absurd h0 (schE_zero hE).1
  · exact (pschema_ok b off c zs w hw hcap hz h hE).mono fun e w' hh => ⟨by rw [hh.1, ← hX], hh.2⟩
theorem names_small {zs : List (ByteArray × Int)} (hE : schE zs = 0) : ∀ z ∈ zs, z.1.size ≤ maxLen := fun z hz => by
  obtain ⟨j, hj, rfl⟩ := List.getElem_of_mem hz
  have := nameB_len ((schE_zero hE).2.2 j hj).1
  have h2 : (zs[j].1).data.toList.length = zs[j].1.size := by simp
  unfold maxLen; omega
theorem sdRow_small {s : ByteArray} : ∀ z ∈ (sdRow s).1, z.1.size ≤ maxLen := by
  obtain ⟨R, E, h⟩ : ∃ R E, sdRow s = (R, E) := ⟨_, _, rfl⟩
  rw [h]
  by_cases hE : E = 0
  · subst hE
    exact names_small (back_sch h).1
  · have h2 := h
    rw [sdRow, sdEnd] at h2
    split at h2
    · rw [← congrArg Prod.fst h2]; intro z hz; simp at hz
    · split at h2
      · rw [← congrArg Prod.fst h2]; intro z hz; simp at hz
      · exact absurd (congrArg Prod.snd h2).symm hE
theorem readS_v (s : ByteArray) (w : World) (hs : s.size ≤ 140737488355328) (hw : TW w) :
    Calls Tryz.prog 29 #[.string s] w fun e w' => (∃ (v er : Value) (b : Bool) (R : List (ByteArray × Int)), e = .returned (.tuple #[v, er]) ∧ IsErr er b ∧ IsCols w' v R ∧ Hid (b = true → er = .nilIface ∧ sdRow s = (R, 0))) ∧ Below w.heap.size w w' :=
  (rschema_any s w hs hw).mono fun e w' ⟨⟨v, he, hown⟩, hb⟩ => ⟨⟨v, _, _, _, he, isErr_errV _, own_colsv hown sdRow_small, (show Hid _ from fun h => by
    have h0 := of_decide_eq_true h
    exact ⟨by rw [h0]; rfl, Prod.ext rfl h0⟩)⟩, hb⟩
theorem readS_vok (s : ByteArray) (zs : List (ByteArray × Int)) (w : World) (hs : s.size ≤ 140737488355328) (hw : TW w) (h : sdRow s = (zs, 0)) :
    Calls Tryz.prog 29 #[.string s] w fun e w' => (∃ v, e = .returned (.tuple #[v, .nilIface]) ∧ IsCols w' v zs) ∧ Below w.heap.size w w' :=
  (rschema_any s w hs hw).mono fun e w' ⟨⟨v, he, hown⟩, hb⟩ => ⟨⟨v, by rw [he, h]; rfl, by
    have hz : ∀ z ∈ zs, z.1.size ≤ maxLen := by
      have := sdRow_small (s := s)
      rw [h] at this
      exact this
    rw [h] at hown; exact own_colsv hown hz⟩, hb⟩
theorem cols_v (a b : Value) (zs : List (ByteArray × Int)) (w : World) (ha : IsCols w a zs) (hb : IsCols w b zs) :
    Calls Tryz.prog 30 #[a, b] w fun e w' => e = .returned (.bool true) ∧ Below w.heap.size w w' := by
  obtain ⟨pa, ca, rfl, _, hm, _, ha⟩ := ha
  obtain ⟨pb, cb, rfl, _, _, _, hb⟩ := hb
  rcases ha with h0 | ⟨ba, oa, rfl, ha⟩
  · rw [h0]
    exact cols_none pa pb ca cb w
  · rcases hb with h0 | ⟨bb, ob, rfl, hb⟩
    · rw [h0]
      exact cols_none _ pb ca cb w
    · exact cols_same ba oa ca bb ob cb zs w hm ha hb
def fact3 : List (Int × Int × ByteArray) := [(1, 7, ⟨#[]⟩), (3, 0, ⟨#[97, 44, 98]⟩), (2, 1, ⟨#[]⟩)]
theorem fact_text : rowT fact3 = [55, 44, 39, 97, 44, 98, 39, 44, 116, 114, 117, 101] := by
  have h7 : shown 1 7 (⟨#[]⟩ : ByteArray).data.toList = [55] := by
    rw [shown, if_pos rfl, Lib.itoa, if_neg (by decide), show (7 : Int).toNat = 7 from rfl, Lib.decDigits_one (by decide)]; rfl
  have h3 : shown 3 0 (⟨#[97, 44, 98]⟩ : ByteArray).data.toList = [39, 97, 44, 98, 39] := by decide
  have h2 : shown 2 1 (⟨#[]⟩ : ByteArray).data.toList = [116, 114, 117, 101] := by decide
  rw [fact3, rowT_cons, rowT_cons, rowT_one]
  simp only [h7, h3, h2]
  rfl
theorem fact_read : rdRow ⟨#[55, 44, 39, 97, 44, 98, 39, 44, 116, 114, 117, 101]⟩ = (fact3, 0) :=
  row_back (by decide) (fun r hr => by
    simp [fact3] at hr
    rcases hr with rfl | rfl | rfl <;> exact ⟨by decide, by decide, by decide⟩) (by rw [fact_text])
end Go.Proofs.YtggabncpedcmdaaGreatDoor
