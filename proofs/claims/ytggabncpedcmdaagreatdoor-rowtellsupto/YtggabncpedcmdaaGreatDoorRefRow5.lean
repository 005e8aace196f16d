/-
  The document's ReadRow (package sluiceref1), at any text: what Parse of package row says.
-/
import Derived.Test.YtggabncpedcmdaaGreatDoorRefRow4
import Derived.Test.YtggabncpedcmdaaGreatDoorRef4
namespace Go.Proofs.YtggabncpedcmdaaGreatDoor
open Go.RowKit
set_option linter.unusedVariables false

def rfEnd (row : List (Int × Int × ByteArray)) (full : Bool) : List (Int × Int × ByteArray) × Int := if (full || decide (6 < row.length)) = true then ([], 4) else (row, 0)
def rfGo : Nat → List UInt8 → List (Int × Int × ByteArray) → Bool → List (Int × Int × ByteArray) × Int
  | 0, _, _, _ => ([], 0)
  | f + 1, l, row, full =>
    if (readV ⟨(cutV l).1.toArray⟩).2.2.2 = 2 then ([], 2)
    else
      if (cutV l).2.2 = true then
        rfGo f (cutV l).2.1 (row ++ [((readV ⟨(cutV l).1.toArray⟩).1, (readV ⟨(cutV l).1.toArray⟩).2.1, ⟨(readV ⟨(cutV l).1.toArray⟩).2.2.1.toArray⟩)]) (full || (readV ⟨(cutV l).1.toArray⟩).2.2.2 != 0)
      else rfEnd (row ++ [((readV ⟨(cutV l).1.toArray⟩).1, (readV ⟨(cutV l).1.toArray⟩).2.1, ⟨(readV ⟨(cutV l).1.toArray⟩).2.2.1.toArray⟩)]) (full || (readV ⟨(cutV l).1.toArray⟩).2.2.2 != 0)
def rfNext (f : Nat) (l : List UInt8) (m : Bool) (row : List (Int × Int × ByteArray)) (full : Bool) : List (Int × Int × ByteArray) × Int := if m = true then rfGo f l row full else rfEnd row full
theorem rf_step {f : Nat} {l : List UInt8} {row : List (Int × Int × ByteArray)} {full : Bool} {P r : ByteArray} {m : Bool} {t n : Int} {x : ByteArray} {e : Int} (hc : cutV l = (P.data.toList, r.data.toList, m)) (hr : readV P = (t, n, x.data.toList, e)) :
    rfGo (f + 1) l row full = if e = 2 then ([], 2) else rfNext f r.data.toList m (row ++ [(t, n, x)]) (full || e != 0) := by
  have hP : (⟨P.data.toList.toArray⟩ : ByteArray) = P := by simp
  have hx : (⟨x.data.toList.toArray⟩ : ByteArray) = x := by simp
  rw [rfGo, hc]
  simp only [hP, hr, hx, rfNext]
theorem readV_e (s : ByteArray) : (readV s).2.2.2 = 0 ∨ (readV s).2.2.2 = 2 ∨ (readV s).2.2.2 = 4 := by
  rw [readV]
  repeat' split
  all_goals simp
/-- Both ways of counting come to the same. -/
theorem rf_rd : ∀ (f : Nat) (l : List UInt8) (row : List (Int × Int × ByteArray)) (full : Bool) (rowD : List (Int × Int × ByteArray)) (fullD : Bool), l.length < f →
    ((full || decide (6 < row.length)) = true → fullD = true) → ((full || decide (6 < row.length)) = false → fullD = false ∧ rowD = row) → rfGo f l row full = rdGo f l rowD fullD
  | 0, _, _, _, _, _, h, _, _ => absurd h (by omega)
  | f + 1, l, row, full, rowD, fullD, hf, h1, h2 => by
    obtain ⟨P, hP⟩ : ∃ P : ByteArray, P.data.toList = (cutV l).1 := ⟨⟨(cutV l).1.toArray⟩, by simp⟩
    obtain ⟨Q, hQ⟩ : ∃ Q : ByteArray, Q.data.toList = (cutV l).2.1 := ⟨⟨(cutV l).2.1.toArray⟩, by simp⟩
    obtain ⟨x, hx⟩ : ∃ x : ByteArray, x.data.toList = (readV P).2.2.1 := ⟨⟨(readV P).2.2.1.toArray⟩, by simp⟩
    have hc : cutV l = (P.data.toList, Q.data.toList, (cutV l).2.2) := by rw [hP, hQ]
    have hr : readV P = ((readV P).1, (readV P).2.1, x.data.toList, (readV P).2.2.2) := by rw [hx]
    have he := readV_e P
    rw [rf_step hc hr, rd_step hc hr]
    generalize (readV P).1 = t
    generalize (readV P).2.1 = n
    generalize (readV P).2.2.2 = e at he
    have hlt : (cutV l).2.2 = true → (Q.data.toList).length < f := fun hmt => by
      rw [hQ]
      rw [cutV] at hmt ⊢
      cases hcp : cutPos false l with
      | none => rw [hcp] at hmt; cases hmt
      | some k => have := cutPos_lt hcp; simp; omega
    generalize (cutV l).2.2 = m at hlt
    by_cases e2 : e = 2
    · subst e2
      rw [if_pos rfl, if_pos (by decide)]
    · rw [if_neg e2, if_neg (fun h => he.elim (fun h0 => h.1 h0) (fun h0 => h0.elim (fun h1 => e2 h1) (fun h1 => h.2 h1)))]
      by_cases hb : (full || decide (6 < row.length)) = true
      · have hD := h1 hb
        subst hD
        have hb2 : ((full || e != 0) || decide (6 < (row ++ [(t, n, x)]).length)) = true := by
          simp at hb ⊢
          rcases hb with h | h
          · exact Or.inl (Or.inl h)
          · exact Or.inr (by omega)
        rw [rfNext, rdNext]
        cases m
        · rw [if_neg (by decide), if_neg (by decide), rfEnd, if_pos hb2]; simp
        · rw [if_pos rfl, if_pos rfl]
          refine rf_rd f _ _ _ _ _ (hlt rfl) (fun _ => by simp) (fun h => absurd (h.symm.trans hb2) (by decide))
      · have hb0 : (full || decide (6 < row.length)) = false := by simpa using hb
        obtain ⟨rfl, rfl⟩ := h2 hb0
        have hf0 : full = false := by cases full; rfl; simp at hb0
        have h6 : rowD.length ≤ 6 := by simp [hf0] at hb0; omega
        subst hf0
        rw [rfNext, rdNext]
        by_cases hfin : (false || (e != 0 || rowD.length == 6)) = true
        · have hb2 : ((false || e != 0) || decide (6 < (rowD ++ [(t, n, x)]).length)) = true := by
            simp at hfin ⊢
            rcases hfin with h | h
            · exact Or.inl h
            · exact Or.inr (by omega)
          rw [hfin, if_pos rfl]
          cases m
          · rw [if_neg (by decide), if_neg (by decide), rfEnd, if_pos hb2, if_pos rfl]
          · rw [if_pos rfl, if_pos rfl]
            exact rf_rd f _ _ _ _ _ (hlt rfl) (fun _ => rfl) (fun h => absurd (h.symm.trans hb2) (by decide))
        · have hfin0 : (false || (e != 0 || rowD.length == 6)) = false := by simpa using hfin
          have hb2 : ((false || e != 0) || decide (6 < (rowD ++ [(t, n, x)]).length)) = false := by
            simp at hfin0 ⊢
            exact ⟨hfin0.1, by omega⟩
          simp only [hfin0, Bool.false_eq_true, if_false]
          cases m
          · simp only [Bool.false_eq_true, if_false]
            rw [rfEnd, if_neg (by rw [hb2]; decide)]
          · simp only [if_true]
            exact rf_rd f _ _ _ _ _ (hlt rfl) (fun h => absurd (h.symm.trans hb2) (by decide)) (fun _ => ⟨rfl, rfl⟩)
theorem slice_part (s : ByteArray) (a b : Nat) (hab : a ≤ b) (hb : b ≤ s.size) : ∃ X : ByteArray, (∀ W : World, Sem.run Tryz.prog (Instr.slice 9 (.string s) (some (.int .i64 (a : Int))) (some (.int .i64 (b : Int))) none) W = .ok (.string X) W) ∧ X.data.toList = (s.data.toList.drop a).take (b - a) ∧ X.size ≤ s.size := by
  refine ⟨s.extract a b, fun W => ?_, by rw [Lib.extract_data], ?_⟩
  · rw [run_slice_string W 9 s .i64 .i64 (a : Int) (b : Int) Tryz.underlying9 (by omega) (by omega) (by omega)]
    rfl
  · rw [Lib.size_eq, Lib.size_eq, Lib.extract_data, List.length_take, List.length_drop]; omega
theorem cut_at_none {s : ByteArray} {a : Nat} (h : cutPos false (s.data.toList.drop a) = none) {P : ByteArray} (hP : P.data.toList = (s.data.toList.drop a).take (s.size - a)) : cutV (s.data.toList.drop a) = (P.data.toList, (⟨#[]⟩ : ByteArray).data.toList, false) := by
  rw [cutV, h, hP, List.take_of_length_le (by simp)]
theorem cut_at_some {s : ByteArray} {a i : Nat} (hai : a ≤ i) (h : cutPos false (s.data.toList.drop a) = some (i - a)) {P Q : ByteArray} (hP : P.data.toList = (s.data.toList.drop a).take (i - a)) (hQ : Q.data.toList = s.data.toList.drop (i + 1)) : cutV (s.data.toList.drop a) = (P.data.toList, Q.data.toList, true) := by
  rw [cutV, h, hP, hQ]
  show ((s.data.toList.drop a).take (i - a), (s.data.toList.drop a).drop (i - a + 1), true) = _
  rw [List.drop_drop, show a + (i - a + 1) = i + 1 by omega]
theorem refRead_gen (s : ByteArray) (w : World) (hs : s.size ≤ 140737488355328) :
    Calls Tryz.prog 13 #[.string s] w fun e w' => (∃ (t n : Int) (x : ByteArray) (k : Int), e = .returned (.tuple #[.agg #[.int .i64 t, .int .i64 n, .string x], .int .i64 k]) ∧ Hid (readV s = (t, n, x.data.toList, k)) ∧ Hid (k = 0 ∨ k = 2 ∨ k = 4)) ∧ Below w.heap.size w w' :=
  (read_any s w hs).mono fun e w' hh => ⟨⟨_, _, ⟨(readV s).2.2.1.toArray⟩, _, hh.1, (show Hid _ by simp [Hid]), readV_e s⟩, hh.2⟩
theorem readRow_empty (w : World) :
    Calls Tryz.prog 23 #[.string ⟨#[]⟩] w fun e w' => e = .returned (.tuple #[.slice none 0 0, .int .i64 0]) ∧ w' = w := by
  go_enter Tryz.func23, Tryz.ntmps23
  go_wp2
  go_ret2
  exact ⟨rfl, rfl⟩
/-- What is known at the head of a round. -/
structure RfInv (s : ByteArray) (R : List (Int × Int × ByteArray) × Int) (row : List (Int × Int × ByteArray)) (full inb : Bool) (frm i : Nat) : Prop where
  on : i ≤ s.size → frm ≤ i ∧ (∃ f, s.size - frm < f ∧ R = rfGo f (s.data.toList.drop frm) row full) ∧ cutPos false (s.data.toList.drop frm) = (cutPos inb (s.data.toList.drop i)).map (· + (i - frm))
  off : s.size < i → R = rfEnd row full
  few : row.length ≤ frm
  frm : frm ≤ i
theorem RfInv.step {s : ByteArray} {R : List (Int × Int × ByteArray) × Int} {row : List (Int × Int × ByteArray)} {full inb : Bool} {frm i : Nat} (h : RfInv s R row full inb frm i) (hi : i < s.size) (hn : ¬ (s[i] = 44 ∧ inb = false)) : RfInv s R row full (if s[i] = 39 then !inb else inb) frm (i + 1) := by
  obtain ⟨h1, h2, h3⟩ := h.on (by omega)
  refine ⟨fun hle => ⟨by omega, h2, ?_⟩, fun hgt => by omega, h.few, by omega⟩
  rw [h3, cutPos_next s i inb hi hn, map_add, show 1 + (i - frm) = i + 1 - frm by omega]
set_option maxHeartbeats 8000000 in
set_option maxRecDepth 20000 in
theorem readRow_loop (s : ByteArray) (w : World) (hs : s.size ≤ 1099511627776) (hne : s.data.toList ≠ []) :
    Calls Tryz.prog 23 #[.string s] w fun e w' => (∃ v, e = .returned (.tuple #[v, .int .i64 (rfGo (s.size + 1) s.data.toList [] false).2]) ∧ w'.ownsRow w.heap.size 23 3 v (rfGo (s.size + 1) s.data.toList [] false).1.length (valCells (rfGo (s.size + 1) s.data.toList [] false).1)) ∧ Below w.heap.size w w' := by
  obtain ⟨R, E, hR⟩ : ∃ R E, rfGo (s.size + 1) s.data.toList [] false = (R, E) := ⟨_, _, rfl⟩
  rw [hR]
  simp only
  obtain ⟨i0, hi, hz0, hz1, hz2⟩ := info_parts info_val
  have hem : s.toList.isEmpty = false := by
    rw [Lib.toList_data]; cases h : s.data.toList with
    | nil => exact absurd h hne
    | cons a l => rfl
  clear hne
  go_enter Tryz.func23, Tryz.ntmps23
  go_wp2
  go_loopg [4, 5, 6, 7, 8, 9, 10] (s.size + 2) (fun gg s4 s5 s6 s7 s8 _ _ wr => ∃ (row : List (Int × Int × ByteArray)) (full inb : Bool) (frm i : Nat), s5 = .bool full ∧ s6 = .bool inb ∧ s7 = .int .i64 frm ∧ s8 = .int .i64 i ∧ i ≤ s.size + 1 ∧ s.size + 2 - i ≤ gg ∧ wr.ownsRow w.heap.size 23 3 s4 row.length (valCells row) ∧ Aside (Below w.heap.size w wr) ∧ Hid (RfInv s (R, E) row full inb frm i))
  case atStart => exact ⟨[], false, false, 0, 0, rfl, rfl, rfl, rfl, by omega, by omega, World.ownsRow_nil _ _ _ _, Below.refl _ w, (show Hid _ from ⟨fun _ => ⟨Nat.le_refl _, ⟨s.size + 1, by omega, by rw [List.drop_zero]; exact hR.symm⟩, by simp⟩, fun h => by omega, Nat.le_refl _, Nat.le_refl _⟩)⟩
  case round =>
    obtain ⟨row, full, inb, frm, i, rfl, rfl, rfl, rfl, hile, hg, hown, BW, HI⟩ := hrel
    obtain ⟨vp, vc, rfl⟩ := own_slice hown
    clear hR
    by_cases hlt : i < s.size
    · have hltz : (i : Int) < (s.size : Int) := by omega
      have hlez : (i : Int) ≤ (s.size : Int) := by omega
      by_cases h39 : s[i] = 39
      · have hc : ((s[i].toNat : Int) == 39) = true := by rw [h39]; rfl
        have hc4 : ((s[i].toNat : Int) != 44) = true := by rw [h39]; rfl
        have HI2 : Hid (RfInv s (R, E) row full (!inb) frm (i + 1)) := by
          have := HI.out.step hlt (fun e => by rw [h39] at e; exact absurd e.1 (by decide))
          rwa [if_pos h39] at this
        clear HI h39
        go_wp2
        go_roundg (s.size + 2 - (i + 1))
        case measure => omega
        case rel => exact ⟨row, full, !inb, frm, i + 1, rfl, rfl, rfl, by go_num, by omega, by omega, hown, BW, HI2⟩
      · have hc : ((s[i].toNat : Int) == 39) = false := by
          rw [beq_eq_false_iff_ne]; exact fun e => h39 (u8_39.1 e)
        by_cases h44 : s[i] = 44
        · have hc4 : ((s[i].toNat : Int) != 44) = false := by rw [h44]; rfl
          cases inb
          · obtain ⟨k1, k2, k3⟩ := HI.out.on (by omega)
            have hfew := HI.out.few
            rw [cutPos_hit s i hlt h44] at k3
            simp only [Option.map_some, Nat.zero_add] at k3
            obtain ⟨P, hP1, hP2, hP3⟩ := slice_part s frm i k1 (by omega)
            obtain ⟨Q, hQ⟩ : ∃ Q : ByteArray, Q.data.toList = s.data.toList.drop (i + 1) := ⟨⟨(s.data.toList.drop (i + 1)).toArray⟩, by simp⟩
            have HCut : Hid (cutV (s.data.toList.drop frm) = (P.data.toList, Q.data.toList, true)) := cut_at_some k1 k3 hP2 hQ
            obtain ⟨f, hf, k2⟩ := k2
            obtain ⟨g, rfl⟩ : ∃ g, f = g + 1 := ⟨f - 1, by omega⟩
            have HK2 : Hid ((R, E) = rfGo (g + 1) (s.data.toList.drop frm) row full) := k2
            have HQ : Hid (Q.data.toList = s.data.toList.drop (i + 1)) := hQ
            clear k2 k3 HI h39 h44 hP2 hQ
            go_wp2_with fail
            refine (refRead_gen P _ (by omega)).mono ?_
            rintro e w1 ⟨⟨t, n, x, k, rfl, HV, HKE⟩, b1⟩
            have B1 := BW.out.trans (b1.mono BW.out.size)
            have o3 := (own_below hown b1).alloc (.cells #[.int .i64 t, .int .i64 n, .string x] 23)
            have B3 := B1.alloc B1.size (.cells #[.int .i64 t, .int .i64 n, .string x] 23)
            have HR2 : Hid ((R, E) = if k = 2 then ([], 2) else rfNext g Q.data.toList true (row ++ [(t, n, x)]) (full || k != 0)) := HK2.out.trans (rf_step HCut.out HV.out)
            clear b1 hown HCut HK2 HV
            by_cases k2 : k = 2
            · subst k2
              have he : (R, E) = ([], 2) := by rw [HR2.out, if_pos rfl]
              obtain ⟨rfl, rfl⟩ := Prod.mk.inj he
              clear he HR2
              go_wp2
              go_ret2
              exact ⟨⟨_, rfl, World.ownsRow_nil _ _ _ _⟩, B3⟩
            · have k2b : (k == 2) = false := by simpa using k2
              rcases HKE.out with hk | hk | hk
              · subst hk
                cases full
                · have hd : True := trivial
                  have HI2 : Hid (RfInv s (R, E) (row ++ [(t, n, x)]) false false (i + 1) (i + 1)) := by
                    have hr := HR2.out
                    rw [if_neg (by decide), rfNext, if_pos rfl, HQ.out] at hr
                    exact ⟨fun _ => ⟨Nat.le_refl _, ⟨g, by omega, hr⟩, by simp⟩, fun h => by omega, by rw [List.length_append, List.length_singleton]; omega, Nat.le_refl _⟩
                  clear HR2 HKE
                  go_wp2_with (at_builtin; refine wpList_append_own _ rfl _ _ 44 rfl w.heap.size 23 i0 (.agg #[.int .i64 0, .int .i64 0, .string ⟨#[]⟩]) 3 32 Tryz.underlying44 hi hz0 hz1 hz2 rfl (by decide) _ _ _ rfl (o3.alloc _) ⟨w1.heap.size + 1, 0, none⟩ 1 1 [.int .i64 t, .int .i64 n, .string x] rfl rfl ?c1 ?c2 ?c3 ?c4 ?c5 ?_)
                  case c1 =>
                    intro i u hu
                    rw [Go.WideShapes.add_plain]
                    match i, hu with
                    | 0, hu => simp at hu; subst hu; rw [World.cell?_alloc_at _ _ _ _ (by simp)]; rfl
                    | 1, hu => simp at hu; subst hu; rw [World.cell?_alloc_at _ _ _ _ (by simp)]; rfl
                    | 2, hu => simp at hu; subst hu; rw [World.cell?_alloc_at _ _ _ _ (by simp)]; rfl
                  case c2 =>
                    intro u hu
                    simp at hu
                    rcases hu with rfl | rfl | rfl <;> rfl
                  case c3 => unfold maxLen; omega
                  case c4 => omega
                  case c5 => have := B1.size; simp; omega
                  · intro v' w3 hown' hgrow _
                    have RR := rel_val o3 B3 (by have := B3.size; omega) hown' hgrow
                    clear hown' hgrow o3
                    go_wp2
                    go_roundg (s.size + 2 - ((i + 1)))
                    case measure => omega
                    case rel => exact ⟨row ++ [(t, n, x)], false, false, (i + 1), (i + 1), rfl, rfl, by go_num, by go_num, by omega, by omega, RR.1, RR.2, HI2⟩
                · have hd : True := trivial
                  have HI2 : Hid (RfInv s (R, E) (row ++ [(t, n, x)]) true false (i + 1) (i + 1)) := by
                    have hr := HR2.out
                    rw [if_neg (by decide), rfNext, if_pos rfl, HQ.out] at hr
                    exact ⟨fun _ => ⟨Nat.le_refl _, ⟨g, by omega, hr⟩, by simp⟩, fun h => by omega, by rw [List.length_append, List.length_singleton]; omega, Nat.le_refl _⟩
                  clear HR2 HKE
                  go_wp2_with (at_builtin; refine wpList_append_own _ rfl _ _ 44 rfl w.heap.size 23 i0 (.agg #[.int .i64 0, .int .i64 0, .string ⟨#[]⟩]) 3 32 Tryz.underlying44 hi hz0 hz1 hz2 rfl (by decide) _ _ _ rfl (o3.alloc _) ⟨w1.heap.size + 1, 0, none⟩ 1 1 [.int .i64 t, .int .i64 n, .string x] rfl rfl ?c1 ?c2 ?c3 ?c4 ?c5 ?_)
                  case c1 =>
                    intro i u hu
                    rw [Go.WideShapes.add_plain]
                    match i, hu with
                    | 0, hu => simp at hu; subst hu; rw [World.cell?_alloc_at _ _ _ _ (by simp)]; rfl
                    | 1, hu => simp at hu; subst hu; rw [World.cell?_alloc_at _ _ _ _ (by simp)]; rfl
                    | 2, hu => simp at hu; subst hu; rw [World.cell?_alloc_at _ _ _ _ (by simp)]; rfl
                  case c2 =>
                    intro u hu
                    simp at hu
                    rcases hu with rfl | rfl | rfl <;> rfl
                  case c3 => unfold maxLen; omega
                  case c4 => omega
                  case c5 => have := B1.size; simp; omega
                  · intro v' w3 hown' hgrow _
                    have RR := rel_val o3 B3 (by have := B3.size; omega) hown' hgrow
                    clear hown' hgrow o3
                    go_wp2
                    go_roundg (s.size + 2 - ((i + 1)))
                    case measure => omega
                    case rel => exact ⟨row ++ [(t, n, x)], true, false, (i + 1), (i + 1), rfl, rfl, by go_num, by go_num, by omega, by omega, RR.1, RR.2, HI2⟩
              · exact absurd hk k2
              · subst hk
                cases full
                · have hd : True := trivial
                  have HI2 : Hid (RfInv s (R, E) (row ++ [(t, n, x)]) true false (i + 1) (i + 1)) := by
                    have hr := HR2.out
                    rw [if_neg (by decide), rfNext, if_pos rfl, HQ.out] at hr
                    exact ⟨fun _ => ⟨Nat.le_refl _, ⟨g, by omega, hr⟩, by simp⟩, fun h => by omega, by rw [List.length_append, List.length_singleton]; omega, Nat.le_refl _⟩
                  clear HR2 HKE
                  go_wp2_with (at_builtin; refine wpList_append_own _ rfl _ _ 44 rfl w.heap.size 23 i0 (.agg #[.int .i64 0, .int .i64 0, .string ⟨#[]⟩]) 3 32 Tryz.underlying44 hi hz0 hz1 hz2 rfl (by decide) _ _ _ rfl (o3.alloc _) ⟨w1.heap.size + 1, 0, none⟩ 1 1 [.int .i64 t, .int .i64 n, .string x] rfl rfl ?c1 ?c2 ?c3 ?c4 ?c5 ?_)
                  case c1 =>
                    intro i u hu
                    rw [Go.WideShapes.add_plain]
                    match i, hu with
                    | 0, hu => simp at hu; subst hu; rw [World.cell?_alloc_at _ _ _ _ (by simp)]; rfl
                    | 1, hu => simp at hu; subst hu; rw [World.cell?_alloc_at _ _ _ _ (by simp)]; rfl
                    | 2, hu => simp at hu; subst hu; rw [World.cell?_alloc_at _ _ _ _ (by simp)]; rfl
                  case c2 =>
                    intro u hu
                    simp at hu
                    rcases hu with rfl | rfl | rfl <;> rfl
                  case c3 => unfold maxLen; omega
                  case c4 => omega
                  case c5 => have := B1.size; simp; omega
                  · intro v' w3 hown' hgrow _
                    have RR := rel_val o3 B3 (by have := B3.size; omega) hown' hgrow
                    clear hown' hgrow o3
                    go_wp2
                    go_roundg (s.size + 2 - ((i + 1)))
                    case measure => omega
                    case rel => exact ⟨row ++ [(t, n, x)], true, false, (i + 1), (i + 1), rfl, rfl, by go_num, by go_num, by omega, by omega, RR.1, RR.2, HI2⟩
                · have hd : True := trivial
                  have HI2 : Hid (RfInv s (R, E) (row ++ [(t, n, x)]) true false (i + 1) (i + 1)) := by
                    have hr := HR2.out
                    rw [if_neg (by decide), rfNext, if_pos rfl, HQ.out] at hr
                    exact ⟨fun _ => ⟨Nat.le_refl _, ⟨g, by omega, hr⟩, by simp⟩, fun h => by omega, by rw [List.length_append, List.length_singleton]; omega, Nat.le_refl _⟩
                  clear HR2 HKE
                  go_wp2_with (at_builtin; refine wpList_append_own _ rfl _ _ 44 rfl w.heap.size 23 i0 (.agg #[.int .i64 0, .int .i64 0, .string ⟨#[]⟩]) 3 32 Tryz.underlying44 hi hz0 hz1 hz2 rfl (by decide) _ _ _ rfl (o3.alloc _) ⟨w1.heap.size + 1, 0, none⟩ 1 1 [.int .i64 t, .int .i64 n, .string x] rfl rfl ?c1 ?c2 ?c3 ?c4 ?c5 ?_)
                  case c1 =>
                    intro i u hu
                    rw [Go.WideShapes.add_plain]
                    match i, hu with
                    | 0, hu => simp at hu; subst hu; rw [World.cell?_alloc_at _ _ _ _ (by simp)]; rfl
                    | 1, hu => simp at hu; subst hu; rw [World.cell?_alloc_at _ _ _ _ (by simp)]; rfl
                    | 2, hu => simp at hu; subst hu; rw [World.cell?_alloc_at _ _ _ _ (by simp)]; rfl
                  case c2 =>
                    intro u hu
                    simp at hu
                    rcases hu with rfl | rfl | rfl <;> rfl
                  case c3 => unfold maxLen; omega
                  case c4 => omega
                  case c5 => have := B1.size; simp; omega
                  · intro v' w3 hown' hgrow _
                    have RR := rel_val o3 B3 (by have := B3.size; omega) hown' hgrow
                    clear hown' hgrow o3
                    go_wp2
                    go_roundg (s.size + 2 - ((i + 1)))
                    case measure => omega
                    case rel => exact ⟨row ++ [(t, n, x)], true, false, (i + 1), (i + 1), rfl, rfl, by go_num, by go_num, by omega, by omega, RR.1, RR.2, HI2⟩
          · have HI2 : Hid (RfInv s (R, E) row full true frm (i + 1)) := by
              have := HI.out.step hlt (fun e => absurd e.2 (by decide))
              rwa [if_neg h39] at this
            clear HI h39 h44
            go_wp2
            go_roundg (s.size + 2 - (i + 1))
            case measure => omega
            case rel => exact ⟨row, full, true, frm, i + 1, rfl, rfl, rfl, by go_num, by omega, by omega, hown, BW, HI2⟩
        · have hc4 : ((s[i].toNat : Int) != 44) = true := by
            rw [bne_iff_ne]; exact fun e => h44 (UInt8.toNat_inj.1 (by simpa using (by omega : s[i].toNat = 44)))
          have HI2 : Hid (RfInv s (R, E) row full inb frm (i + 1)) := by
            have := HI.out.step hlt (fun e => h44 e.1)
            rwa [if_neg h39] at this
          clear HI h39 h44
          go_wp2
          go_roundg (s.size + 2 - (i + 1))
          case measure => omega
          case rel => exact ⟨row, full, inb, frm, i + 1, rfl, rfl, rfl, by go_num, by omega, by omega, hown, BW, HI2⟩
    · have hltz : ¬ (i : Int) < (s.size : Int) := by omega
      by_cases hie : i = s.size
      · have hlez : (i : Int) ≤ (s.size : Int) := by omega
        obtain ⟨k1, k2, k3⟩ := HI.out.on (by omega)
        have hfew := HI.out.few
        rw [List.drop_eq_nil_of_le (show s.data.toList.length ≤ i by simp; omega), cutPos, Option.map_none] at k3
        obtain ⟨P, hP1, hP2, hP3⟩ := slice_part s frm i k1 (by omega)
        have HCut : Hid (cutV (s.data.toList.drop frm) = (P.data.toList, (⟨#[]⟩ : ByteArray).data.toList, false)) := cut_at_none k3 (by rw [hP2, hie])
        obtain ⟨f, hf, k2⟩ := k2
        obtain ⟨g, rfl⟩ : ∃ g, f = g + 1 := ⟨f - 1, by omega⟩
        have HK2 : Hid ((R, E) = rfGo (g + 1) (s.data.toList.drop frm) row full) := k2
        have hge1 : s.size ≤ i := by omega
        clear k2 k3 HI hP2 hie
        go_wp2_with fail
        refine (refRead_gen P _ (by omega)).mono ?_
        rintro e w1 ⟨⟨t, n, x, k, rfl, HV, HKE⟩, b1⟩
        have B1 := BW.out.trans (b1.mono BW.out.size)
        have o3 := (own_below hown b1).alloc (.cells #[.int .i64 t, .int .i64 n, .string x] 23)
        have B3 := B1.alloc B1.size (.cells #[.int .i64 t, .int .i64 n, .string x] 23)
        have HR2 : Hid ((R, E) = if k = 2 then ([], 2) else rfNext g (⟨#[]⟩ : ByteArray).data.toList false (row ++ [(t, n, x)]) (full || k != 0)) := HK2.out.trans (rf_step HCut.out HV.out)
        clear b1 hown HCut HK2 HV
        by_cases k2 : k = 2
        · subst k2
          have he : (R, E) = ([], 2) := by rw [HR2.out, if_pos rfl]
          obtain ⟨rfl, rfl⟩ := Prod.mk.inj he
          clear he HR2
          go_wp2
          go_ret2
          exact ⟨⟨_, rfl, World.ownsRow_nil _ _ _ _⟩, B3⟩
        · have k2b : (k == 2) = false := by simpa using k2
          rcases HKE.out with hk | hk | hk
          · subst hk
            cases full
            · have hd : True := trivial
              have HI2 : Hid (RfInv s (R, E) (row ++ [(t, n, x)]) false inb (i + 1) (i + 1)) := by
                have hr := HR2.out
                rw [if_neg (by decide), rfNext, if_neg (by decide)] at hr
                exact ⟨fun h => by omega, fun _ => hr, by rw [List.length_append, List.length_singleton]; omega, Nat.le_refl _⟩
              clear HR2 HKE
              go_wp2_with (at_builtin; refine wpList_append_own _ rfl _ _ 44 rfl w.heap.size 23 i0 (.agg #[.int .i64 0, .int .i64 0, .string ⟨#[]⟩]) 3 32 Tryz.underlying44 hi hz0 hz1 hz2 rfl (by decide) _ _ _ rfl (o3.alloc _) ⟨w1.heap.size + 1, 0, none⟩ 1 1 [.int .i64 t, .int .i64 n, .string x] rfl rfl ?c1 ?c2 ?c3 ?c4 ?c5 ?_)
              case c1 =>
                intro i u hu
                rw [Go.WideShapes.add_plain]
                match i, hu with
                | 0, hu => simp at hu; subst hu; rw [World.cell?_alloc_at _ _ _ _ (by simp)]; rfl
                | 1, hu => simp at hu; subst hu; rw [World.cell?_alloc_at _ _ _ _ (by simp)]; rfl
                | 2, hu => simp at hu; subst hu; rw [World.cell?_alloc_at _ _ _ _ (by simp)]; rfl
              case c2 =>
                intro u hu
                simp at hu
                rcases hu with rfl | rfl | rfl <;> rfl
              case c3 => unfold maxLen; omega
              case c4 => omega
              case c5 => have := B1.size; simp; omega
              · intro v' w3 hown' hgrow _
                have RR := rel_val o3 B3 (by have := B3.size; omega) hown' hgrow
                clear hown' hgrow o3
                go_wp2
                go_roundg (s.size + 2 - ((i + 1)))
                case measure => omega
                case rel => exact ⟨row ++ [(t, n, x)], false, inb, (i + 1), (i + 1), rfl, rfl, by go_num, by go_num, by omega, by omega, RR.1, RR.2, HI2⟩
            · have hd : True := trivial
              have HI2 : Hid (RfInv s (R, E) (row ++ [(t, n, x)]) true inb (i + 1) (i + 1)) := by
                have hr := HR2.out
                rw [if_neg (by decide), rfNext, if_neg (by decide)] at hr
                exact ⟨fun h => by omega, fun _ => hr, by rw [List.length_append, List.length_singleton]; omega, Nat.le_refl _⟩
              clear HR2 HKE
              go_wp2_with (at_builtin; refine wpList_append_own _ rfl _ _ 44 rfl w.heap.size 23 i0 (.agg #[.int .i64 0, .int .i64 0, .string ⟨#[]⟩]) 3 32 Tryz.underlying44 hi hz0 hz1 hz2 rfl (by decide) _ _ _ rfl (o3.alloc _) ⟨w1.heap.size + 1, 0, none⟩ 1 1 [.int .i64 t, .int .i64 n, .string x] rfl rfl ?c1 ?c2 ?c3 ?c4 ?c5 ?_)
              case c1 =>
                intro i u hu
                rw [Go.WideShapes.add_plain]
                match i, hu with
                | 0, hu => simp at hu; subst hu; rw [World.cell?_alloc_at _ _ _ _ (by simp)]; rfl
                | 1, hu => simp at hu; subst hu; rw [World.cell?_alloc_at _ _ _ _ (by simp)]; rfl
                | 2, hu => simp at hu; subst hu; rw [World.cell?_alloc_at _ _ _ _ (by simp)]; rfl
              case c2 =>
                intro u hu
                simp at hu
                rcases hu with rfl | rfl | rfl <;> rfl
              case c3 => unfold maxLen; omega
              case c4 => omega
              case c5 => have := B1.size; simp; omega
              · intro v' w3 hown' hgrow _
                have RR := rel_val o3 B3 (by have := B3.size; omega) hown' hgrow
                clear hown' hgrow o3
                go_wp2
                go_roundg (s.size + 2 - ((i + 1)))
                case measure => omega
                case rel => exact ⟨row ++ [(t, n, x)], true, inb, (i + 1), (i + 1), rfl, rfl, by go_num, by go_num, by omega, by omega, RR.1, RR.2, HI2⟩
          · exact absurd hk k2
          · subst hk
            cases full
            · have hd : True := trivial
              have HI2 : Hid (RfInv s (R, E) (row ++ [(t, n, x)]) true inb (i + 1) (i + 1)) := by
                have hr := HR2.out
                rw [if_neg (by decide), rfNext, if_neg (by decide)] at hr
                exact ⟨fun h => by omega, fun _ => hr, by rw [List.length_append, List.length_singleton]; omega, Nat.le_refl _⟩
              clear HR2 HKE
              go_wp2_with (at_builtin; refine wpList_append_own _ rfl _ _ 44 rfl w.heap.size 23 i0 (.agg #[.int .i64 0, .int .i64 0, .string ⟨#[]⟩]) 3 32 Tryz.underlying44 hi hz0 hz1 hz2 rfl (by decide) _ _ _ rfl (o3.alloc _) ⟨w1.heap.size + 1, 0, none⟩ 1 1 [.int .i64 t, .int .i64 n, .string x] rfl rfl ?c1 ?c2 ?c3 ?c4 ?c5 ?_)
              case c1 =>
                intro i u hu
                rw [Go.WideShapes.add_plain]
                match i, hu with
                | 0, hu => simp at hu; subst hu; rw [World.cell?_alloc_at _ _ _ _ (by simp)]; rfl
                | 1, hu => simp at hu; subst hu; rw [World.cell?_alloc_at _ _ _ _ (by simp)]; rfl
                | 2, hu => simp at hu; subst hu; rw [World.cell?_alloc_at _ _ _ _ (by simp)]; rfl
              case c2 =>
                intro u hu
                simp at hu
                rcases hu with rfl | rfl | rfl <;> rfl
              case c3 => unfold maxLen; omega
              case c4 => omega
              case c5 => have := B1.size; simp; omega
              · intro v' w3 hown' hgrow _
                have RR := rel_val o3 B3 (by have := B3.size; omega) hown' hgrow
                clear hown' hgrow o3
                go_wp2
                go_roundg (s.size + 2 - ((i + 1)))
                case measure => omega
                case rel => exact ⟨row ++ [(t, n, x)], true, inb, (i + 1), (i + 1), rfl, rfl, by go_num, by go_num, by omega, by omega, RR.1, RR.2, HI2⟩
            · have hd : True := trivial
              have HI2 : Hid (RfInv s (R, E) (row ++ [(t, n, x)]) true inb (i + 1) (i + 1)) := by
                have hr := HR2.out
                rw [if_neg (by decide), rfNext, if_neg (by decide)] at hr
                exact ⟨fun h => by omega, fun _ => hr, by rw [List.length_append, List.length_singleton]; omega, Nat.le_refl _⟩
              clear HR2 HKE
              go_wp2_with (at_builtin; refine wpList_append_own _ rfl _ _ 44 rfl w.heap.size 23 i0 (.agg #[.int .i64 0, .int .i64 0, .string ⟨#[]⟩]) 3 32 Tryz.underlying44 hi hz0 hz1 hz2 rfl (by decide) _ _ _ rfl (o3.alloc _) ⟨w1.heap.size + 1, 0, none⟩ 1 1 [.int .i64 t, .int .i64 n, .string x] rfl rfl ?c1 ?c2 ?c3 ?c4 ?c5 ?_)
              case c1 =>
                intro i u hu
                rw [Go.WideShapes.add_plain]
                match i, hu with
                | 0, hu => simp at hu; subst hu; rw [World.cell?_alloc_at _ _ _ _ (by simp)]; rfl
                | 1, hu => simp at hu; subst hu; rw [World.cell?_alloc_at _ _ _ _ (by simp)]; rfl
                | 2, hu => simp at hu; subst hu; rw [World.cell?_alloc_at _ _ _ _ (by simp)]; rfl
              case c2 =>
                intro u hu
                simp at hu
                rcases hu with rfl | rfl | rfl <;> rfl
              case c3 => unfold maxLen; omega
              case c4 => omega
              case c5 => have := B1.size; simp; omega
              · intro v' w3 hown' hgrow _
                have RR := rel_val o3 B3 (by have := B3.size; omega) hown' hgrow
                clear hown' hgrow o3
                go_wp2
                go_roundg (s.size + 2 - ((i + 1)))
                case measure => omega
                case rel => exact ⟨row ++ [(t, n, x)], true, inb, (i + 1), (i + 1), rfl, rfl, by go_num, by go_num, by omega, by omega, RR.1, RR.2, HI2⟩
      · have hlez : ¬ (i : Int) ≤ (s.size : Int) := by omega
        have hr : (R, E) = rfEnd row full := HI.out.off (by omega)
        clear HI
        cases full
        · by_cases h6 : 6 < row.length
          · have h6z : (6 : Int) < (row.length : Int) := by omega
            have he : (R, E) = ([], 4) := by rw [hr, rfEnd, if_pos (by simpa using h6)]
            obtain ⟨rfl, rfl⟩ := Prod.mk.inj he
            clear he hr h6
            go_wp2
            go_ret2
            exact ⟨⟨_, rfl, World.ownsRow_nil _ _ _ _⟩, BW.out⟩
          · have h6z : ¬ (6 : Int) < (row.length : Int) := by omega
            have he : (R, E) = (row, 0) := by rw [hr, rfEnd, if_neg (by simpa using h6)]
            obtain ⟨rfl, rfl⟩ := Prod.mk.inj he
            clear he hr h6
            go_wp2
            go_ret2
            exact ⟨⟨_, rfl, hown⟩, BW.out⟩
        · have he : (R, E) = ([], 4) := by rw [hr, rfEnd]; simp
          obtain ⟨rfl, rfl⟩ := Prod.mk.inj he
          clear he hr
          go_wp2
          go_ret2
          exact ⟨⟨_, rfl, World.ownsRow_nil _ _ _ _⟩, BW.out⟩
theorem readRow_any (s : ByteArray) (w : World) (hs : s.size ≤ 1099511627776) :
    Calls Tryz.prog 23 #[.string s] w fun e w' => (∃ v, e = .returned (.tuple #[v, .int .i64 (rdRow s).2]) ∧ IsVals w' v (rdRow s).1) ∧ Below w.heap.size w w' := by
  rw [rdRow]
  by_cases h : s.data.toList = []
  · rw [if_pos h]
    have hs0 : s = ⟨#[]⟩ := of_list h
    subst hs0
    exact (readRow_empty w).mono fun e w' hh => ⟨⟨_, hh.1, own_vals (World.ownsRow_nil _ w.heap.size _ _)⟩, by rw [hh.2]; exact Below.refl _ _⟩
  · rw [if_neg h, ← rf_rd (s.size + 1) s.data.toList [] false [] false (by simp) (fun h => by simp at h) (fun _ => ⟨rfl, rfl⟩)]
    exact (readRow_loop s w hs h).mono fun e w' ⟨⟨v, he, ho⟩, hb⟩ => ⟨⟨v, he, own_vals ho⟩, hb⟩
end Go.Proofs.YtggabncpedcmdaaGreatDoor
