/-
  What Parse of package row says of any text.
-/
import Derived.Test.YtggabncpedcmdaaGreatDoorRowCut
import Derived.Test.YtggabncpedcmdaaGreatDoorRowPrint
import Derived.Test.YtggabncpedcmdaaGreatDoorParse
import Derived.Test.YtggabncpedcmdaaGreatDoorErrIs
namespace Go.Proofs.YtggabncpedcmdaaGreatDoor
open Go.RowKit
set_option linter.unusedVariables false

/-- The values of a text, part by part: those that were read, and whether there is too much. -/
def rdGo : Nat → List UInt8 → List (Int × Int × ByteArray) → Bool → List (Int × Int × ByteArray) × Int
  | 0, _, _, _ => ([], 0)
  | f + 1, l, row, full =>
    if (readV ⟨(cutV l).1.toArray⟩).2.2.2 ≠ 0 ∧ (readV ⟨(cutV l).1.toArray⟩).2.2.2 ≠ 4 then ([], (readV ⟨(cutV l).1.toArray⟩).2.2.2)
    else
      if (cutV l).2.2 = true then
        rdGo f (cutV l).2.1 (if (full || ((readV ⟨(cutV l).1.toArray⟩).2.2.2 != 0 || row.length == 6)) = true then row else row ++ [((readV ⟨(cutV l).1.toArray⟩).1, (readV ⟨(cutV l).1.toArray⟩).2.1, ⟨(readV ⟨(cutV l).1.toArray⟩).2.2.1.toArray⟩)]) (full || ((readV ⟨(cutV l).1.toArray⟩).2.2.2 != 0 || row.length == 6))
      else
        if (full || ((readV ⟨(cutV l).1.toArray⟩).2.2.2 != 0 || row.length == 6)) = true then ([], 4) else (row ++ [((readV ⟨(cutV l).1.toArray⟩).1, (readV ⟨(cutV l).1.toArray⟩).2.1, ⟨(readV ⟨(cutV l).1.toArray⟩).2.2.1.toArray⟩)], 0)
def rdNext (f : Nat) (l : List UInt8) (m : Bool) (row : List (Int × Int × ByteArray)) (full : Bool) : List (Int × Int × ByteArray) × Int :=
  if m = true then rdGo f l row full else if full = true then ([], 4) else (row, 0)
def rdRow (s : ByteArray) : List (Int × Int × ByteArray) × Int := if s.data.toList = [] then ([], 0) else rdGo (s.size + 1) s.data.toList [] false

theorem rd_step {f : Nat} {l : List UInt8} {row : List (Int × Int × ByteArray)} {full : Bool} {P r : ByteArray} {m : Bool} {t n : Int} {x : ByteArray} {e : Int} (hc : cutV l = (P.data.toList, r.data.toList, m)) (hr : readV P = (t, n, x.data.toList, e)) :
    rdGo (f + 1) l row full = if e ≠ 0 ∧ e ≠ 4 then ([], e) else rdNext f r.data.toList m (if (full || (e != 0 || row.length == 6)) = true then row else row ++ [(t, n, x)]) (full || (e != 0 || row.length == 6)) := by
  have hP : (⟨P.data.toList.toArray⟩ : ByteArray) = P := by simp
  have hx : (⟨x.data.toList.toArray⟩ : ByteArray) = x := by simp
  rw [rdGo, hc]
  simp only [hP, hr, hx, rdNext]
  by_cases h1 : e ≠ 0 ∧ e ≠ 4
  · rw [if_pos h1, if_pos h1]
  · rw [if_neg h1, if_neg h1]
    cases m
    · simp only [Bool.false_eq_true, if_false]
      by_cases h2 : (full || (e != 0 || row.length == 6)) = true
      · rw [if_pos h2, if_pos h2]
      · rw [if_neg h2, if_neg h2, if_neg h2]
    · simp
theorem size_of (l : List UInt8) : (⟨l.toArray⟩ : ByteArray).size = l.length := by rw [Lib.size_eq]
theorem cutValue_any (s : ByteArray) (w : World) (hs : s.size ≤ maxLen) :
    Calls Tryz.prog 57 #[.string s] w fun e w' => (∃ (P r : ByteArray) (m : Bool), e = .returned (.tuple #[.string P, .string r, .bool m]) ∧ Hid (cutV s.data.toList = (P.data.toList, r.data.toList, m)) ∧ P.size ≤ s.size ∧ r.size ≤ s.size ∧ Hid (m = true → r.size < s.size)) ∧ Below w.heap.size w w' := by
  have hl : s.data.toList.length = s.size := by simp
  cases h : cutPos false s.data.toList with
  | none =>
    refine (cutValue_none s w h).mono fun e w' hh => ⟨⟨s, ⟨#[]⟩, false, hh.1, ?_, Nat.le_refl _, Nat.zero_le _, (show Hid _ from fun e => by cases e)⟩, hh.2⟩
    show _ = _
    rw [cutV, h]
  | some k =>
    have hk := cutPos_lt h
    refine (cutValue_some s k w hs h).mono fun e w' hh => ⟨⟨_, _, true, hh.1, ?_, ?_, ?_, (show Hid _ from fun _ => ?_)⟩, hh.2⟩
    · show _ = _
      rw [cutV, h]
    · rw [size_of, List.length_take]; omega
    · rw [size_of, List.length_drop]; omega
    · rw [size_of, List.length_drop]; omega
theorem parse_gen2 (s : ByteArray) (w : World) (hs : s.size ≤ 140737488355328) (henv : Env w) :
    Calls Tryz.prog 14 #[.string s] w fun e w' => (∃ (t n : Int) (x : ByteArray) (k : Int), e = .returned (.tuple #[.agg #[.int .i64 t, .int .i64 n, .string x], errV k]) ∧ Hid (readV s = (t, n, x.data.toList, k))) ∧ Below w.heap.size w w' :=
  (parse_any s w hs henv).mono fun e w' hh => ⟨⟨_, _, ⟨(readV s).2.2.1.toArray⟩, _, hh.1, (show Hid _ by simp [Hid])⟩, hh.2⟩
theorem info_val : (Tryz.prog.info? 23).map (fun i => (i.zero, i.size, i.bytes)) = some (some (.agg #[.int .i64 0, .int .i64 0, .string ⟨#[]⟩]), 3, 32) := by kernel_rfl
def valCells (rs : List (Int × Int × ByteArray)) : List Value := rs.flatMap fun r => [.int .i64 r.1, .int .i64 r.2.1, .string r.2.2]
theorem rel_val {B : Nat} {l : List (Int × Int × ByteArray)} {t n : Int} {x : ByteArray} {w wr w1 : World} {v v' : Value} {o : Obj} (hown : wr.ownsRow B 23 3 v l.length (valCells l)) (hnx : Below B w wr) (hB : B ≤ wr.heap.size)
    (hown' : w1.ownsRow B 23 3 v' (l.length + 1) (valCells l ++ [.int .i64 t, .int .i64 n, .string x])) (hgrow : (wr.alloc o).grownBy w1 v.ownBlock) :
    w1.ownsRow B 23 3 v' (l ++ [(t, n, x)]).length (valCells (l ++ [(t, n, x)])) ∧ Below B w w1 :=
  ⟨by rw [List.length_append]; simpa [valCells] using hown', (hnx.alloc hB o).grown hgrow (by simp; omega) (fun j hj => (hown.lt j hj).1)⟩
theorem own_slice {W : World} {base : Nat} {e : TypeId} {size : Nat} {v : Value} {n : Nat} {xs : List Value} (h : W.ownsRow base e size v n xs) : ∃ p c, v = .slice p n c := by
  rcases h.2 with ⟨rfl, rfl⟩ | ⟨g, cap, cur, rfl, _⟩
  · exact ⟨_, _, rfl⟩
  · exact ⟨_, _, rfl⟩
theorem rparse_empty (w : World) :
    Calls Tryz.prog 24 #[.string ⟨#[]⟩] w fun e w' => e = .returned (.tuple #[.slice none 0 0, errV 0]) ∧ w' = w := by
  go_enter Tryz.func24, Tryz.ntmps24
  go_wp2
  go_ret2
  exact ⟨rfl, rfl⟩
set_option maxHeartbeats 8000000 in
set_option maxRecDepth 20000 in
theorem rparse_loop (s : ByteArray) (w : World) (hs : s.size ≤ 140737488355328) (hne : s.data.toList ≠ []) (henv : Env w) :
    Calls Tryz.prog 24 #[.string s] w fun e w' => (∃ v, e = .returned (.tuple #[v, errV (rdGo (s.size + 1) s.data.toList [] false).2]) ∧ w'.ownsRow w.heap.size 23 3 v (rdGo (s.size + 1) s.data.toList [] false).1.length (valCells (rdGo (s.size + 1) s.data.toList [] false).1)) ∧ Below w.heap.size w w' := by
  obtain ⟨R, E, hR⟩ : ∃ R E, rdGo (s.size + 1) s.data.toList [] false = (R, E) := ⟨_, _, rfl⟩
  rw [hR]
  simp only
  obtain ⟨i0, hi, hz0, hz1, hz2⟩ := info_parts info_val
  have hem : s.toList.isEmpty = false := by
    rw [Lib.toList_data]; cases h : s.data.toList with
    | nil => exact absurd h hne
    | cons a l => rfl
  clear hne
  go_enter Tryz.func24, Tryz.ntmps24
  go_wp2
  go_loopg [4, 5, 6, 7, 8, 9, 10] (s.size + 1) (fun gg s4 s5 s6 s7 _ _ _ wr => ∃ (row : List (Int × Int × ByteArray)) (full : Bool) (rest : ByteArray) (more : Bool), s5 = .bool full ∧ s6 = .string rest ∧ s7 = .bool more ∧ wr.ownsRow w.heap.size 23 3 s4 row.length (valCells row) ∧ Aside (Below w.heap.size w wr) ∧ Hid ((R, E) = rdNext gg rest.data.toList more row full) ∧ Hid (more = true → rest.size + 1 ≤ gg) ∧ Hid (row.length ≤ 6) ∧ rest.size ≤ 140737488355328)
  case atStart => exact ⟨[], false, s, true, rfl, rfl, rfl, World.ownsRow_nil _ _ _ _, Below.refl _ w, (show Hid _ by simp [Hid, rdNext, hR]), (show Hid _ from fun _ => Nat.le_refl _), (show Hid _ by simp [Hid]), hs⟩
  case round =>
    obtain ⟨row, full, rest, more, rfl, rfl, rfl, hown, BW, HR, HG, HL, hrs⟩ := hrel
    obtain ⟨vp, vc, rfl⟩ := own_slice hown
    cases more
    · cases full
      · have HF : (R, E) = (row, 0) := HR.out
        obtain ⟨rfl, rfl⟩ := Prod.mk.inj HF
        clear HF HR HG HL hR
        go_wp2
        go_ret2
        exact ⟨⟨_, rfl, hown⟩, BW.out⟩
      · have HF : (R, E) = ([], 4) := HR.out
        obtain ⟨rfl, rfl⟩ := Prod.mk.inj HF
        clear HF HR HG HL hR
        go_wp2
        go_ret2
        exact ⟨⟨_, rfl, World.ownsRow_nil _ _ _ _⟩, BW.out⟩
    · obtain ⟨g', rfl⟩ : ∃ g', gk = g' + 1 := ⟨gk - 1, by have := HG.out rfl; omega⟩
      have HR1 : Hid ((R, E) = rdGo (g' + 1) rest.data.toList row full) := HR.out
      have HG1 : Hid (rest.size + 1 ≤ g' + 1) := HG.out rfl
      clear HR HG
      go_wp2_with fail
      refine (cutValue_any rest _ (by unfold maxLen; omega)).mono ?_
      rintro e w1 ⟨⟨P, rr, m, rfl, HC, hPs, hrr, HM⟩, b1⟩
      have B1 := BW.out.trans (b1.mono BW.out.size)
      have o1 := own_below hown b1
      clear b1 hown
      go_wp2_with fail
      refine (parse_gen2 P _ (by omega) (henv.on B1)).mono ?_
      rintro e w2 ⟨⟨t, n, x, k, rfl, HV⟩, b2⟩
      have B2 := B1.trans (b2.mono B1.size)
      have o2 := own_below o1 b2
      have o3 := o2.alloc (.cells #[.int .i64 t, .int .i64 n, .string x] 23)
      have B3 := B2.alloc B2.size (.cells #[.int .i64 t, .int .i64 n, .string x] 23)
      clear b2 o1 B1
      have HR2 : Hid ((R, E) = if k ≠ 0 ∧ k ≠ 4 then ([], k) else rdNext g' rr.data.toList m (if (full || (k != 0 || row.length == 6)) = true then row else row ++ [(t, n, x)]) (full || (k != 0 || row.length == 6))) := HR1.out.trans (rd_step HC.out HV.out)
      have HG2 : Hid (m = true → rr.size + 1 ≤ g') := fun hm => by have := HM.out hm; have := HG1.out; omega
      have hr2 : rr.size ≤ 140737488355328 := by omega
      clear HR1 HC HV HM HG1 hrs hPs hrr hR
      by_cases k0 : k = 0
      · subst k0
        rw [show errV 0 = .nilIface from rfl]
        cases full
        · by_cases h6 : row.length = 6
          · have h6z : ((row.length : Int) == 6) = true := by rw [beq_iff_eq]; omega
            have HR3 : Hid ((R, E) = rdNext g' rr.data.toList m row true) := by
              show _ = _
              have := HR2.out
              rw [if_neg (by simp)] at this
              simpa [h6] using this
            clear HR2 h6 o2
            go_wp2
            go_roundg g'
            case measure => omega
            case rel => exact ⟨row, true, rr, m, rfl, rfl, rfl, o3, B3, HR3, HG2, HL, hr2⟩
          · have h6z : ((row.length : Int) == 6) = false := by rw [beq_eq_false_iff_ne]; omega
            have h6b : (row.length == 6) = false := by simpa using h6
            have HR3 : Hid ((R, E) = rdNext g' rr.data.toList m (row ++ [(t, n, x)]) false) := by
              show _ = _
              have := HR2.out
              rw [if_neg (by simp)] at this
              simpa [h6b] using this
            have HL2 : Hid ((row ++ [(t, n, x)]).length ≤ 6) := by
              show _ ≤ _
              have := HL.out
              rw [List.length_append, List.length_singleton]; omega
            clear HR2 h6 h6b o2
            go_wp2_with (at_builtin; refine wpList_append_own _ rfl _ _ 44 rfl w.heap.size 23 i0 (.agg #[.int .i64 0, .int .i64 0, .string ⟨#[]⟩]) 3 32 Tryz.underlying44 hi hz0 hz1 hz2 rfl (by decide) _ _ _ rfl (o3.alloc _) ⟨w2.heap.size + 1, 0, none⟩ 1 1 [.int .i64 t, .int .i64 n, .string x] rfl rfl ?c1 ?c2 ?c3 ?c4 ?c5 ?_)
            case c1 =>
              intro i u hu
              rw [Go.WideShapes.add_plain]
              match i, hu with
              | 0, hu => simp at hu; subst hu; rw [World.cell?_alloc_at _ _ _ _ (by simp)]; rfl
              | 1, hu => simp at hu; subst hu; rw [World.cell?_alloc_at _ _ _ _ (by simp)]; rfl
              | 2, hu => simp at hu; subst hu; rw [World.cell?_alloc_at _ _ _ _ (by simp)]; rfl
            case c2 =>
              intro u hu
              simp at hu
              rcases hu with rfl | rfl | rfl <;> rfl
            case c3 => have := HL.out; unfold maxLen; omega
            case c4 => have := HL.out; omega
            case c5 => have := B2.size; simp; omega
            · intro v' w3 hown' hgrow _
              have RR := rel_val o3 B3 (by have := B3.size; omega) hown' hgrow
              clear hown' hgrow o3
              go_wp2
              go_roundg g'
              case measure => omega
              case rel => exact ⟨row ++ [(t, n, x)], false, rr, m, rfl, rfl, rfl, RR.1, RR.2, HR3, HG2, HL2, hr2⟩
        · have HR3 : Hid ((R, E) = rdNext g' rr.data.toList m row true) := by
            show _ = _
            have := HR2.out
            rw [if_neg (by simp)] at this
            simpa using this
          clear HR2 o2
          go_wp2
          go_roundg g'
          case measure => omega
          case rel => exact ⟨row, true, rr, m, rfl, rfl, rfl, o3, B3, HR3, HG2, HL, hr2⟩
      · by_cases k4 : k = 4
        · subst k4
          rw [show errV 4 = .iface 69 (.int .i64 4) from rfl]
          have cI := fun W => errorsIs_any 4 4 W
          rw [show ((4 : Int) == 4) = true from rfl] at cI
          have HR3 : Hid ((R, E) = rdNext g' rr.data.toList m row true) := by
            show _ = _
            have := HR2.out
            rw [if_neg (by simp)] at this
            simpa using this
          clear HR2 o2 k0
          cases full
          · go_wp2_with (go_at_call 58; refine (cI _).mono ?_; rintro e W' ⟨rfl, rfl⟩)
            go_roundg g'
            case measure => omega
            case rel => exact ⟨row, true, rr, m, rfl, rfl, rfl, o3, B3, HR3, HG2, HL, hr2⟩
          · go_wp2_with (go_at_call 58; refine (cI _).mono ?_; rintro e W' ⟨rfl, rfl⟩)
            go_roundg g'
            case measure => omega
            case rel => exact ⟨row, true, rr, m, rfl, rfl, rfl, o3, B3, HR3, HG2, HL, hr2⟩
        · have HF : (R, E) = ([], k) := by
            have := HR2.out
            rwa [if_pos ⟨k0, k4⟩] at this
          obtain ⟨rfl, rfl⟩ := Prod.mk.inj HF
          have he : errV E = .iface 69 (.int .i64 E) := by rw [errV, if_neg k0]
          rw [he]
          have HE : Hid (errV E = .iface 69 (.int .i64 E)) := he
          have cI := fun W => errorsIs_any E 4 W
          rw [show (E == 4) = false by simpa using k4] at cI
          clear HF HR2 o2 k0 k4 he
          go_wp2_with (go_at_call 58; refine (cI _).mono ?_; rintro e W' ⟨rfl, rfl⟩)
          go_ret2
          exact ⟨⟨_, by rw [HE.out]; rfl, World.ownsRow_nil _ _ _ _⟩, B3⟩
theorem rparse_any (s : ByteArray) (w : World) (hs : s.size ≤ 140737488355328) (henv : Env w) :
    Calls Tryz.prog 24 #[.string s] w fun e w' => (∃ v, e = .returned (.tuple #[v, errV (rdRow s).2]) ∧ w'.ownsRow w.heap.size 23 3 v (rdRow s).1.length (valCells (rdRow s).1)) ∧ Below w.heap.size w w' := by
  rw [rdRow]
  by_cases h : s.data.toList = []
  · rw [if_pos h]
    have hs0 : s = ⟨#[]⟩ := of_list h
    subst hs0
    exact (rparse_empty w).mono fun e w' hh => ⟨⟨_, hh.1, World.ownsRow_nil _ _ _ _⟩, by rw [hh.2]; exact Below.refl _ _⟩
  · rw [if_neg h]
    exact rparse_loop s w hs h henv
end Go.Proofs.YtggabncpedcmdaaGreatDoor
