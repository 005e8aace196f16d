/-
  Lex5, TreeNw, TreePa, TreeSz, TreeSm, in one text.
-/
import Derived.Test.YtkoejkpjkcejcaaGreatDoorGrAd
import Derived.Test.YtkoejkpjkcejcaaGreatDoorGrAi
import Derived.Test.YtkoejkpjkcejcaaGreatDoorGrAe
import Derived.Deep.RegionWith
import Derived.Test.YtkoejkpjkcejcaaGreatDoorQTreeRB
import Derived.Laws.StructEq
import Derived.WalkSmall
namespace Go.Proofs.YtkoejkpjkcejcaaGreatDoor
open Go.RowKit
set_option linter.unusedVariables false

/-- A slice is no longer than its room. -/
def capOk (v : Value) : Prop := match v with
  | .slice _ n c => n ≤ c
  | _ => True
theorem own_cap {W : World} {base : Nat} {e : TypeId} {size : Nat} {v : Value} {n : Nat} {xs : List Value} (h : W.ownsRow base e size v n xs) : capOk v := by
  rcases h.2 with ⟨rfl, h0⟩ | ⟨g, cap, cur, rfl, _, _, hcap, _⟩
  · exact Nat.le_refl _
  · exact hcap
/-- What the result's cell is between the calls. -/
theorem fault_kept {w wr : World} (h : Below (w.heap.size + 1) (w.alloc (.cells #[.int .i64 0, .int .i64 0] 31)) wr) :
    wr.cell? ⟨w.heap.size, 0, none⟩ = some (.int .i64 0) ∧ wr.cell? ⟨w.heap.size, 1, none⟩ = some (.int .i64 0) ∧ wr.frozen? ⟨w.heap.size, 0, none⟩ = false ∧ wr.frozen? ⟨w.heap.size, 1, none⟩ = false ∧ w.heap.size < wr.heap.size := by
  have hz := h.size
  simp at hz
  refine ⟨?_, ?_, ?_, ?_, by omega⟩
  · rw [h.cell (p := ⟨w.heap.size, 0, none⟩) (Nat.lt_succ_self _), World.cell?_alloc_at _ _ _ _ rfl]; rfl
  · rw [h.cell (p := ⟨w.heap.size, 1, none⟩) (Nat.lt_succ_self _), World.cell?_alloc_at _ _ _ _ rfl]; rfl
  · rw [h.frozen (p := ⟨w.heap.size, 0, none⟩) (Nat.lt_succ_self _)]; simp
  · rw [h.frozen (p := ⟨w.heap.size, 1, none⟩) (Nat.lt_succ_self _)]; simp
theorem fault_below {w wr : World} (h : Below (w.heap.size + 1) (w.alloc (.cells #[.int .i64 0, .int .i64 0] 31)) wr) : Below w.heap.size w wr :=
  ((Below.refl _ _).alloc (Nat.le_refl _) _).trans (h.mono (Nat.le_succ _))
set_option maxHeartbeats 1000000 in
theorem tokens_full (s : ByteArray) (w : World) (h : 400 < s.size) :
    Calls Tryz.prog 44 #[.string s] w fun e w' => e = .returned (.tuple #[.slice none 0 0, .agg #[.int .i64 4, .int .i64 0]]) ∧ Below w.heap.size w w' := by
  have hz : (400 : Int) < (s.size : Int) := by omega
  go_enter Tryz.func44, Tryz.ntmps44
  go_wp2
  refine bodyPost_ret (v := .tuple #[.slice none 0 0, .agg #[.int .i64 4, .int .i64 0]]) (by simp [results, Tryz.results44, go_sem]) rfl ⟨rfl, ?_⟩
  exact (Below.refl _ _).alloc (Nat.le_refl _) _
set_option maxHeartbeats 8000000 in
set_option maxRecDepth 20000 in
theorem tokens_loop (s : ByteArray) (w : World) (henv : Env w) (hw : SG w) (h400 : s.size ≤ 400) :
    Calls Tryz.prog 44 #[.string s] w fun e w' => (∃ v, e = .returned (.tuple #[v, .agg #[.int .i64 (lexS (s.size + 1) 0 s.data.toList []).2.1, .int .i64 ((lexS (s.size + 1) 0 s.data.toList []).2.2 : Nat)]]) ∧ IsToks w' v (lexS (s.size + 1) 0 s.data.toList []).1 ∧ capOk v) ∧ Below w.heap.size w w' := by
  obtain ⟨R, E, P, hR⟩ : ∃ R E P, lexS (s.size + 1) 0 s.data.toList [] = (R, E, P) := ⟨_, _, _, rfl⟩
  rw [hR]
  simp only
  obtain ⟨i0, hi, hz0, hz1, hz2⟩ := info_parts info_tok
  have hz : ¬ (400 : Int) < (s.size : Int) := by omega
  have hgo : goN blB s.data.toList ≤ s.size := by have := goN_le blB s.data.toList; simpa using this
  obtain ⟨A0, hA0⟩ : ∃ A, goN blB s.data.toList = A := ⟨_, rfl⟩
  have cB := fun W => goesOn_blank s W (by unfold maxLen; omega)
  have HR0 : Hid ((R, E, P) = lexA (s.size + 1) A0 (s.data.toList.drop A0) []) := by
    show _ = _
    rw [← hR, lexS, hA0, Nat.zero_add]
  rw [hA0] at hgo cB
  clear hR hA0
  go_enter Tryz.func44, Tryz.ntmps44
  go_wp2_with (go_at_call 65; refine (cB _).mono ?_; rintro e w' ⟨rfl, rfl⟩)
  go_loopg [4, 5, 6, 7, 8] (s.size + 1) (fun gg s4 s5 _ _ _ wr => ∃ (a : Nat) (acc : List Tok), s5 = .int .i64 a ∧ a ≤ s.size ∧ s.size - a < gg ∧ wr.ownsRow (w.heap.size + 1) 83 3 s4 acc.length (tokCells acc) ∧ Aside (Below (w.heap.size + 1) (w.alloc (.cells #[.int .i64 0, .int .i64 0] 31)) wr) ∧ Hid ((R, E, P) = lexA gg a (s.data.toList.drop a) acc) ∧ acc.length ≤ a)
  case atStart => exact ⟨A0, [], rfl, hgo, by omega, World.ownsRow_nil _ _ _ _, (show Aside _ from Below.refl _ _), HR0, Nat.zero_le _⟩
  case round =>
    obtain ⟨a, acc, rfl, ha, hg, hown, BW, HR, hacc⟩ := hrel
    obtain ⟨vp, vc, rfl⟩ := lown_slice hown
    obtain ⟨g', rfl⟩ : ∃ g', gk = g' + 1 := ⟨gk - 1, by omega⟩
    clear HR0 cB
    by_cases hlt : a < s.size
    · have hltz : (a : Int) < (s.size : Int) := by omega
      obtain ⟨X, hX, hX1, hX2⟩ := slice_off s a ha
      have hne : s.data.toList.drop a ≠ [] := by rw [drop_cons s a hlt]; simp
      have HX1 : Hid (X.data.toList = s.data.toList.drop a) := hX1
      have BW0 := fault_below BW.out
      have cT := tokenAhead_any X wr (henv.on BW0) (hw.on BW0) (by omega) (by omega)
      clear hX1 BW0
      have HNE : Hid (s.data.toList.drop a ≠ []) := hne
      clear hne
      go_wp2_with fail
      refine cT.mono ?_
      rintro e w1 ⟨⟨k, n, h, rfl, HT⟩, b1⟩
      have B1 := BW.out.trans (b1.mono (by have := BW.out.size; simpa using this))
      have o1 := lown_below hown b1
      clear b1 hown cT BW
      have ht : tokAt (s.data.toList.drop a) = (k, n, h) := by rw [← HX1.out]; exact HT.out
      by_cases h0 : h = 0
      · subst h0
        obtain ⟨hn1, hn2⟩ := tokAt_len ht
        have hn3 : a + n ≤ s.size := by rw [List.length_drop] at hn2; simp at hn2; omega
        obtain ⟨Y, hY, hY1, hY2⟩ := slice_mid s a (a + n) (by omega) hn3
        obtain ⟨Z, hZ, hZ1, hZ2⟩ := slice_off s (a + n) hn3
        have hYz : ∀ W : World, Sem.run Tryz.prog (Instr.slice 9 (.string s) (some (.int .i64 (a : Int))) (some (.int .i64 ((a : Int) + (n : Int)))) none) W = .ok (.string Y) W := by
          have e : ((a + n : Nat) : Int) = (a : Int) + (n : Int) := by omega
          rw [e] at hY; exact hY
        have hZz : ∀ W : World, Sem.run Tryz.prog (Instr.slice 9 (.string s) (some (.int .i64 ((a : Int) + (n : Int)))) none none) W = .ok (.string Z) W := by
          have e : ((a + n : Nat) : Int) = (a : Int) + (n : Int) := by omega
          rw [e] at hZ; exact hZ
        have hYe : Y = ⟨((s.data.toList.drop a).take n).toArray⟩ := eq_of_list (by rw [hY1, show a + n - a = n from by omega])
        have HR2 : Hid ((R, E, P) = lexS g' (a + n) (s.data.toList.drop (a + n)) (acc ++ [(k, Y, a)])) := by
          show _ = _
          rw [HR.out, lexA_tok g' a _ acc HNE.out ht, ← hYe, List.drop_drop]
        have hgz : goN blB Z.data.toList ≤ s.size - (a + n) := by have := goN_le blB Z.data.toList; simp at this; omega
        obtain ⟨G, hG⟩ : ∃ G, goN blB Z.data.toList = G := ⟨_, rfl⟩
        have cB2 := fun W => goesOn_blank Z W (by unfold maxLen; omega)
        rw [hG] at cB2 hgz
        have HR3 : Hid ((R, E, P) = lexA g' (a + n + G) (s.data.toList.drop (a + n + G)) (acc ++ [(k, Y, a)])) := by
          show _ = _
          rw [HR2.out, lexS, ← hZ1, hG, hZ1, List.drop_drop]
        clear HR HR2 hY hZ hY1 hZ1 hYe hG ht HT hn2
        go_wp2_with fail
        refine (clone_any Y _ (by omega)).mono ?_
        rintro e w2 ⟨rfl, b2⟩
        have B2 := B1.trans (b2.mono (by have := B1.size; simpa using this))
        have o2 := lown_below o1 b2
        clear b2 o1 B1
        go_wp2_with (at_builtin; refine wpList_append_own _ rfl _ _ 49 rfl (w.heap.size + 1) 83 i0 (.agg #[.int .i64 0, .string ⟨#[]⟩, .int .i64 0]) 3 32 Tryz.underlying49 hi hz0 hz1 hz2 rfl (by decide) _ _ _ rfl (o2.alloc _) ⟨w2.heap.size, 0, none⟩ 1 1 [.int .i64 k, .string Y, .int .i64 (a : Int)] rfl rfl ?c1 ?c2 ?c3 ?c4 ?c5 ?_)
        case c1 =>
          intro i u hu
          rw [Go.WideShapes.add_plain]
          match i, hu with
          | 0, hu => simp at hu; subst hu; rw [World.cell?_alloc_at _ _ _ _ (by simp)]; rfl
          | 1, hu => simp at hu; subst hu; rw [World.cell?_alloc_at _ _ _ _ (by simp)]; rfl
          | 2, hu => simp at hu; subst hu; rw [World.cell?_alloc_at _ _ _ _ (by simp)]; rfl
        case c2 =>
          intro u hu
          simp at hu
          rcases hu with rfl | rfl | rfl <;> rfl
        case c3 => unfold maxLen; omega
        case c4 => omega
        case c5 => have := B2.size; simp at this ⊢; omega
        · intro v' w3 hown' hgrow _
          have RR := rel_tok o2 B2 (by have := B2.size; simp at this; omega) hown' hgrow
          clear hown' hgrow o2
          go_wp2_with fail
          refine (cB2 _).mono ?_
          rintro e w4 ⟨rfl, hq4⟩
          obtain rfl : w3 = w4 := hq4.symm
          go_wp2
          go_roundg g'
          case measure => omega
          case rel => exact ⟨a + n + G, acc ++ [(k, Y, a)], by go_num, by omega, by omega, RR.1, RR.2, HR3, by rw [List.length_append, List.length_singleton]; omega⟩
      · have hF : (R, E, P) = ([], h, a) := by rw [HR.out, lexA_bad g' a _ acc HNE.out ht h0]
        have he := Prod.mk.inj hF
        obtain ⟨rfl, he⟩ := he
        obtain ⟨rfl, rfl⟩ := Prod.mk.inj he
        have hz0 : (E != 0) = true := by simpa using h0
        obtain ⟨q0, q1, q2, q3, ql⟩ := fault_kept B1
        clear HR ht HT h0 hF he o1
        go_wp2
        refine bodyPost_ret (v := .tuple #[.slice none 0 0, .agg #[.int .i64 E, .int .i64 (P : Nat)]]) (by simp [results, Tryz.results44, go_sem, q0, q1]) rfl ⟨⟨_, rfl, isToks_nil _, Nat.le_refl _⟩, ?_⟩
        exact ((fault_below B1).setCell (Nat.le_refl _) _).setCell (Nat.le_refl _) _
    · have hltz : ¬ (a : Int) < (s.size : Int) := by omega
      have hF : (R, E, P) = (acc, 0, 0) := by
        have h := HR.out
        rw [List.drop_eq_nil_of_le (by simp; omega), lexA_nil] at h
        exact h
      obtain ⟨rfl, he⟩ := Prod.mk.inj hF
      obtain ⟨rfl, rfl⟩ := Prod.mk.inj he
      obtain ⟨q0, q1, q2, q3, ql⟩ := fault_kept BW.out
      clear HR hF he
      go_wp2
      refine bodyPost_ret (v := .tuple #[.slice vp R.length vc, .agg #[.int .i64 0, .int .i64 0]]) (by simp [results, Tryz.results44, go_sem, q0, q1]) rfl ⟨⟨_, rfl, ?_, own_cap hown⟩, ?_⟩
      · exact own_toks (lown_set (lown_set hown 0 (.int .i64 0)) 1 (.int .i64 0))
      · exact ((fault_below BW.out).setCell (Nat.le_refl _) _).setCell (Nat.le_refl _) _
theorem tokens_any (s : ByteArray) (w : World) (henv : Env w) (hw : SG w) :
    Calls Tryz.prog 44 #[.string s] w fun e w' => (∃ v, e = .returned (.tuple #[v, .agg #[.int .i64 (lexAll s.data.toList).2.1, .int .i64 ((lexAll s.data.toList).2.2 : Nat)]]) ∧ IsToks w' v (lexAll s.data.toList).1 ∧ capOk v) ∧ Below w.heap.size w w' := by
  have hl : s.data.toList.length = s.size := by simp
  by_cases h : 400 < s.size
  · rw [lexAll, if_pos (by omega)]
    exact (tokens_full s w h).mono fun e w' hh => ⟨⟨_, hh.1, isToks_nil _, Nat.le_refl _⟩, hh.2⟩
  · rw [lexAll, if_neg (by omega), hl]
    exact tokens_loop s w henv hw (by omega)
/-- The same, the answer under a name. -/
theorem tokens_cap (s : ByteArray) (R : List Tok) (E : Int) (P : Nat) (w : World) (henv : Env w) (hw : SG w) (h : lexAll s.data.toList = (R, E, P)) :
    Calls Tryz.prog 44 #[.string s] w fun e w' => (∃ v, e = .returned (.tuple #[v, .agg #[.int .i64 E, .int .i64 (P : Nat)]]) ∧ IsToks w' v R ∧ capOk v) ∧ Below w.heap.size w w' := by
  have := tokens_any s w henv hw
  rw [h] at this
  exact this
theorem tokens_as (s : ByteArray) (R : List Tok) (E : Int) (P : Nat) (w : World) (henv : Env w) (hw : SG w) (h : lexAll s.data.toList = (R, E, P)) :
    Calls Tryz.prog 44 #[.string s] w fun e w' => (∃ v, e = .returned (.tuple #[v, .agg #[.int .i64 E, .int .i64 (P : Nat)]]) ∧ IsToks w' v R) ∧ Below w.heap.size w w' :=
  (tokens_cap s R E P w henv hw h).mono fun e w' hh => by
    obtain ⟨⟨v, h1, h2, _⟩, h3⟩ := hh
    exact ⟨⟨v, h1, h2⟩, h3⟩
end Go.Proofs.YtkoejkpjkcejcaaGreatDoor
namespace Go.Proofs.YtkoejkpjkcejcaaGreatDoor
open Go.RowKit Go.BigFrame
set_option linter.unusedVariables false
set_option linter.unusedSimpArgs false
variable {en : Nat}

theorem lexAll_fitQ {s : List UInt8} {R : List Tok} {E : Int} {P : Nat} (h : lexAll s = (R, E, P)) : R.length ≤ 400 ∧ Fit R := by
  by_cases he : E = 0
  · subst he
    obtain ⟨h1, _, h3, _⟩ := lexAll_ok h
    obtain ⟨h4, h5⟩ := stand_small s R 0 (Nat.zero_le _) h3
    exact ⟨by omega, fun t ht => by have := (h5 t ht).1; omega⟩
  · obtain ⟨rfl, _⟩ := lexAll_bad h he
    exact ⟨by simp, fun t ht => absurd ht (by simp)⟩
set_option maxHeartbeats 1000000 in
set_option maxRecDepth 20000 in
theorem place_q (w : World) (r : Nat) (ts : List Tok) (h : RdAt en w r ts) : Calls Tryz.prog 24 #[.pointer (some ⟨r, 0, none⟩)] w fun e w' => e = .returned (.int .i64 (placeT ts en : Nat)) ∧ w' = w := by
  cases ts with
  | nil =>
    have cE := ended_none w r h
    have hfin := h.fin
    have hl := h.lt
    rw [placeT]
    clear h
    go_enter Tryz.func24, Tryz.ntmps24
    go_wp2_with fail
    refine cE.mono ?_
    rintro e w1 ⟨rfl, rfl⟩
    clear cE
    go_wp2
    go_ret
    exact ⟨rfl, rfl⟩
  | cons t ts =>
    have cE := ended_some w r t ts h
    obtain ⟨⟨p, c, h1, h2, h3⟩, hfz, hl, hfin⟩ := h
    rcases h3 with h3 | ⟨b, off, rfl, hbr, h4⟩
    · simp at h3
    obtain ⟨d0, d1, d2⟩ := h4.2 0 (by simp)
    have hbl := h4.1
    have hlen : (0 : Int) < ((t :: ts).length : Int) := by rw [List.length_cons]; omega
    obtain ⟨tk, tx, ta⟩ := t
    simp only [List.getElem_cons_zero, Nat.zero_mul, Nat.add_zero] at d0 d1 d2
    rw [placeT]
    simp only
    generalize ((tk, tx, ta) :: ts).length = L at h1 h2 hlen cE
    clear h4 hfin
    go_enter Tryz.func24, Tryz.ntmps24
    go_wp2_with fail
    refine cE.mono ?_
    rintro e w1 ⟨rfl, rfl⟩
    clear cE
    go_wp2
    go_ret
    exact ⟨rfl, rfl⟩
/-- Two cells that may be written, in a block. -/
structure Bx2 (w : World) (b : Nat) (a0 a1 : Value) : Prop where
  c0 : w.cell? ⟨b, 0, none⟩ = some a0
  c1 : w.cell? ⟨b, 1, none⟩ = some a1
  fz : ∀ o, w.frozen? ⟨b, o, none⟩ = false
  lt : b < w.heap.size
theorem Bx2.on {w w' : World} {b : Nat} {a0 a1 : Value} (h : Bx2 w b a0 a1) (hb : Below w.heap.size w w') : Bx2 w' b a0 a1 := by
  obtain ⟨c0, c1, fz, lt⟩ := h
  exact ⟨by rw [hb.cell (p := ⟨b, 0, none⟩) lt]; exact c0, by rw [hb.cell (p := ⟨b, 1, none⟩) lt]; exact c1, fun o => by rw [hb.frozen (p := ⟨b, o, none⟩) lt]; exact fz o, by have := hb.size; omega⟩
/-- A cell that is written what it holds. -/
theorem setC_same {w : World} {a : Addr} {v : Value} (h : w.cell? a = some v) (b : Addr) : (w.setCell a v).cell? b = w.cell? b := by
  by_cases e : a = b
  · subst e
    rw [World.cell?_setCell_same _ _ _ h, h]
  · exact World.cell?_setCell_other _ _ _ _ e
set_option maxHeartbeats 2000000 in
set_option maxRecDepth 20000 in
theorem newReader_bad (s : ByteArray) (w : World) (henv : TEnv w) (hw : SG w) (R : List Tok) (E : Int) (P : Nat) (hL : lexAll s.data.toList = (R, E, P)) (hE : E ≠ 0) (hs : s.size ≤ maxLen) :
    Calls Tryz.prog 21 #[.string s] w fun e w' => e = .returned (.tuple #[.pointer none, .agg #[.int .i64 E, .int .i64 (P : Nat)]]) ∧ Below w.heap.size w w' := by
  have HE : Aside (TEnv w) := henv
  have HW : Aside (SG w) := hw
  have hG := henv.big
  have b1 : Below w.heap.size w (w.alloc (.cells #[.int .i64 0, .int .i64 0] 31)) := al w _
  have Y0 : Bx2 (w.alloc (.cells #[.int .i64 0, .int .i64 0] 31)) w.heap.size (.int .i64 0) (.int .i64 0) := ⟨by rw [World.cell?_alloc_at _ _ _ _ (by simp)]; rfl, by rw [World.cell?_alloc_at _ _ _ _ (by simp)]; rfl, fun o => World.frozen?_alloc_at _ _ _ _ (by simp), by simp⟩
  have cT := tokens_cap s R E P _ ((HE.out.on b1).env) (HW.out.on b1) hL
  have hb0 : (E == 0) = false := by simpa using hE
  unfold maxLen at hs
  clear henv hw
  go_enter Tryz.func21, Tryz.ntmps21
  go_wp2_with fail
  refine cT.mono ?_
  rintro e w2 ⟨⟨vl, rfl, hT, hcap⟩, b2⟩
  have Y2 := Y0.on b2
  have B2 := b1.trans (b2.mono (by simp))
  have hz2 : w.heap.size + 1 ≤ w2.heap.size := by have := b2.size; simpa using this
  obtain ⟨lp, lc, rfl, hlm, hT⟩ := hT
  clear cT Y0 b1 b2 hT
  obtain ⟨y0, y1, yf, yl⟩ := Y2
  have yf0 := yf 0
  have yf1 := yf 1
  clear yf
  go_wp2
  go_region
  all_goals
    go_wp2
    refine bodyPost_ret (v := .tuple #[.pointer none, .agg #[.int .i64 E, .int .i64 (P : Nat)]]) (by simp [results, Tryz.results21, go_sem, y0, y1, yl]) rfl ⟨rfl, ?_⟩
    exact Below.drew (((B2.setCell (p := ⟨w.heap.size, 0, none⟩) (by simp) _).setCell (p := ⟨w.heap.size, 1, none⟩) (by simp) _).alloc (by simp [World.setCell]; omega) _)
set_option maxHeartbeats 2000000 in
set_option maxRecDepth 20000 in
theorem newReader_good (s : ByteArray) (w : World) (henv : TEnv w) (hw : SG w) (R : List Tok) (hL : lexAll s.data.toList = (R, 0, 0)) (hs : s.size ≤ maxLen) :
    Calls Tryz.prog 21 #[.string s] w fun e w' => (∃ r, e = .returned (.tuple #[.pointer (some ⟨r, 0, none⟩), .agg #[.int .i64 0, .int .i64 0]]) ∧ w.heap.size ≤ r ∧ RdAt s.size w' r R) ∧ Below w.heap.size w w' := by
  have HE : Aside (TEnv w) := henv
  have HW : Aside (SG w) := hw
  have hG := henv.big
  have b1 : Below w.heap.size w (w.alloc (.cells #[.int .i64 0, .int .i64 0] 31)) := al w _
  have Y0 : Bx2 (w.alloc (.cells #[.int .i64 0, .int .i64 0] 31)) w.heap.size (.int .i64 0) (.int .i64 0) := ⟨by rw [World.cell?_alloc_at _ _ _ _ (by simp)]; rfl, by rw [World.cell?_alloc_at _ _ _ _ (by simp)]; rfl, fun o => World.frozen?_alloc_at _ _ _ _ (by simp), by simp⟩
  have cT := tokens_cap s R 0 0 _ ((HE.out.on b1).env) (HW.out.on b1) hL
  unfold maxLen at hs
  clear henv hw
  go_enter Tryz.func21, Tryz.ntmps21
  go_wp2_with fail
  refine cT.mono ?_
  rintro e w2 ⟨⟨vl, rfl, hT, hcap⟩, b2⟩
  have Y2 := Y0.on b2
  have B2 := b1.trans (b2.mono (by simp))
  have hz2 : w.heap.size + 1 ≤ w2.heap.size := by have := b2.size; simpa using this
  obtain ⟨lp, lc, rfl, hlm, hT⟩ := hT
  have HT : Aside (R.length = 0 ∨ ∃ b off, lp = some ⟨b, off, none⟩ ∧ ToksIn w2 b off R) := hT
  have hcap : R.length ≤ lc := hcap
  clear cT Y0 b1 b2 hT
  obtain ⟨y0, y1, yf, yl⟩ := Y2
  have yf0 := yf 0
  have yf1 := yf 1
  clear yf
  go_wp2
  have hset : ∀ a : Addr, ((w2.setCell ⟨w.heap.size, 0, none⟩ (.int .i64 0)).setCell ⟨w.heap.size, 1, none⟩ (.int .i64 0)).cell? a = w2.cell? a := fun a => by
    rw [setC_same (by rw [setC_same y0]; exact y1), setC_same y0]
  have hsz : ((w2.setCell ⟨w.heap.size, 0, none⟩ (.int .i64 0)).setCell ⟨w.heap.size, 1, none⟩ (.int .i64 0)).heap.size = w2.heap.size := by simp [World.setCell]
  refine bodyPost_ret (v := .tuple #[.pointer (some ⟨w2.heap.size + 1, 0, none⟩), .agg #[.int .i64 0, .int .i64 0]]) (by simp [results, Tryz.results21, go_sem, y0, y1, yl, Nat.lt_succ_of_lt yl]) rfl ⟨⟨_, rfl, by omega, ?_⟩, ?_⟩
  · have HT := HT.out
    generalize (w2.setCell ⟨w.heap.size, 0, none⟩ (.int .i64 0)).setCell ⟨w.heap.size, 1, none⟩ (.int .i64 0) = W at hset hsz ⊢
    have hsz1 : (W.alloc (.cells #[.int .i64 0, .int .i64 0] 31)).heap.size = w2.heap.size + 1 := by simp [hsz]
    refine ⟨⟨lp, lc, ?_, hcap, ?_⟩, ?_, by simp [hsz], ?_⟩
    · rw [World.cell?_alloc_at _ _ _ _ (by simp [hsz])]; rfl
    · rcases HT with h | ⟨b, off, e, hb, hT⟩
      · exact .inl h
      · refine .inr ⟨b, off, e, by omega, ToksIn.on (ToksIn.on (w := W) ⟨by rw [hsz]; exact hb, fun j hj => ?_⟩ (al _ _)) (al _ _)⟩
        rw [hset, hset, hset]
        exact hT j hj
    · exact World.frozen?_alloc_at _ _ _ _ (by simp [hsz])
    · rw [World.cell?_alloc_at _ _ _ _ (by simp [hsz])]; rfl
  · exact (((B2.setCell (p := ⟨w.heap.size, 0, none⟩) (by simp) _).setCell (p := ⟨w.heap.size, 1, none⟩) (by simp) _).alloc (by rw [hsz]; omega) _).alloc (by simp [hsz]; omega) _
end Go.Proofs.YtkoejkpjkcejcaaGreatDoor
namespace Go.Proofs.YtkoejkpjkcejcaaGreatDoor
open Go.RowKit Go.BigFrame
set_option linter.unusedVariables false
variable {en : Nat}

theorem Bx2.but {w w' : World} {r b : Nat} {a0 a1 : Value} (h : Bx2 w b a0 a1) (hb : But r w w') (hr : b ≠ r) : Bx2 w' b a0 a1 := by
  obtain ⟨c0, c1, fz, lt⟩ := h
  exact ⟨by rw [hb.cell _ lt hr]; exact c0, by rw [hb.cell _ lt hr]; exact c1, fun o => by rw [but_frozen hb o lt hr]; exact fz o, by have := hb.size; omega⟩
theorem ExIn.set1 {w : World} {lo : Nat → Prop} {v : Value} {x : Ex} (h : ExIn w lo v x) {z : Nat} (hz : ∀ b, lo b → b ≠ z) (o : Nat) (v0 : Value) : ExIn (w.setCell ⟨z, o, none⟩ v0) lo v x :=
  ExIn.keep (by simp [World.setCell]) (fun b o h1 h2 => by have := hz b h1; simp [World.cell?_setCell_other]) x v h
theorem below_set7 {n z : Nat} {w w1 : World} (h : Below n w w1) (hz : n ≤ z) (v0 v1 v2 v3 v4 v5 v6 : Value) : Below n w (((((((w1.setCell ⟨z, 0, none⟩ v0).setCell ⟨z, 1, none⟩ v1).setCell ⟨z, 2, none⟩ v2).setCell ⟨z, 3, none⟩ v3).setCell ⟨z, 4, none⟩ v4).setCell ⟨z, 5, none⟩ v5).setCell ⟨z, 6, none⟩ v6) :=
  ((((((h.setCell (p := ⟨z, 0, none⟩) hz v0).setCell (p := ⟨z, 1, none⟩) hz v1).setCell (p := ⟨z, 2, none⟩) hz v2).setCell (p := ⟨z, 3, none⟩) hz v3).setCell (p := ⟨z, 4, none⟩) hz v4).setCell (p := ⟨z, 5, none⟩) hz v5).setCell (p := ⟨z, 6, none⟩) hz v6
set_option maxHeartbeats 2000000 in
set_option maxRecDepth 20000 in
theorem parse_bad (s : ByteArray) (w : World) (henv : TEnv w) (hw : SG w) (R : List Tok) (E : Int) (P : Nat) (hL : lexAll s.data.toList = (R, E, P)) (hE : E ≠ 0) (hs : s.size ≤ maxLen) :
    Calls Tryz.prog 7 #[.string s] w fun e w' => (∃ v, e = .returned (.tuple #[v, .agg #[.int .i64 E, .int .i64 (P : Nat)]]) ∧ Aside (ExIn w' (w.heap.size ≤ ·) v ex0)) ∧ Below w.heap.size w w' := by
  have HE : Aside (TEnv w) := henv
  have HW : Aside (SG w) := hw
  have hG := henv.big
  have b1 : Below w.heap.size w ((w.alloc (.cells #[.string ⟨#[]⟩, .string ⟨#[]⟩, .int .i64 0, .int .i64 0, .string ⟨#[]⟩, .slice none 0 0, .int .i64 0] 26)).alloc (.cells #[.int .i64 0, .int .i64 0] 31)) := (al w _).trans ((al _ _).mono (by simp))
  have X0 := (box7_alloc w (.string ⟨#[]⟩) (.string ⟨#[]⟩) (.int .i64 0) (.int .i64 0) (.string ⟨#[]⟩) (.slice none 0 0) (.int .i64 0) 26).on (al _ (.cells #[.int .i64 0, .int .i64 0] 31))
  have Y0 : Bx2 ((w.alloc (.cells #[.string ⟨#[]⟩, .string ⟨#[]⟩, .int .i64 0, .int .i64 0, .string ⟨#[]⟩, .slice none 0 0, .int .i64 0] 26)).alloc (.cells #[.int .i64 0, .int .i64 0] 31)) (w.heap.size + 1) (.int .i64 0) (.int .i64 0) := ⟨by rw [World.cell?_alloc_at _ _ _ _ (by simp)]; rfl, by rw [World.cell?_alloc_at _ _ _ _ (by simp)]; rfl, fun o => World.frozen?_alloc_at _ _ _ _ (by simp), by simp⟩
  have cN := newReader_bad s _ (HE.out.on b1) (HW.out.on b1) R E P hL hE hs
  have hb0 : (E == 0) = false := by simpa using hE
  have hbn : (E != 0) = true := by simpa using hE
  unfold maxLen at hs
  clear henv hw
  go_enter Tryz.func7, Tryz.ntmps7
  go_wp2_with fail
  refine cN.mono ?_
  rintro e w2 ⟨rfl, b2⟩
  have X2 := X0.on b2
  have Y2 := Y0.on b2
  have B2 := b1.trans (b2.mono (by simp; omega))
  have hz2 : w.heap.size + 2 ≤ w2.heap.size := by have := b2.size; simpa using this
  clear cN X0 Y0 b1 b2
  obtain ⟨c0, c1, c2, c3, c4, c5, c6, cf, cl⟩ := X2
  have rf0 := cf 0
  have rf1 := cf 1
  have rf2 := cf 2
  have rf3 := cf 3
  have rf4 := cf 4
  have rf5 := cf 5
  have rf6 := cf 6
  obtain ⟨y0, y1, yf, yl⟩ := Y2
  have yf0 := yf 0
  have yf1 := yf 1
  clear cf yf
  go_wp2
  go_region
  all_goals
    go_wp2
    refine bodyPost_ret (v := .tuple #[.agg #[.string ⟨#[]⟩, .string ⟨#[]⟩, .int .i64 0, .int .i64 0, .string ⟨#[]⟩, .slice none 0 0, .int .i64 0], .agg #[.int .i64 E, .int .i64 (P : Nat)]]) (by simp [results, Tryz.results7, go_sem, c0, c1, c2, c3, c4, c5, c6, y0, y1, cl, yl]) rfl ⟨⟨_, rfl, ex_zero _ _⟩, ?_⟩
    exact Below.drew ((((below_set7 B2 (Nat.le_refl _) _ _ _ _ _ _ _).setCell (p := ⟨w.heap.size + 1, 0, none⟩) (by simp) _).setCell (p := ⟨w.heap.size + 1, 1, none⟩) (by simp) _).alloc (by simp [World.setCell]; omega) _)
set_option maxHeartbeats 4000000 in
set_option maxRecDepth 20000 in
theorem parse_good (s : ByteArray) (w : World) (henv : TEnv w) (hw : SG w) (R : List Tok) (hL : lexAll s.data.toList = (R, 0, 0)) (x : Ex) (E : Int) (P : Nat) (hp : (match readE R with
    | (some x, []) => if tgB x = true then (ex0, 4, 0) else (x, 0, 0)
    | (_, r) => (ex0, 2, placeT r s.size)) = (x, E, P)) (hs : s.size ≤ maxLen) :
    Calls Tryz.prog 7 #[.string s] w fun e w' => (∃ v, e = .returned (.tuple #[v, .agg #[.int .i64 E, .int .i64 (P : Nat)]]) ∧ Aside (ExIn w' (w.heap.size ≤ ·) v x)) ∧ Below w.heap.size w w' := by
  obtain ⟨hR, hFit⟩ := lexAll_fitQ hL
  have HP : Hid ((match readE R with
    | (some x, []) => if tgB x = true then (ex0, 4, 0) else (x, 0, 0)
    | (_, r) => (ex0, 2, placeT r s.size)) = (x, E, P)) := hp
  clear hp
  have HE : Aside (TEnv w) := henv
  have HW : Aside (SG w) := hw
  have hG := henv.big
  have b1 : Below w.heap.size w ((w.alloc (.cells #[.string ⟨#[]⟩, .string ⟨#[]⟩, .int .i64 0, .int .i64 0, .string ⟨#[]⟩, .slice none 0 0, .int .i64 0] 26)).alloc (.cells #[.int .i64 0, .int .i64 0] 31)) := (al w _).trans ((al _ _).mono (by simp))
  have X0 := (box7_alloc w (.string ⟨#[]⟩) (.string ⟨#[]⟩) (.int .i64 0) (.int .i64 0) (.string ⟨#[]⟩) (.slice none 0 0) (.int .i64 0) 26).on (al _ (.cells #[.int .i64 0, .int .i64 0] 31))
  have Y0 : Bx2 ((w.alloc (.cells #[.string ⟨#[]⟩, .string ⟨#[]⟩, .int .i64 0, .int .i64 0, .string ⟨#[]⟩, .slice none 0 0, .int .i64 0] 26)).alloc (.cells #[.int .i64 0, .int .i64 0] 31)) (w.heap.size + 1) (.int .i64 0) (.int .i64 0) := ⟨by rw [World.cell?_alloc_at _ _ _ _ (by simp)]; rfl, by rw [World.cell?_alloc_at _ _ _ _ (by simp)]; rfl, fun o => World.frozen?_alloc_at _ _ _ _ (by simp), by simp⟩
  have cN := newReader_good s _ (HE.out.on b1) (HW.out.on b1) R hL hs
  unfold maxLen at hs
  clear henv hw
  go_enter Tryz.func7, Tryz.ntmps7
  go_wp2_with fail
  refine cN.mono ?_
  rintro e w2 ⟨⟨r, rfl, hrw, rd0⟩, b2⟩
  have X2 := X0.on b2
  have Y2 := Y0.on b2
  have B2 := b1.trans (b2.mono (by simp; omega))
  have hz2 : w.heap.size + 2 ≤ w2.heap.size := by have := b2.size; simpa using this
  have hr2 : w.heap.size + 2 ≤ r := by simpa using hrw
  have hrl2 := rd0.lt
  clear cN X0 Y0 b1 b2 hrw
  have bF := al w2 (.cells #[.int .i64 0, .int .i64 0] 31)
  have cE := expression_reads R hFit _ r (rd0.on bF) ((HE.out.on B2).on bF) (by omega)
  clear rd0
  go_wp2_with fail
  refine cE.mono ?_
  rintro e w3 ⟨v, ok, y, rfl, hx, hrd, hbt, hres⟩
  obtain ⟨u0, u1, u2, u3, u4, u5, u6, u7, u8, rfl⟩ := hx.out.agg
  have hz3 : w2.heap.size + 1 ≤ w3.heap.size := by have := hbt.out.size; simpa using this
  have hrl : r < w3.heap.size := by omega
  have X3 := (X2.on bF).but hbt.out (by omega)
  have Y3 := (Y2.on bF).but hbt.out (by omega)
  have B3 : Below w.heap.size w w3 := (B2.trans (bF.mono (by omega))).trans (hbt.out.below.mono (by omega))
  have bE := al w3 (.cells #[.string u0, .string u1, .int .i64 u2, .int .i64 u3, .string u4, .slice u5 u6 u7, .int .i64 u8] 26)
  have hrd2 := hrd.out
  obtain ⟨rest, hrest⟩ : ∃ rest, (uE (R.length * 8 + 8) 0 R).2 = rest := ⟨_, rfl⟩
  have HRE : Hid (readE R = (if ok = true then some y else none, rest)) := by
    show _ = _
    rw [readE]
    exact Prod.ext hres.out hrest
  rw [hrest] at hrd2
  have cPl := fun W (hb : Below w3.heap.size w3 W) => place_q W r rest (hrd2.on hb)
  have HRD := (show Aside (RdAt s.size w3 r rest) from hrd2)
  have XA : Aside (Box7 w3 w.heap.size (.string ⟨#[]⟩) (.string ⟨#[]⟩) (.int .i64 0) (.int .i64 0) (.string ⟨#[]⟩) (.slice none 0 0) (.int .i64 0)) := X3
  have YA : Aside (Bx2 w3 (w.heap.size + 1) (.int .i64 0) (.int .i64 0)) := Y3
  clear X2 Y2 cE hrest hrd hres hrd2
  obtain ⟨c0, c1, c2, c3, c4, c5, c6, cf, cl⟩ := X3
  have rf0 := cf 0
  have rf1 := cf 1
  have rf2 := cf 2
  have rf3 := cf 3
  have rf4 := cf 4
  have rf5 := cf 5
  have rf6 := cf 6
  obtain ⟨y0, y1, yf, yl⟩ := Y3
  have yf0 := yf 0
  have yf1 := yf 1
  clear cf yf
  cases ok
  · have HP2 : Hid ((ex0, 2, placeT rest s.size) = (x, E, P)) := by
      show _ = _
      rw [← HP.out, HRE.out]; rfl
    generalize placeT rest s.size = Q at cPl HP2
    go_wp2_with fail
    refine (cPl _ bE).mono ?_
    rintro e w4 ⟨rfl, hq4⟩
    obtain rfl := hq4
    go_wp2
    refine bodyPost_ret (v := .tuple #[.agg #[.string ⟨#[]⟩, .string ⟨#[]⟩, .int .i64 0, .int .i64 0, .string ⟨#[]⟩, .slice none 0 0, .int .i64 0], .agg #[.int .i64 2, .int .i64 ((Q : Nat) : Int)]]) (by simp [results, Tryz.results7, go_sem, c0, c1, c2, c3, c4, c5, c6, y0, y1, cl, yl]) rfl ?_
    have he := HP2.out
    obtain ⟨rfl, he2⟩ := Prod.mk.inj he
    obtain ⟨rfl, rfl⟩ := Prod.mk.inj he2
    refine ⟨⟨_, rfl, ex_zero _ _⟩, ?_⟩
    exact ((((below_set7 B3 (Nat.le_refl _) _ _ _ _ _ _ _).setCell (p := ⟨w.heap.size + 1, 0, none⟩) (by simp) _).setCell (p := ⟨w.heap.size + 1, 1, none⟩) (by simp) _).alloc (by simp [World.setCell]; omega) _)
  · cases rest with
    | cons t0 rest0 =>
      have HP2 : Hid ((ex0, 2, placeT (t0 :: rest0) s.size) = (x, E, P)) := by
        show _ = _
        rw [← HP.out, HRE.out]; rfl
      have cD := ended_some _ r t0 rest0 (HRD.out.on bE)
      generalize placeT (t0 :: rest0) s.size = Q at cPl HP2
      go_wp2_with fail
      refine cD.mono ?_
      rintro e w5 ⟨rfl, hq5⟩
      obtain rfl := hq5
      clear cD
      go_wp2_with fail
      refine (cPl _ bE).mono ?_
      rintro e w4 ⟨rfl, hq4⟩
      obtain rfl := hq4
      go_wp2
      refine bodyPost_ret (v := .tuple #[.agg #[.string ⟨#[]⟩, .string ⟨#[]⟩, .int .i64 0, .int .i64 0, .string ⟨#[]⟩, .slice none 0 0, .int .i64 0], .agg #[.int .i64 2, .int .i64 ((Q : Nat) : Int)]]) (by simp [results, Tryz.results7, go_sem, c0, c1, c2, c3, c4, c5, c6, y0, y1, cl, yl]) rfl ?_
      have he := HP2.out
      obtain ⟨rfl, he2⟩ := Prod.mk.inj he
      obtain ⟨rfl, rfl⟩ := Prod.mk.inj he2
      refine ⟨⟨_, rfl, ex_zero _ _⟩, ?_⟩
      exact ((((below_set7 B3 (Nat.le_refl _) _ _ _ _ _ _ _).setCell (p := ⟨w.heap.size + 1, 0, none⟩) (by simp) _).setCell (p := ⟨w.heap.size + 1, 1, none⟩) (by simp) _).alloc (by simp [World.setCell]; omega) _)
    | nil =>
      have cD := ended_none _ r (HRD.out.on bE)
      have hsz : (y.pre 1).length ≤ 1048576 := by
        have h1 := HRE.out
        rw [readE] at h1
        have h2 := uE_szd (R.length * 8 + 8) 0 R y (by rw [h1]; rfl)
        rw [pre_len]
        omega
      have xE := hx.out.on bE
      have cG := tooGreat_any y _ _ _ xE hsz
      have HP2 : Hid ((if tgB y = true then (ex0, 4, 0) else (y, 0, 0)) = (x, E, P)) := by
        show _ = _
        rw [← HP.out, HRE.out]; rfl
      cases hg : tgB y
      · rw [hg] at cG
        rw [hg, if_neg (by decide)] at HP2
        clear c0 c1 c2 c3 c4 c5 c6 rf0 rf1 rf2 rf3 rf4 rf5 rf6 cl y0 y1 yf0 yf1 yl cPl
        go_wp2_with fail
        refine cD.mono ?_
        rintro e w5 ⟨rfl, hq5⟩
        obtain rfl := hq5
        clear cD
        go_wp2_with fail
        refine cG.mono ?_
        rintro e w4 ⟨rfl, b4⟩
        have b5 := bE.trans (b4.mono (by simp))
        have B4 := B3.trans (b5.mono (by omega))
        have hz4 : w3.heap.size + 1 ≤ w4.heap.size := by have := b4.size; simpa using this
        obtain ⟨c0, c1, c2, c3, c4, c5, c6, cf, cl⟩ := XA.out.on b5
        have rf0 := cf 0
        have rf1 := cf 1
        have rf2 := cf 2
        have rf3 := cf 3
        have rf4 := cf 4
        have rf5 := cf 5
        have rf6 := cf 6
        obtain ⟨y0, y1, yf, yl⟩ := YA.out.on b5
        have yf0 := yf 0
        have yf1 := yf 1
        clear cf yf
        obtain ⟨e0, e1, e2, e3, e4, e5, e6, ef, el⟩ := (box7_alloc w3 (.string u0) (.string u1) (.int .i64 u2) (.int .i64 u3) (.string u4) (.slice u5 u6 u7) (.int .i64 u8) 26).on b4
        have hxy := xE.on b4
        clear ef cG xE
        go_wp2
        refine bodyPost_ret (v := .tuple #[.agg #[.string u0, .string u1, .int .i64 u2, .int .i64 u3, .string u4, .slice u5 u6 u7, .int .i64 u8], .agg #[.int .i64 0, .int .i64 0]]) (by simp [results, Tryz.results7, go_sem, c0, c1, c2, c3, c4, c5, c6, y0, y1]) rfl ?_
        have he := HP2.out
        obtain ⟨rfl, he2⟩ := Prod.mk.inj he
        obtain ⟨rfl, rfl⟩ := Prod.mk.inj he2
        refine ⟨⟨_, rfl, ?_⟩, ?_⟩
        · have h2 := ExIn.low (lo' := (w.heap.size + 2 ≤ ·)) (fun b _ hb => (show w.heap.size + 2 ≤ b by simp at hb; omega)) _ _ hxy
          exact ExIn.low (fun b _ (hb : w.heap.size + 2 ≤ b) => (show w.heap.size ≤ b by omega)) _ _ (((h2.set7 (z := w.heap.size) (fun b (hb : w.heap.size + 2 ≤ b) => by omega) _ _ _ _ _ _ _).set1 (z := w.heap.size + 1) (fun b (hb : w.heap.size + 2 ≤ b) => by omega) 0 _).set1 (z := w.heap.size + 1) (fun b (hb : w.heap.size + 2 ≤ b) => by omega) 1 _)
        · exact ((below_set7 B4 (Nat.le_refl _) _ _ _ _ _ _ _).setCell (p := ⟨w.heap.size + 1, 0, none⟩) (by simp) _).setCell (p := ⟨w.heap.size + 1, 1, none⟩) (by simp) _
      · rw [hg] at cG
        rw [hg, if_pos rfl] at HP2
        clear c0 c1 c2 c3 c4 c5 c6 rf0 rf1 rf2 rf3 rf4 rf5 rf6 cl y0 y1 yf0 yf1 yl cPl
        go_wp2_with fail
        refine cD.mono ?_
        rintro e w5 ⟨rfl, hq5⟩
        obtain rfl := hq5
        clear cD
        go_wp2_with fail
        refine cG.mono ?_
        rintro e w4 ⟨rfl, b4⟩
        have b5 := bE.trans (b4.mono (by simp))
        have B4 := B3.trans (b5.mono (by omega))
        have hz4 : w3.heap.size + 1 ≤ w4.heap.size := by have := b4.size; simpa using this
        obtain ⟨c0, c1, c2, c3, c4, c5, c6, cf, cl⟩ := XA.out.on b5
        have rf0 := cf 0
        have rf1 := cf 1
        have rf2 := cf 2
        have rf3 := cf 3
        have rf4 := cf 4
        have rf5 := cf 5
        have rf6 := cf 6
        obtain ⟨y0, y1, yf, yl⟩ := YA.out.on b5
        have yf0 := yf 0
        have yf1 := yf 1
        clear cf yf
        go_wp2
        refine bodyPost_ret (v := .tuple #[.agg #[.string ⟨#[]⟩, .string ⟨#[]⟩, .int .i64 0, .int .i64 0, .string ⟨#[]⟩, .slice none 0 0, .int .i64 0], .agg #[.int .i64 4, .int .i64 0]]) (by simp [results, Tryz.results7, go_sem, c0, c1, c2, c3, c4, c5, c6, y0, y1]) rfl ?_
        have he := HP2.out
        obtain ⟨rfl, he2⟩ := Prod.mk.inj he
        obtain ⟨rfl, rfl⟩ := Prod.mk.inj he2
        refine ⟨⟨_, rfl, ex_zero _ _⟩, ?_⟩
        exact (((below_set7 B4 (Nat.le_refl _) _ _ _ _ _ _ _).setCell (p := ⟨w.heap.size + 1, 0, none⟩) (by simp) _).setCell (p := ⟨w.heap.size + 1, 1, none⟩) (by simp) _)
theorem parse_tree (s : ByteArray) (w : World) (henv : TEnv w) (hw : SG w) (x : Ex) (E : Int) (P : Nat) (hp : parseP s.data.toList = (x, E, P)) (hs : s.size ≤ maxLen) :
    Calls Tryz.prog 7 #[.string s] w fun e w' => (∃ v, e = .returned (.tuple #[v, .agg #[.int .i64 E, .int .i64 (P : Nat)]]) ∧ Aside (ExIn w' (w.heap.size ≤ ·) v x)) ∧ Below w.heap.size w w' := by
  obtain ⟨R, E0, P0, hL⟩ : ∃ R E0 P0, lexAll s.data.toList = (R, E0, P0) := ⟨_, _, _, rfl⟩
  rw [parseP, hL] at hp
  simp only at hp
  by_cases hE : E0 = 0
  · subst hE
    obtain rfl := (lexAll_ok hL).2.1
    rw [if_neg (by simp)] at hp
    have hl : s.data.toList.length = s.size := by simp
    rw [hl] at hp
    exact parse_good s w henv hw R hL x E P hp hs
  · rw [if_pos hE] at hp
    obtain ⟨rfl, hp2⟩ := Prod.mk.inj hp
    obtain ⟨rfl, rfl⟩ := Prod.mk.inj hp2
    exact parse_bad s w henv hw R _ _ hL hE hs
end Go.Proofs.YtkoejkpjkcejcaaGreatDoor
namespace Go.Proofs.YtkoejkpjkcejcaaGreatDoor
open Go.RowKit
set_option linter.unusedVariables false

theorem sizes_take {l : List Ex} {k : Nat} (h : k < l.length) : Ex.sizes (l.take (k + 1)) = Ex.sizes (l.take k) + l[k].size := by
  induction l generalizing k with
  | nil => simp at h
  | cons x xs ih =>
    cases k with
    | zero => simp [Ex.sizes]
    | succ k =>
      rw [List.take_succ_cons, List.take_succ_cons, Ex.sizes, Ex.sizes, ih (by simpa using h)]
      simp only [List.getElem_cons_succ]
      omega
theorem sizes_take_le (l : List Ex) (k : Nat) : Ex.sizes (l.take k) ≤ Ex.sizes l := by
  induction l generalizing k with
  | nil => simp
  | cons x xs ih =>
    cases k with
    | zero => simp [Ex.sizes]
    | succ k =>
      rw [List.take_succ_cons, Ex.sizes, Ex.sizes]
      have := ih k
      omega
theorem size_arg {l : List Ex} {k : Nat} (h : k < l.length) : l[k].size ≤ Ex.sizes l := by
  have h1 := sizes_take h
  have h2 := sizes_take_le l (k + 1)
  omega
theorem deeps_take {l : List Ex} {k : Nat} (h : k < l.length) : Ex.deeps (l.take (k + 1)) = max (Ex.deeps (l.take k)) l[k].deep := by
  induction l generalizing k with
  | nil => simp at h
  | cons x xs ih =>
    cases k with
    | zero => simp [Ex.deeps]
    | succ k =>
      rw [List.take_succ_cons, List.take_succ_cons, Ex.deeps, Ex.deeps, ih (by simpa using h)]
      simp only [List.getElem_cons_succ]
      omega
theorem deep_le : ∀ x : Ex, x.deep ≤ x.size := by
  refine Ex.ind fun op nm vt vn vs pos args ih => ?_
  rw [Ex.deep, Ex.size]
  have key : ∀ l : List Ex, (∀ y ∈ l, y.deep ≤ y.size) → Ex.deeps l ≤ Ex.sizes l := by
    intro l
    induction l with
    | nil => intro _; simp [Ex.deeps, Ex.sizes]
    | cons x xs ih2 =>
      intro h
      rw [Ex.deeps, Ex.sizes]
      have h1 := h x List.mem_cons_self
      have h2 := ih2 (fun y hy => h y (List.mem_cons_of_mem _ hy))
      omega
  have := key args ih
  omega
/-- The cells of an expression that was handed in stay in its own block. -/
theorem box_kept {w wr : World} {cs : Array Value} (h : Below (w.heap.size + 1) (w.alloc (.cells cs 26)) wr) (i : Nat) : wr.cell? ⟨w.heap.size, i, none⟩ = cs[i]? := by
  rw [h.cell (p := ⟨w.heap.size, i, none⟩) (Nat.lt_succ_self _), World.cell?_alloc_at _ _ _ _ rfl]
theorem box_below {w wr : World} {cs : Array Value} (h : Below (w.heap.size + 1) (w.alloc (.cells cs 26)) wr) : Below w.heap.size w wr :=
  ((Below.refl _ _).alloc (Nat.le_refl _) _).trans (h.mono (Nat.le_succ _))
theorem box_size {w wr : World} {cs : Array Value} (h : Below (w.heap.size + 1) (w.alloc (.cells cs 26)) wr) : w.heap.size + 1 ≤ wr.heap.size := by
  have := h.size
  simpa using this
set_option maxHeartbeats 4000000 in
set_option maxRecDepth 20000 in
theorem refSize_any : ∀ (x : Ex) (lo : Nat → Prop) (v : Value) (w : World), ExIn w lo v x → x.size ≤ 1048576 →
    Calls Tryz.prog 16 #[v] w fun e w' => e = .returned (.int .i64 (x.size : Nat)) ∧ Below w.heap.size w w' := by
  refine Ex.ind fun op nm vt vn vs pos args ih lo v w h hsz => ?_
  rw [ExIn] at h
  obtain ⟨p, c, rfl, ⟨hm, _⟩, _, _, _, h5⟩ := h
  rw [Ex.size] at hsz ⊢
  obtain ⟨S, hS⟩ : ∃ S, 1 + Ex.sizes args = S := ⟨_, rfl⟩
  have HS : Hid (1 + Ex.sizes args = S) := hS
  rw [hS] at hsz ⊢
  have HI : Hid (∀ y ∈ args, ∀ (lo : Nat → Prop) (v : Value) (w : World), ExIn w lo v y → y.size ≤ 1048576 → Calls Tryz.prog 16 #[v] w fun e w' => e = .returned (.int .i64 (y.size : Nat)) ∧ Below w.heap.size w w') := ih
  unfold maxLen at hm
  clear ih hS
  go_enter Tryz.func16, Tryz.ntmps16
  go_wp2
  go_loopg [3, 4, 5] args.length (fun gg s3 s4 _ wr => ∃ (kk N : Nat), kk ≤ args.length ∧ args.length - kk ≤ gg ∧ s4 = .int .i64 kk ∧ s3 = .int .i64 N ∧ N ≤ S ∧ Hid (N = 1 + Ex.sizes (args.take kk)) ∧ Aside (Below (w.heap.size + 1) (w.alloc (.cells #[.string op, .string nm, .int .i64 vt, .int .i64 vn, .string vs, .slice p args.length c, .int .i64 pos] 26)) wr))
  case atStart => exact ⟨0, 1, Nat.zero_le _, by omega, rfl, rfl, by have := HS.out; omega, rfl, (show Aside _ from Below.refl _ _)⟩
  case round =>
    obtain ⟨kk, N, hkk, hg, rfl, rfl, hN, HN, BW⟩ := hrel
    have q5 := box_kept BW.out 5
    simp at q5
    have ql := box_size BW.out
    by_cases hlt : kk < args.length
    · have hltz : (kk : Int) < (args.length : Int) := by omega
      have k0 : (0 : Int) ≤ (kk : Int) := by omega
      rcases h5 with h0 | ⟨b, off, rfl, hbl, hlo, h5⟩
      · exact absurd h0 (by omega)
      obtain ⟨v0, v1, v2, v3, v4, v5, v6, e0, e1, e2, e3, e4, e5, e6, hx⟩ := exsIn_at w lo b args off h5 kk hlt
      have hb := box_below BW.out
      have key : ∀ o : Nat, wr.cell? ⟨b, o, none⟩ = w.cell? ⟨b, o, none⟩ := fun o => hb.cell (p := ⟨b, o, none⟩) hbl
      rw [← key] at e0 e1 e2 e3 e4 e5 e6
      have hblr : b < wr.heap.size := by omega
      have hsa : args[kk].size ≤ 1048576 := by have := size_arg hlt; have := HS.out; omega
      have cI := HI.out _ (List.getElem_mem hlt) lo _ wr (hx.on hb) hsa
      have HN2 : Hid (N + args[kk].size = 1 + Ex.sizes (args.take (kk + 1))) := by
        show _ = _
        rw [sizes_take hlt, HN.out]; omega
      have hN2 : N + args[kk].size ≤ S := by
        have h1 := HN2.out
        have h2 := sizes_take_le args (kk + 1)
        have h3 := HS.out
        omega
      generalize args[kk].size = m at cI HN2 hN2 hsa
      clear key hx h5 HN hb
      go_wp2_with fail
      refine cI.mono ?_
      rintro e w1 ⟨rfl, b1⟩
      have B1 := BW.out.trans (b1.mono ql)
      go_wp2
      go_roundg (args.length - (kk + 1))
      case measure => omega
      case rel => exact ⟨kk + 1, N + m, by omega, by omega, by go_num, by go_num, hN2, HN2, B1⟩
    · have hltz : ¬ (kk : Int) < (args.length : Int) := by omega
      have HF : N = S := by rw [HN.out, List.take_of_length_le (by omega)]; exact HS.out
      subst HF
      clear HN
      go_wp2
      go_ret
      exact ⟨rfl, box_below BW.out⟩
theorem deeps_take_le (l : List Ex) (k : Nat) : Ex.deeps (l.take k) ≤ Ex.deeps l := by
  induction l generalizing k with
  | nil => simp
  | cons x xs ih =>
    cases k with
    | zero => simp [Ex.deeps]
    | succ k =>
      rw [List.take_succ_cons, Ex.deeps, Ex.deeps]
      have := ih k
      omega
set_option maxHeartbeats 4000000 in
set_option maxRecDepth 20000 in
theorem refDeep_any : ∀ (x : Ex) (lo : Nat → Prop) (v : Value) (w : World), ExIn w lo v x → x.size ≤ 1048576 →
    Calls Tryz.prog 43 #[v] w fun e w' => e = .returned (.int .i64 (x.deep : Nat)) ∧ Below w.heap.size w w' := by
  refine Ex.ind fun op nm vt vn vs pos args ih lo v w h hsz => ?_
  rw [ExIn] at h
  obtain ⟨p, c, rfl, ⟨hm, _⟩, _, _, _, h5⟩ := h
  have hdz := deep_le (.node op nm vt vn vs pos args)
  rw [Ex.size] at hsz hdz
  rw [Ex.deep] at hdz ⊢
  obtain ⟨S, hS⟩ : ∃ S, Ex.deeps args + 1 = S := ⟨_, rfl⟩
  have HS : Hid (Ex.deeps args + 1 = S) := hS
  have HZ : Hid (1 + Ex.sizes args ≤ 1048576) := hsz
  rw [hS] at hdz ⊢
  have hsz : S ≤ 1048576 := by omega
  clear hdz
  have HI : Hid (∀ y ∈ args, ∀ (lo : Nat → Prop) (v : Value) (w : World), ExIn w lo v y → y.size ≤ 1048576 → Calls Tryz.prog 43 #[v] w fun e w' => e = .returned (.int .i64 (y.deep : Nat)) ∧ Below w.heap.size w w') := ih
  unfold maxLen at hm
  clear ih hS
  go_enter Tryz.func43, Tryz.ntmps43
  go_wp2
  go_loopg [3, 4, 5] args.length (fun gg s3 s4 _ wr => ∃ (kk N : Nat), kk ≤ args.length ∧ args.length - kk ≤ gg ∧ s4 = .int .i64 kk ∧ s3 = .int .i64 N ∧ N < S ∧ Hid (N = Ex.deeps (args.take kk)) ∧ Aside (Below (w.heap.size + 1) (w.alloc (.cells #[.string op, .string nm, .int .i64 vt, .int .i64 vn, .string vs, .slice p args.length c, .int .i64 pos] 26)) wr))
  case atStart => exact ⟨0, 0, Nat.zero_le _, by omega, rfl, rfl, by have := HS.out; omega, rfl, (show Aside _ from Below.refl _ _)⟩
  case round =>
    obtain ⟨kk, N, hkk, hg, rfl, rfl, hN, HN, BW⟩ := hrel
    have q5 := box_kept BW.out 5
    simp at q5
    have ql := box_size BW.out
    by_cases hlt : kk < args.length
    · have hltz : (kk : Int) < (args.length : Int) := by omega
      have k0 : (0 : Int) ≤ (kk : Int) := by omega
      rcases h5 with h0 | ⟨b, off, rfl, hbl, hlo, h5⟩
      · exact absurd h0 (by omega)
      obtain ⟨v0, v1, v2, v3, v4, v5, v6, e0, e1, e2, e3, e4, e5, e6, hx⟩ := exsIn_at w lo b args off h5 kk hlt
      have hb := box_below BW.out
      have key : ∀ o : Nat, wr.cell? ⟨b, o, none⟩ = w.cell? ⟨b, o, none⟩ := fun o => hb.cell (p := ⟨b, o, none⟩) hbl
      rw [← key] at e0 e1 e2 e3 e4 e5 e6
      have hblr : b < wr.heap.size := by omega
      have hsa : args[kk].size ≤ 1048576 := by have := size_arg hlt; have := HZ.out; omega
      have cI := HI.out _ (List.getElem_mem hlt) lo _ wr (hx.on hb) hsa
      have HN2 : Hid (max N args[kk].deep = Ex.deeps (args.take (kk + 1))) := by
        show _ = _
        rw [deeps_take hlt, HN.out]
      have hN2 : max N args[kk].deep < S := by
        have h1 := HN2.out
        have h2 := deeps_take_le args (kk + 1)
        have h3 := HS.out
        omega
      generalize args[kk].deep = m at cI HN2 hN2
      clear key hx h5 HN hb hsa
      go_wp2_with fail
      refine cI.mono ?_
      rintro e w1 ⟨rfl, b1⟩
      have B1 := BW.out.trans (b1.mono ql)
      by_cases hgt : N < m
      · have hgz : (N : Int) < (m : Int) := by omega
        have HN3 : Hid (m = Ex.deeps (args.take (kk + 1))) := by
          show _ = _
          rw [← HN2.out]; omega
        go_wp2
        go_roundg (args.length - (kk + 1))
        case measure => omega
        case rel => exact ⟨kk + 1, m, by omega, by omega, by go_num, rfl, by omega, HN3, B1⟩
      · have hgz : ¬ (N : Int) < (m : Int) := by omega
        have HN3 : Hid (N = Ex.deeps (args.take (kk + 1))) := by
          show _ = _
          rw [← HN2.out]; omega
        go_wp2
        go_roundg (args.length - (kk + 1))
        case measure => omega
        case rel => exact ⟨kk + 1, N, by omega, by omega, by go_num, rfl, by omega, HN3, B1⟩
    · have hltz : ¬ (kk : Int) < (args.length : Int) := by omega
      have HF : N + 1 = S := by rw [HN.out, List.take_of_length_le (by omega)]; exact HS.out
      subst HF
      clear HN
      go_wp2
      go_ret
      exact ⟨by go_num, box_below BW.out⟩
/-- Are there no more than may be? -/
def Ex.small (x : Ex) : Bool := decide (x.size ≤ 200) && decide (x.deep ≤ 30)
set_option maxHeartbeats 1000000 in
theorem refSmall_any (x : Ex) (lo : Nat → Prop) (v : Value) (w : World) (h : ExIn w lo v x) (hsz : x.size ≤ 1048576) :
    Calls Tryz.prog 20 #[v] w fun e w' => e = .returned (.bool x.small) ∧ Below w.heap.size w w' := by
  have cS := refSize_any x lo v
  have cD := fun (W : World) (hh : ExIn W lo v x) => refDeep_any x lo v W hh hsz
  have hd := deep_le x
  have HX : Hid (x.small = (decide (x.size ≤ 200) && decide (x.deep ≤ 30))) := rfl
  obtain ⟨p, c, op, nm, vt, vn, vs, pos, args, hv⟩ : ∃ p c op nm vt vn vs pos args, x = .node op nm vt vn vs pos args ∧ v = .agg #[.string op, .string nm, .int .i64 vt, .int .i64 vn, .string vs, .slice p args.length c, .int .i64 pos] := by
    cases x with
    | node op nm vt vn vs pos args =>
      have h' := h
      rw [ExIn] at h'
      obtain ⟨p, c, hv, _⟩ := h'
      exact ⟨p, c, op, nm, vt, vn, vs, pos, args, rfl, hv⟩
  have B0 := (Below.refl w.heap.size w).alloc (Nat.le_refl _) (.cells #[.string op, .string nm, .int .i64 vt, .int .i64 vn, .string vs, .slice p args.length c, .int .i64 pos] 26)
  have h1 := h.on B0
  obtain ⟨_, rfl⟩ := hv
  generalize x.size = n at cS hsz HX hd
  generalize x.deep = d at cD hd HX
  obtain ⟨R, hR⟩ : ∃ R, x.small = R := ⟨_, rfl⟩
  rw [hR] at HX ⊢
  clear hR
  go_enter Tryz.func20, Tryz.ntmps20
  go_wp2_with fail
  refine (cS _ h1 hsz).mono ?_
  rintro e w1 ⟨rfl, b1⟩
  have B1 := B0.trans (b1.mono B0.size)
  have h2 := h1.on b1
  have q := fun i => box_kept (w := w) (wr := w1) (cs := #[.string op, .string nm, .int .i64 vt, .int .i64 vn, .string vs, .slice p args.length c, .int .i64 pos]) (b1.mono (by simp)) i
  have q0 := q 0
  have q1 := q 1
  have q2 := q 2
  have q3 := q 3
  have q4 := q 4
  have q5 := q 5
  have q6 := q 6
  simp at q0 q1 q2 q3 q4 q5 q6
  have ql : w.heap.size < w1.heap.size := by have := b1.size; simp at this; omega
  clear q cS
  go_wp2_with fail
  refine (cD _ h2).mono ?_
  rintro e w2 ⟨rfl, b2⟩
  have B2 := B1.trans (b2.mono B1.size)
  clear cD q0 q1 q2 q3 q4 q5 q6
  by_cases hn : n ≤ 200
  · have hnz : (n : Int) ≤ 200 := by omega
    by_cases hd : d ≤ 30
    · have hdz : (d : Int) ≤ 30 := by omega
      have HX2 : R = true := by rw [HX.out]; simp [hn, hd]
      subst HX2
      clear HX
      go_wp2
      go_ret
      exact ⟨rfl, B2⟩
    · have hdz : ¬ (d : Int) ≤ 30 := by omega
      have HX2 : R = false := by rw [HX.out]; simp [hd]
      subst HX2
      clear HX
      go_wp2
      go_ret
      exact ⟨congrArg (fun b => Ending.returned (.bool b)) (decide_eq_false (by omega)), B2⟩
  · have hnz : ¬ (n : Int) ≤ 200 := by omega
    have HX2 : R = false := by rw [HX.out]; simp [hn]
    subst HX2
    clear HX
    go_wp2
    go_ret
    exact ⟨rfl, B2⟩
end Go.Proofs.YtkoejkpjkcejcaaGreatDoor
namespace Go.Proofs.YtkoejkpjkcejcaaGreatDoor
open Go.RowKit
set_option linter.unusedVariables false

mutual
/-- Are two the same (with At, or but for it)? -/
def sameE (b : Bool) : Ex → Ex → Bool
  | .node o n t k s p l, .node o2 n2 t2 k2 s2 p2 l2 => (o.toList == o2.toList) && ((n.toList == n2.toList) && (((t == t2) && ((k == k2) && (s.toList == s2.toList))) && ((!b || p == p2) && sameL b l l2)))
def sameL (b : Bool) : List Ex → List Ex → Bool
  | [], [] => true
  | x :: xs, y :: ys => sameE b x y && sameL b xs ys
  | _, _ => false
end
theorem sameL_len {b : Bool} : ∀ {l m : List Ex}, l.length ≠ m.length → sameL b l m = false
  | [], [], h => absurd rfl h
  | [], y :: ys, _ => by simp [sameL]
  | x :: xs, [], _ => by simp [sameL]
  | x :: xs, y :: ys, h => by
    rw [sameL, sameL_len (l := xs) (m := ys) (by simpa using h), Bool.and_false]
theorem sameL_at {b : Bool} {l m : List Ex} {k : Nat} (h : k < l.length) (h2 : k < m.length) : sameL b (l.drop k) (m.drop k) = (sameE b l[k] m[k] && sameL b (l.drop (k + 1)) (m.drop (k + 1))) := by
  rw [List.drop_eq_getElem_cons h, List.drop_eq_getElem_cons h2, sameL]
theorem sameL_end {b : Bool} {l m : List Ex} {k : Nat} (h : l.length ≤ k) (h2 : m.length ≤ k) : sameL b (l.drop k) (m.drop k) = true := by
  rw [List.drop_eq_nil_of_le h, List.drop_eq_nil_of_le h2, sameL]
theorem val_eqIn (t n t2 n2 : Int) (s s2 : ByteArray) (W : World) : (Op.equalIn 10000 23 (.agg #[.int .i64 t, .int .i64 n, .string s]) (.agg #[.int .i64 t2, .int .i64 n2, .string s2])).run Tryz.prog W = .ok ((t == t2) && ((n == n2) && (s.toList == s2.toList))) W := by
  rw [show (10000 : Nat) = 9999 + 1 from rfl, run_equalIn_agg W 9999 23 _ _ (by kernel_rfl) (by kernel_rfl)]
  simp only [Program.fieldsOf, Tryz.underlying23]
  go_simp
  by_cases h1 : t = t2 <;> by_cases h2 : n = n2 <;> by_cases h3 : s.toList = s2.toList <;> simp [h1, h2, h3]
theorem val_neq (t n t2 n2 : Int) (s s2 : ByteArray) (W : World) : Sem.run Tryz.prog (binOp .neq 23 (.agg #[.int .i64 t, .int .i64 n, .string s]) (.agg #[.int .i64 t2, .int .i64 n2, .string s2])) W = .ok (.bool !((t == t2) && ((n == n2) && (s.toList == s2.toList)))) W := by
  rw [run_neq_struct, val_eqIn]; rfl
theorem box2 {w wr : World} {ca cb : Array Value} (h : Below (w.heap.size + 2) ((w.alloc (.cells ca 26)).alloc (.cells cb 26)) wr) : (∀ i : Nat, wr.cell? ⟨w.heap.size, i, none⟩ = ca[i]?) ∧ (∀ i : Nat, wr.cell? ⟨w.heap.size + 1, i, none⟩ = cb[i]?) ∧ w.heap.size + 2 ≤ wr.heap.size ∧ Below w.heap.size w wr := by
  have hz := h.size
  simp at hz
  refine ⟨fun i => ?_, fun i => ?_, by omega, (((Below.refl _ _).alloc (Nat.le_refl _) _).alloc (by simp) _).trans (h.mono (by omega))⟩
  · rw [h.cell (p := ⟨w.heap.size, i, none⟩) (by simp), World.cell?_alloc_lt _ _ _ (by simp), World.cell?_alloc_at _ _ _ _ rfl]
  · rw [h.cell (p := ⟨w.heap.size + 1, i, none⟩) (by simp), World.cell?_alloc_at _ _ _ _ (by simp)]
set_option maxHeartbeats 8000000 in
set_option maxRecDepth 20000 in
theorem sameX_any (b : Bool) : ∀ (x y : Ex) (lo lo2 : Nat → Prop) (va vb : Value) (w : World), ExIn w lo va x → ExIn w lo2 vb y →
    Calls Tryz.prog 8 #[va, vb, .bool b] w fun e w' => e = .returned (.bool (sameE b x y)) ∧ Below w.heap.size w w' := by
  refine Ex.ind fun o n t k s p l ih y lo lo2 va vb w hx hy => ?_
  obtain ⟨o2, n2, t2, k2, s2, p2, m⟩ := y
  rw [ExIn] at hx hy
  obtain ⟨pa, ca, rfl, ⟨hma, _⟩, _, _, _, hx⟩ := hx
  obtain ⟨pb, cb, rfl, ⟨hmb, _⟩, _, _, _, hy⟩ := hy
  unfold maxLen at hma hmb
  obtain ⟨E, hE⟩ : ∃ E, sameE b (.node o n t k s p l) (.node o2 n2 t2 k2 s2 p2 m) = E := ⟨_, rfl⟩
  rw [hE]
  rw [sameE] at hE
  have HE : Hid (((o.toList == o2.toList) && ((n.toList == n2.toList) && (((t == t2) && ((k == k2) && (s.toList == s2.toList))) && ((!b || p == p2) && sameL b l m)))) = E) := hE
  have HI : Hid (∀ z ∈ l, ∀ (y : Ex) (lo lo2 : Nat → Prop) (va vb : Value) (w : World), ExIn w lo va z → ExIn w lo2 vb y → Calls Tryz.prog 8 #[va, vb, .bool b] w fun e w' => e = .returned (.bool (sameE b z y)) ∧ Below w.heap.size w w') := ih
  clear hE ih
  have hv := val_neq t k t2 k2 s s2
  have B0 : Below w.heap.size w ((w.alloc (.cells #[.string o, .string n, .int .i64 t, .int .i64 k, .string s, .slice pa l.length ca, .int .i64 p] 26)).alloc (.cells #[.string o2, .string n2, .int .i64 t2, .int .i64 k2, .string s2, .slice pb m.length cb, .int .i64 p2] 26)) := ((Below.refl _ _).alloc (Nat.le_refl _) _).alloc (by simp) _
  cases h1 : o.toList == o2.toList
  · have h1' : (o.toList != o2.toList) = true := by simp [bne, h1]
    have hF : E = false := by rw [← HE.out, h1]; rfl
    subst hF
    clear HE HI hv hx hy
    go_enter Tryz.func8, Tryz.ntmps8
    go_wp2
    go_ret
    exact ⟨rfl, B0⟩
  · have h1' : (o.toList != o2.toList) = false := by simp [bne, h1]
    cases h2 : n.toList == n2.toList
    · have h2' : (n.toList != n2.toList) = true := by simp [bne, h2]
      have hF : E = false := by rw [← HE.out, h1, h2]; rfl
      subst hF
      clear HE HI hv hx hy
      go_enter Tryz.func8, Tryz.ntmps8
      go_wp2
      go_ret
      exact ⟨rfl, B0⟩
    · have h2' : (n.toList != n2.toList) = false := by simp [bne, h2]
      cases h3 : ((t == t2) && ((k == k2) && (s.toList == s2.toList)))
      · rw [h3] at hv
        have hF : E = false := by rw [← HE.out, h1, h2, h3]; rfl
        subst hF
        clear HE HI hx hy h3
        go_enter Tryz.func8, Tryz.ntmps8
        go_wp2
        go_ret
        exact ⟨rfl, B0⟩
      · rw [h3] at hv
        cases h4 : (!b || p == p2)
        · have hb : b = true := by cases b <;> simp at h4 ⊢
          subst hb
          have hpp : (p != p2) = true := by simpa [bne] using h4
          have hF : E = false := by rw [← HE.out, h1, h2, h3, h4]; rfl
          subst hF
          clear HE HI hx hy h3 h4
          go_enter Tryz.func8, Tryz.ntmps8
          go_wp2
          go_ret
          exact ⟨rfl, B0⟩
        · have HP : Hid (b = false ∨ (b = true ∧ (p != p2) = false)) := by
            cases b
            · exact .inl rfl
            · exact .inr ⟨rfl, by simpa [bne] using h4⟩
          by_cases h5 : l.length = m.length
          · have h5' : ((l.length : Int) != (m.length : Int)) = false := by simp; omega
            have HE2 : Hid (sameL b l m = E) := by
              show _ = _
              rw [← HE.out, h1, h2, h3, h4]; rfl
            have hle1 : l.length ≤ m.length := by omega
            have hle2 : m.length ≤ l.length := by omega
            clear HE h3 h4 h5
            rcases HP.out with rfl | ⟨rfl, hpp⟩
            · clear HP
              go_enter Tryz.func8, Tryz.ntmps8
              go_wp2
              go_loopg [7, 8] l.length (fun gg s7 _ wr => ∃ kk : Nat, kk ≤ l.length ∧ l.length - kk ≤ gg ∧ s7 = .int .i64 kk ∧ Aside (Below (w.heap.size + 2) ((w.alloc (.cells #[.string o, .string n, .int .i64 t, .int .i64 k, .string s, .slice pa l.length ca, .int .i64 p] 26)).alloc (.cells #[.string o2, .string n2, .int .i64 t2, .int .i64 k2, .string s2, .slice pb m.length cb, .int .i64 p2] 26)) wr) ∧ Hid (sameL false (l.drop kk) (m.drop kk) = E))
              case atStart => exact ⟨0, Nat.zero_le _, by omega, rfl, (show Aside _ from Below.refl _ _), by rw [List.drop_zero, List.drop_zero]; exact HE2⟩
              case round =>
                obtain ⟨kk, hkk, hg, rfl, BW, HS⟩ := hrel
                obtain ⟨qa, qb, qz, hb⟩ := box2 BW.out
                have qa5 := qa 5
                have qb5 := qb 5
                simp at qa5 qb5
                clear qa qb
                by_cases hlt : kk < l.length
                · have hltz : (kk : Int) < (l.length : Int) := by omega
                  have hltm : (kk : Int) < (m.length : Int) := by omega
                  have k0 : (0 : Int) ≤ (kk : Int) := by omega
                  rcases hx with h0 | ⟨xb, xo, rfl, hxl, _, hx⟩
                  · exact absurd h0 (by omega)
                  rcases hy with h0 | ⟨yb, yo, rfl, hyl, _, hy⟩
                  · exact absurd h0 (by omega)
                  obtain ⟨v0, v1, v2, v3, v4, v5, v6, e0, e1, e2, e3, e4, e5, e6, hxk⟩ := exsIn_at w lo xb l xo hx kk hlt
                  obtain ⟨u0, u1, u2, u3, u4, u5, u6, f0, f1, f2, f3, f4, f5, f6, hyk⟩ := exsIn_at w lo2 yb m yo hy kk (by omega)
                  have keyx : ∀ o : Nat, wr.cell? ⟨xb, o, none⟩ = w.cell? ⟨xb, o, none⟩ := fun o => hb.cell (p := ⟨xb, o, none⟩) hxl
                  have keyy : ∀ o : Nat, wr.cell? ⟨yb, o, none⟩ = w.cell? ⟨yb, o, none⟩ := fun o => hb.cell (p := ⟨yb, o, none⟩) hyl
                  rw [← keyx] at e0 e1 e2 e3 e4 e5 e6
                  rw [← keyy] at f0 f1 f2 f3 f4 f5 f6
                  have hxr : xb < wr.heap.size := by omega
                  have hyr : yb < wr.heap.size := by omega
                  have cI := fun q => HI.out _ (List.getElem_mem hlt) (m[kk]'(by omega)) lo lo2 _ _ (wr.drewN q) (hxk.on (below_drewN hb q)) (hyk.on (below_drewN hb q))
                  have HS2 : Hid ((sameE false l[kk] (m[kk]'(by omega)) && sameL false (l.drop (kk + 1)) (m.drop (kk + 1))) = E) := by
                    show _ = _
                    rw [← HS.out, sameL_at hlt (by omega)]
                  generalize sameE false l[kk] (m[kk]'(by omega)) = R at cI HS2
                  clear keyx keyy hx hy hxk hyk HS
                  go_wp2
                  go_region_with (go_at_call 8; refine (cI _).mono ?_; rintro e w' ⟨rfl, b2⟩)
                  all_goals
                    have B2 := (below_drewN BW.out _).trans (b2.mono qz)
                    cases R
                    · have hF : E = false := by rw [← HS2.out]; rfl
                      subst hF
                      go_wp2
                      go_ret
                      exact ⟨rfl, (box2 B2).2.2.2⟩
                    · have HS3 : Hid (sameL false (l.drop (kk + 1)) (m.drop (kk + 1)) = E) := by
                        show _ = _
                        rw [← HS2.out]; rfl
                      go_wp2
                      go_roundg (l.length - (kk + 1))
                      case measure => omega
                      case rel => exact ⟨kk + 1, by omega, by omega, by go_num, B2, HS3⟩
                · have hltz : ¬ (kk : Int) < (l.length : Int) := by omega
                  have hF : E = true := by rw [← HS.out, sameL_end (by omega) (by omega)]
                  subst hF
                  clear HS
                  go_wp2
                  go_ret
                  exact ⟨rfl, hb⟩
            · clear HP
              go_enter Tryz.func8, Tryz.ntmps8
              go_wp2
              go_loopg [7, 8] l.length (fun gg s7 _ wr => ∃ kk : Nat, kk ≤ l.length ∧ l.length - kk ≤ gg ∧ s7 = .int .i64 kk ∧ Aside (Below (w.heap.size + 2) ((w.alloc (.cells #[.string o, .string n, .int .i64 t, .int .i64 k, .string s, .slice pa l.length ca, .int .i64 p] 26)).alloc (.cells #[.string o2, .string n2, .int .i64 t2, .int .i64 k2, .string s2, .slice pb m.length cb, .int .i64 p2] 26)) wr) ∧ Hid (sameL true (l.drop kk) (m.drop kk) = E))
              case atStart => exact ⟨0, Nat.zero_le _, by omega, rfl, (show Aside _ from Below.refl _ _), by rw [List.drop_zero, List.drop_zero]; exact HE2⟩
              case round =>
                obtain ⟨kk, hkk, hg, rfl, BW, HS⟩ := hrel
                obtain ⟨qa, qb, qz, hb⟩ := box2 BW.out
                have qa5 := qa 5
                have qb5 := qb 5
                simp at qa5 qb5
                clear qa qb
                by_cases hlt : kk < l.length
                · have hltz : (kk : Int) < (l.length : Int) := by omega
                  have hltm : (kk : Int) < (m.length : Int) := by omega
                  have k0 : (0 : Int) ≤ (kk : Int) := by omega
                  rcases hx with h0 | ⟨xb, xo, rfl, hxl, _, hx⟩
                  · exact absurd h0 (by omega)
                  rcases hy with h0 | ⟨yb, yo, rfl, hyl, _, hy⟩
                  · exact absurd h0 (by omega)
                  obtain ⟨v0, v1, v2, v3, v4, v5, v6, e0, e1, e2, e3, e4, e5, e6, hxk⟩ := exsIn_at w lo xb l xo hx kk hlt
                  obtain ⟨u0, u1, u2, u3, u4, u5, u6, f0, f1, f2, f3, f4, f5, f6, hyk⟩ := exsIn_at w lo2 yb m yo hy kk (by omega)
                  have keyx : ∀ o : Nat, wr.cell? ⟨xb, o, none⟩ = w.cell? ⟨xb, o, none⟩ := fun o => hb.cell (p := ⟨xb, o, none⟩) hxl
                  have keyy : ∀ o : Nat, wr.cell? ⟨yb, o, none⟩ = w.cell? ⟨yb, o, none⟩ := fun o => hb.cell (p := ⟨yb, o, none⟩) hyl
                  rw [← keyx] at e0 e1 e2 e3 e4 e5 e6
                  rw [← keyy] at f0 f1 f2 f3 f4 f5 f6
                  have hxr : xb < wr.heap.size := by omega
                  have hyr : yb < wr.heap.size := by omega
                  have cI := fun q => HI.out _ (List.getElem_mem hlt) (m[kk]'(by omega)) lo lo2 _ _ (wr.drewN q) (hxk.on (below_drewN hb q)) (hyk.on (below_drewN hb q))
                  have HS2 : Hid ((sameE true l[kk] (m[kk]'(by omega)) && sameL true (l.drop (kk + 1)) (m.drop (kk + 1))) = E) := by
                    show _ = _
                    rw [← HS.out, sameL_at hlt (by omega)]
                  generalize sameE true l[kk] (m[kk]'(by omega)) = R at cI HS2
                  clear keyx keyy hx hy hxk hyk HS
                  go_wp2
                  go_region_with (go_at_call 8; refine (cI _).mono ?_; rintro e w' ⟨rfl, b2⟩)
                  all_goals
                    have B2 := (below_drewN BW.out _).trans (b2.mono qz)
                    cases R
                    · have hF : E = false := by rw [← HS2.out]; rfl
                      subst hF
                      go_wp2
                      go_ret
                      exact ⟨rfl, (box2 B2).2.2.2⟩
                    · have HS3 : Hid (sameL true (l.drop (kk + 1)) (m.drop (kk + 1)) = E) := by
                        show _ = _
                        rw [← HS2.out]; rfl
                      go_wp2
                      go_roundg (l.length - (kk + 1))
                      case measure => omega
                      case rel => exact ⟨kk + 1, by omega, by omega, by go_num, B2, HS3⟩
                · have hltz : ¬ (kk : Int) < (l.length : Int) := by omega
                  have hF : E = true := by rw [← HS.out, sameL_end (by omega) (by omega)]
                  subst hF
                  clear HS
                  go_wp2
                  go_ret
                  exact ⟨rfl, hb⟩
          · have h5' : ((l.length : Int) != (m.length : Int)) = true := by simp; omega
            have hF : E = false := by rw [← HE.out, h1, h2, h3, h4, sameL_len h5]; rfl
            subst hF
            clear HE HI hx hy h3 h4
            rcases HP.out with rfl | ⟨rfl, hpp⟩
            · go_enter Tryz.func8, Tryz.ntmps8
              go_wp2
              go_ret
              exact ⟨rfl, B0⟩
            · go_enter Tryz.func8, Tryz.ntmps8
              go_wp2
              go_ret
              exact ⟨rfl, B0⟩
end Go.Proofs.YtkoejkpjkcejcaaGreatDoor
