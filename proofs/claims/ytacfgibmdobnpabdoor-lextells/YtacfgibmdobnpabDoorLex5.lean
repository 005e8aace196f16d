/-
  What Tokens of package lex says of any text: all its words, or where it goes wrong.
-/
import Derived.Test.YtacfgibmdobnpabDoorLex4
import Derived.Test.YtacfgibmdobnpabDoorLexPure2
import Derived.Test.YtacfgibmdobnpabDoorClone
import Derived.Deep.RegionWith
namespace Go.Proofs.YtacfgibmdobnpabDoor
open Go.RowKit
set_option linter.unusedVariables false

def tokCells (ts : List Tok) : List Value := ts.flatMap fun t => [.int .i64 t.1, .string t.2.1, .int .i64 (t.2.2 : Int)]
/-- The words of a list lie in memory one behind the other. -/
def ToksIn (w : World) (b off : Nat) (ts : List Tok) : Prop :=
  b < w.heap.size ∧ ∀ j (h : j < ts.length), w.cell? ⟨b, off + j * 3, none⟩ = some (.int .i64 ts[j].1) ∧ w.cell? ⟨b, off + j * 3 + 1, none⟩ = some (.string ts[j].2.1) ∧ w.cell? ⟨b, off + j * 3 + 2, none⟩ = some (.int .i64 (ts[j].2.2 : Int))
theorem ToksIn.on {w w' : World} {b off : Nat} {ts : List Tok} (h : ToksIn w b off ts) (hb : Below w.heap.size w w') : ToksIn w' b off ts :=
  ⟨by have := hb.size; have := h.1; omega, fun j hj => by
    rw [hb.cell (p := ⟨b, off + j * 3, none⟩) h.1, hb.cell (p := ⟨b, off + j * 3 + 1, none⟩) h.1, hb.cell (p := ⟨b, off + j * 3 + 2, none⟩) h.1]; exact h.2 j hj⟩
/-- A list of words as a Go value. -/
def IsToks (w : World) (v : Value) (ts : List Tok) : Prop :=
  ∃ p c, v = .slice p ts.length c ∧ ts.length ≤ maxLen ∧ (ts.length = 0 ∨ ∃ b off, p = some ⟨b, off, none⟩ ∧ ToksIn w b off ts)
theorem IsToks.on {w w' : World} {v : Value} {ts : List Tok} (h : IsToks w v ts) (hb : Below w.heap.size w w') : IsToks w' v ts := by
  obtain ⟨p, c, e, hm, h⟩ := h
  refine ⟨p, c, e, hm, ?_⟩
  rcases h with h | ⟨b, off, e2, h⟩
  · exact .inl h
  · exact .inr ⟨b, off, e2, h.on hb⟩
theorem tokCells_at : ∀ (ts : List Tok) (j : Nat) (h : j < ts.length), (tokCells ts)[j * 3]? = some (.int .i64 ts[j].1) ∧ (tokCells ts)[j * 3 + 1]? = some (.string ts[j].2.1) ∧ (tokCells ts)[j * 3 + 2]? = some (.int .i64 (ts[j].2.2 : Int))
  | [], j, h => absurd h (by simp)
  | t :: ts, 0, _ => by simp [tokCells]
  | t :: ts, j + 1, h => by
    have ih := tokCells_at ts j (by simpa using h)
    have e : tokCells (t :: ts) = .int .i64 t.1 :: .string t.2.1 :: .int .i64 (t.2.2 : Int) :: tokCells ts := rfl
    rw [e, show (j + 1) * 3 = j * 3 + 1 + 1 + 1 by omega]
    simp only [List.getElem?_cons_succ]
    simpa using ih
theorem own_toks {W : World} {base : Nat} {v : Value} {ts : List Tok} (h : W.ownsRow base 41 3 v ts.length (tokCells ts)) : IsToks W v ts := by
  rcases h.2 with ⟨e, h0⟩ | ⟨g, cap, cur, e, _, hgg, hcap, hmx, _, _⟩
  · exact ⟨none, 0, by rw [e, h0], by omega, .inl h0⟩
  · refine ⟨_, cap, e, by omega, .inr ⟨g, 0, rfl, (Array.getElem?_eq_some_iff.1 hgg).1, fun j hj => ?_⟩⟩
    obtain ⟨e0, e1, e2⟩ := tokCells_at ts j hj
    have h0 := h.cells (g := g) (by rw [e]; rfl) _ _ e0
    have h1 := h.cells (g := g) (by rw [e]; rfl) _ _ e1
    have h2 := h.cells (g := g) (by rw [e]; rfl) _ _ e2
    rw [Go.WideShapes.add_plain] at h0 h1 h2
    exact ⟨h0, h1, h2⟩
theorem isToks_nil (w : World) : IsToks w (.slice none 0 0) [] := ⟨none, 0, rfl, Nat.zero_le _, .inl rfl⟩
theorem lown_slice {W : World} {base : Nat} {e : TypeId} {size : Nat} {v : Value} {n : Nat} {xs : List Value} (h : W.ownsRow base e size v n xs) : ∃ p c, v = .slice p n c := by
  rcases h.2 with ⟨rfl, rfl⟩ | ⟨g, cap, cur, rfl, _⟩
  · exact ⟨_, _, rfl⟩
  · exact ⟨_, _, rfl⟩
theorem lown_below {W W' : World} {base : Nat} {e : TypeId} {size : Nat} {v : Value} {n : Nat} {xs : List Value} (h : W.ownsRow base e size v n xs) (hb : Below W.heap.size W W') : W'.ownsRow base e size v n xs := by
  refine ⟨h.1, ?_⟩
  rcases h.2 with hn | ⟨g, cap, cur, rfl, h1, hgg, rest⟩
  · exact .inl hn
  · exact .inr ⟨g, cap, cur, rfl, h1, by rw [hb.block g (Array.getElem?_eq_some_iff.1 hgg).1]; exact hgg, rest⟩
theorem lown_set {W : World} {b : Nat} {e : TypeId} {size : Nat} {v : Value} {n : Nat} {xs : List Value} (h : W.ownsRow (b + 1) e size v n xs) (o : Nat) (x : Value) : (W.setCell ⟨b, o, none⟩ x).ownsRow (b + 1) e size v n xs := by
  refine ⟨h.1, ?_⟩
  rcases h.2 with hn | ⟨g, cap, cur, rfl, h1, hgg, rest⟩
  · exact .inl hn
  · refine .inr ⟨g, cap, cur, rfl, h1, ?_, rest⟩
    rw [Below.heap_setCell _ _ _ _ (fun e => by simp at e; omega)]
    exact hgg
theorem info_tok : (Tryd.prog.info? 41).map (fun i => (i.zero, i.size, i.bytes)) = some (some (.agg #[.int .i64 0, .string ⟨#[]⟩, .int .i64 0]), 3, 32) := by kernel_rfl
theorem rel_tok {B : Nat} {l : List Tok} {k : Int} {x : ByteArray} {a : Nat} {w wr w1 : World} {v v' : Value} {o : Obj} (hown : wr.ownsRow B 41 3 v l.length (tokCells l)) (hnx : Below B w wr) (hB : B ≤ wr.heap.size)
    (hown' : w1.ownsRow B 41 3 v' (l.length + 1) (tokCells l ++ [.int .i64 k, .string x, .int .i64 (a : Int)])) (hgrow : (wr.alloc o).grownBy w1 v.ownBlock) :
    w1.ownsRow B 41 3 v' (l ++ [(k, x, a)]).length (tokCells (l ++ [(k, x, a)])) ∧ Below B w w1 :=
  ⟨by rw [List.length_append]; simpa [tokCells] using hown', (hnx.alloc hB o).grown hgrow (by simp; omega) (fun j hj => (hown.lt j hj).1)⟩
/-- What the result's cell is between the calls. -/
theorem fault_kept {w wr : World} (h : Below (w.heap.size + 1) (w.alloc (.cells #[.int .i64 0, .int .i64 0] 36)) wr) :
    wr.cell? ⟨w.heap.size, 0, none⟩ = some (.int .i64 0) ∧ wr.cell? ⟨w.heap.size, 1, none⟩ = some (.int .i64 0) ∧ wr.frozen? ⟨w.heap.size, 0, none⟩ = false ∧ wr.frozen? ⟨w.heap.size, 1, none⟩ = false ∧ w.heap.size < wr.heap.size := by
  have hz := h.size
  simp at hz
  refine ⟨?_, ?_, ?_, ?_, by omega⟩
  · rw [h.cell (p := ⟨w.heap.size, 0, none⟩) (Nat.lt_succ_self _), World.cell?_alloc_at _ _ _ _ rfl]; rfl
  · rw [h.cell (p := ⟨w.heap.size, 1, none⟩) (Nat.lt_succ_self _), World.cell?_alloc_at _ _ _ _ rfl]; rfl
  · rw [h.frozen (p := ⟨w.heap.size, 0, none⟩) (Nat.lt_succ_self _)]; simp
  · rw [h.frozen (p := ⟨w.heap.size, 1, none⟩) (Nat.lt_succ_self _)]; simp
theorem fault_below {w wr : World} (h : Below (w.heap.size + 1) (w.alloc (.cells #[.int .i64 0, .int .i64 0] 36)) wr) : Below w.heap.size w wr :=
  ((Below.refl _ _).alloc (Nat.le_refl _) _).trans (h.mono (Nat.le_succ _))
set_option maxHeartbeats 1000000 in
theorem tokens_full (s : ByteArray) (w : World) (h : 400 < s.size) :
    Calls Tryd.prog 10 #[.string s] w fun e w' => e = .returned (.tuple #[.slice none 0 0, .agg #[.int .i64 4, .int .i64 0]]) ∧ Below w.heap.size w w' := by
  have hz : (400 : Int) < (s.size : Int) := by omega
  go_enter Tryd.func10, Tryd.ntmps10
  go_wp2
  refine bodyPost_ret (v := .tuple #[.slice none 0 0, .agg #[.int .i64 4, .int .i64 0]]) (by simp [results, Tryd.results10, go_sem]) rfl ⟨rfl, ?_⟩
  exact (Below.refl _ _).alloc (Nat.le_refl _) _
set_option maxHeartbeats 8000000 in
set_option maxRecDepth 20000 in
theorem tokens_loop (s : ByteArray) (w : World) (henv : Env w) (hw : SG w) (h400 : s.size ≤ 400) :
    Calls Tryd.prog 10 #[.string s] w fun e w' => (∃ v, e = .returned (.tuple #[v, .agg #[.int .i64 (lexS (s.size + 1) 0 s.data.toList []).2.1, .int .i64 ((lexS (s.size + 1) 0 s.data.toList []).2.2 : Nat)]]) ∧ IsToks w' v (lexS (s.size + 1) 0 s.data.toList []).1) ∧ Below w.heap.size w w' := by
  obtain ⟨R, E, P, hR⟩ : ∃ R E P, lexS (s.size + 1) 0 s.data.toList [] = (R, E, P) := ⟨_, _, _, rfl⟩
  rw [hR]
  simp only
  obtain ⟨i0, hi, hz0, hz1, hz2⟩ := info_parts info_tok
  have hz : ¬ (400 : Int) < (s.size : Int) := by omega
  have hgo : goN blB s.data.toList ≤ s.size := by have := goN_le blB s.data.toList; simpa using this
  obtain ⟨A0, hA0⟩ : ∃ A, goN blB s.data.toList = A := ⟨_, rfl⟩
  have cB := fun W => goesOn_blank s W (by unfold maxLen; omega)
  have HR0 : Hid ((R, E, P) = lexA (s.size + 1) A0 (s.data.toList.drop A0) []) := by
    show _ = _
    rw [← hR, lexS, hA0, Nat.zero_add]
  rw [hA0] at hgo cB
  clear hR hA0
  go_enter Tryd.func10, Tryd.ntmps10
  go_wp2_with (go_at_call 19; refine (cB _).mono ?_; rintro e w' ⟨rfl, rfl⟩)
  go_loopg [4, 5, 6, 7, 8] (s.size + 1) (fun gg s4 s5 _ _ _ wr => ∃ (a : Nat) (acc : List Tok), s5 = .int .i64 a ∧ a ≤ s.size ∧ s.size - a < gg ∧ wr.ownsRow (w.heap.size + 1) 41 3 s4 acc.length (tokCells acc) ∧ Aside (Below (w.heap.size + 1) (w.alloc (.cells #[.int .i64 0, .int .i64 0] 36)) wr) ∧ Hid ((R, E, P) = lexA gg a (s.data.toList.drop a) acc) ∧ acc.length ≤ a)
  case atStart => exact ⟨A0, [], rfl, hgo, by omega, World.ownsRow_nil _ _ _ _, (show Aside _ from Below.refl _ _), HR0, Nat.zero_le _⟩
  case round =>
    obtain ⟨a, acc, rfl, ha, hg, hown, BW, HR, hacc⟩ := hrel
    obtain ⟨vp, vc, rfl⟩ := lown_slice hown
    obtain ⟨g', rfl⟩ : ∃ g', gk = g' + 1 := ⟨gk - 1, by omega⟩
    clear HR0 cB
    by_cases hlt : a < s.size
    · have hltz : (a : Int) < (s.size : Int) := by omega
      obtain ⟨X, hX, hX1, hX2⟩ := slice_off s a ha
      have hne : s.data.toList.drop a ≠ [] := by rw [drop_cons s a hlt]; simp
      have HX1 : Hid (X.data.toList = s.data.toList.drop a) := hX1
      have BW0 := fault_below BW.out
      have cT := tokenAhead_any X wr (henv.on BW0) (hw.on BW0) (by omega) (by omega)
      clear hX1 BW0
      have HNE : Hid (s.data.toList.drop a ≠ []) := hne
      clear hne
      go_wp2_with fail
      refine cT.mono ?_
      rintro e w1 ⟨⟨k, n, h, rfl, HT⟩, b1⟩
      have B1 := BW.out.trans (b1.mono (by have := BW.out.size; simpa using this))
      have o1 := lown_below hown b1
      clear b1 hown cT BW
      have ht : tokAt (s.data.toList.drop a) = (k, n, h) := by rw [← HX1.out]; exact HT.out
      by_cases h0 : h = 0
      · subst h0
        obtain ⟨hn1, hn2⟩ := tokAt_len ht
        have hn3 : a + n ≤ s.size := by rw [List.length_drop] at hn2; simp at hn2; omega
        obtain ⟨Y, hY, hY1, hY2⟩ := slice_mid s a (a + n) (by omega) hn3
        obtain ⟨Z, hZ, hZ1, hZ2⟩ := slice_off s (a + n) hn3
        have hYz : ∀ W : World, Sem.run Tryd.prog (Instr.slice 9 (.string s) (some (.int .i64 (a : Int))) (some (.int .i64 ((a : Int) + (n : Int)))) none) W = .ok (.string Y) W := by
          have e : ((a + n : Nat) : Int) = (a : Int) + (n : Int) := by omega
          rw [e] at hY; exact hY
        have hZz : ∀ W : World, Sem.run Tryd.prog (Instr.slice 9 (.string s) (some (.int .i64 ((a : Int) + (n : Int)))) none none) W = .ok (.string Z) W := by
          have e : ((a + n : Nat) : Int) = (a : Int) + (n : Int) := by omega
          rw [e] at hZ; exact hZ
        have hYe : Y = ⟨((s.data.toList.drop a).take n).toArray⟩ := eq_of_list (by rw [hY1, show a + n - a = n from by omega])
        have HR2 : Hid ((R, E, P) = lexS g' (a + n) (s.data.toList.drop (a + n)) (acc ++ [(k, Y, a)])) := by
          show _ = _
          rw [HR.out, lexA_tok g' a _ acc HNE.out ht, ← hYe, List.drop_drop]
        have hgz : goN blB Z.data.toList ≤ s.size - (a + n) := by have := goN_le blB Z.data.toList; simp at this; omega
        obtain ⟨G, hG⟩ : ∃ G, goN blB Z.data.toList = G := ⟨_, rfl⟩
        have cB2 := fun W => goesOn_blank Z W (by unfold maxLen; omega)
        rw [hG] at cB2 hgz
        have HR3 : Hid ((R, E, P) = lexA g' (a + n + G) (s.data.toList.drop (a + n + G)) (acc ++ [(k, Y, a)])) := by
          show _ = _
          rw [HR2.out, lexS, ← hZ1, hG, hZ1, List.drop_drop]
        clear HR HR2 hY hZ hY1 hZ1 hYe hG ht HT hn2
        go_wp2_with fail
        refine (clone_any Y _ (by omega)).mono ?_
        rintro e w2 ⟨rfl, b2⟩
        have B2 := B1.trans (b2.mono (by have := B1.size; simpa using this))
        have o2 := lown_below o1 b2
        clear b2 o1 B1
        go_wp2_with (at_builtin; refine wpList_append_own _ rfl _ _ 31 rfl (w.heap.size + 1) 41 i0 (.agg #[.int .i64 0, .string ⟨#[]⟩, .int .i64 0]) 3 32 Tryd.underlying31 hi hz0 hz1 hz2 rfl (by decide) _ _ _ rfl (o2.alloc _) ⟨w2.heap.size, 0, none⟩ 1 1 [.int .i64 k, .string Y, .int .i64 (a : Int)] rfl rfl ?c1 ?c2 ?c3 ?c4 ?c5 ?_)
        case c1 =>
          intro i u hu
          rw [Go.WideShapes.add_plain]
          match i, hu with
          | 0, hu => simp at hu; subst hu; rw [World.cell?_alloc_at _ _ _ _ (by simp)]; rfl
          | 1, hu => simp at hu; subst hu; rw [World.cell?_alloc_at _ _ _ _ (by simp)]; rfl
          | 2, hu => simp at hu; subst hu; rw [World.cell?_alloc_at _ _ _ _ (by simp)]; rfl
        case c2 =>
          intro u hu
          simp at hu
          rcases hu with rfl | rfl | rfl <;> rfl
        case c3 => unfold maxLen; omega
        case c4 => omega
        case c5 => have := B2.size; simp at this ⊢; omega
        · intro v' w3 hown' hgrow _
          have RR := rel_tok o2 B2 (by have := B2.size; simp at this; omega) hown' hgrow
          clear hown' hgrow o2
          go_wp2_with fail
          refine (cB2 _).mono ?_
          rintro e w4 ⟨rfl, hq4⟩
          obtain rfl : w3 = w4 := hq4.symm
          go_wp2
          go_roundg g'
          case measure => omega
          case rel => exact ⟨a + n + G, acc ++ [(k, Y, a)], by go_num, by omega, by omega, RR.1, RR.2, HR3, by rw [List.length_append, List.length_singleton]; omega⟩
      · have hF : (R, E, P) = ([], h, a) := by rw [HR.out, lexA_bad g' a _ acc HNE.out ht h0]
        have he := Prod.mk.inj hF
        obtain ⟨rfl, he⟩ := he
        obtain ⟨rfl, rfl⟩ := Prod.mk.inj he
        have hz0 : (E != 0) = true := by simpa using h0
        obtain ⟨q0, q1, q2, q3, ql⟩ := fault_kept B1
        clear HR ht HT h0 hF he o1
        go_wp2
        refine bodyPost_ret (v := .tuple #[.slice none 0 0, .agg #[.int .i64 E, .int .i64 (P : Nat)]]) (by simp [results, Tryd.results10, go_sem, q0, q1]) rfl ⟨⟨_, rfl, isToks_nil _⟩, ?_⟩
        exact ((fault_below B1).setCell (Nat.le_refl _) _).setCell (Nat.le_refl _) _
    · have hltz : ¬ (a : Int) < (s.size : Int) := by omega
      have hF : (R, E, P) = (acc, 0, 0) := by
        have h := HR.out
        rw [List.drop_eq_nil_of_le (by simp; omega), lexA_nil] at h
        exact h
      obtain ⟨rfl, he⟩ := Prod.mk.inj hF
      obtain ⟨rfl, rfl⟩ := Prod.mk.inj he
      obtain ⟨q0, q1, q2, q3, ql⟩ := fault_kept BW.out
      clear HR hF he
      go_wp2
      refine bodyPost_ret (v := .tuple #[.slice vp R.length vc, .agg #[.int .i64 0, .int .i64 0]]) (by simp [results, Tryd.results10, go_sem, q0, q1]) rfl ⟨⟨_, rfl, ?_⟩, ?_⟩
      · exact own_toks (lown_set (lown_set hown 0 (.int .i64 0)) 1 (.int .i64 0))
      · exact ((fault_below BW.out).setCell (Nat.le_refl _) _).setCell (Nat.le_refl _) _
theorem tokens_any (s : ByteArray) (w : World) (henv : Env w) (hw : SG w) :
    Calls Tryd.prog 10 #[.string s] w fun e w' => (∃ v, e = .returned (.tuple #[v, .agg #[.int .i64 (lexAll s.data.toList).2.1, .int .i64 ((lexAll s.data.toList).2.2 : Nat)]]) ∧ IsToks w' v (lexAll s.data.toList).1) ∧ Below w.heap.size w w' := by
  have hl : s.data.toList.length = s.size := by simp
  by_cases h : 400 < s.size
  · rw [lexAll, if_pos (by omega)]
    exact (tokens_full s w h).mono fun e w' hh => ⟨⟨_, hh.1, isToks_nil _⟩, hh.2⟩
  · rw [lexAll, if_neg (by omega), hl]
    exact tokens_loop s w henv hw (by omega)
/-- The same, the answer under a name. -/
theorem tokens_as (s : ByteArray) (R : List Tok) (E : Int) (P : Nat) (w : World) (henv : Env w) (hw : SG w) (h : lexAll s.data.toList = (R, E, P)) :
    Calls Tryd.prog 10 #[.string s] w fun e w' => (∃ v, e = .returned (.tuple #[v, .agg #[.int .i64 E, .int .i64 (P : Nat)]]) ∧ IsToks w' v R) ∧ Below w.heap.size w w' := by
  have := tokens_any s w henv hw
  rw [h] at this
  exact this
end Go.Proofs.YtacfgibmdobnpabDoor
