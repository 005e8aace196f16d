/-
  Clone, Lex5, QrA, QuC2, WdA, in one text.
-/
import Derived.Test.YtkbhmghdonomnaaGreatDoorZShelf
import Derived.WalkKit
import Derived.Below
import Derived.Test.YtkbhmghdonomnaaGreatDoorGzAd
import Derived.Test.YtkbhmghdonomnaaGreatDoorGzAr
import Derived.Test.YtkbhmghdonomnaaGreatDoorGzAe
import Derived.Deep.RegionWith
import Derived.Test.YtkbhmghdonomnaaGreatDoorGzAo
import Derived.Test.YtkbhmghdonomnaaGreatDoorGzAn
import Derived.Test.YtkbhmghdonomnaaGreatDoorGzAi
import Derived.Deep.RegionHeld3
import Derived.Deep.MidRow
import Derived.Test.YtkbhmghdonomnaaGreatDoorGzAa
import Derived.OwnWalk
import Derived.Laws.AppendOwnNone
import Derived.Laws.OwnMore
import Derived.WalkSmall
import Derived.BigQuiet
import Derived.Deep.QuietTactic
import Derived.Deep.LoopGhost
import Derived.Lib.OthersKept
namespace Go.Proofs.YtkbhmghdonomnaaGreatDoor
open Go.RowKit

theorem clone_any (s : ByteArray) (w : World) (hs : s.size ≤ 281474976710656) :
    Calls Tryz.prog 60 #[.string s] w fun e w' => e = .returned (.string s) ∧ Below w.heap.size w w' := by
  go_enter Tryz.func60, Tryz.ntmps60
  go_wp2_with fail
  refine (Tryz.stringslite_Clone s _ hs).mono ?_
  rintro e w1 ⟨rfl, b1⟩
  go_wp2
  go_ret
  exact ⟨rfl, b1⟩
end Go.Proofs.YtkbhmghdonomnaaGreatDoor
namespace Go.Proofs.YtkbhmghdonomnaaGreatDoor
open Go.RowKit
set_option linter.unusedVariables false

/-- A slice is no longer than its room. -/
def capOk (v : Value) : Prop := match v with
  | .slice _ n c => n ≤ c
  | _ => True
theorem own_cap {W : World} {base : Nat} {e : TypeId} {size : Nat} {v : Value} {n : Nat} {xs : List Value} (h : W.ownsRow base e size v n xs) : capOk v := by
  rcases h.2 with ⟨rfl, h0⟩ | ⟨g, cap, cur, rfl, _, _, hcap, _⟩
  · exact Nat.le_refl _
  · exact hcap
/-- What the result's cell is between the calls. -/
theorem fault_kept {w wr : World} (h : Below (w.heap.size + 1) (w.alloc (.cells #[.int .i64 0, .int .i64 0] 34)) wr) :
    wr.cell? ⟨w.heap.size, 0, none⟩ = some (.int .i64 0) ∧ wr.cell? ⟨w.heap.size, 1, none⟩ = some (.int .i64 0) ∧ wr.frozen? ⟨w.heap.size, 0, none⟩ = false ∧ wr.frozen? ⟨w.heap.size, 1, none⟩ = false ∧ w.heap.size < wr.heap.size := by
  have hz := h.size
  simp at hz
  refine ⟨?_, ?_, ?_, ?_, by omega⟩
  · rw [h.cell (p := ⟨w.heap.size, 0, none⟩) (Nat.lt_succ_self _), World.cell?_alloc_at _ _ _ _ rfl]; rfl
  · rw [h.cell (p := ⟨w.heap.size, 1, none⟩) (Nat.lt_succ_self _), World.cell?_alloc_at _ _ _ _ rfl]; rfl
  · rw [h.frozen (p := ⟨w.heap.size, 0, none⟩) (Nat.lt_succ_self _)]; simp
  · rw [h.frozen (p := ⟨w.heap.size, 1, none⟩) (Nat.lt_succ_self _)]; simp
theorem fault_below {w wr : World} (h : Below (w.heap.size + 1) (w.alloc (.cells #[.int .i64 0, .int .i64 0] 34)) wr) : Below w.heap.size w wr :=
  ((Below.refl _ _).alloc (Nat.le_refl _) _).trans (h.mono (Nat.le_succ _))
set_option maxHeartbeats 1000000 in
theorem tokens_full (s : ByteArray) (w : World) (h : 400 < s.size) :
    Calls Tryz.prog 27 #[.string s] w fun e w' => e = .returned (.tuple #[.slice none 0 0, .agg #[.int .i64 4, .int .i64 0]]) ∧ Below w.heap.size w w' := by
  have hz : (400 : Int) < (s.size : Int) := by omega
  go_enter Tryz.func27, Tryz.ntmps27
  go_wp2
  refine bodyPost_ret (v := .tuple #[.slice none 0 0, .agg #[.int .i64 4, .int .i64 0]]) (by simp [results, Tryz.results27, go_sem]) rfl ⟨rfl, ?_⟩
  exact (Below.refl _ _).alloc (Nat.le_refl _) _
set_option maxHeartbeats 8000000 in
set_option maxRecDepth 20000 in
theorem tokens_loop (s : ByteArray) (w : World) (henv : Env w) (hw : SG w) (h400 : s.size ≤ 400) :
    Calls Tryz.prog 27 #[.string s] w fun e w' => (∃ v, e = .returned (.tuple #[v, .agg #[.int .i64 (lexS (s.size + 1) 0 s.data.toList []).2.1, .int .i64 ((lexS (s.size + 1) 0 s.data.toList []).2.2 : Nat)]]) ∧ IsToks w' v (lexS (s.size + 1) 0 s.data.toList []).1 ∧ capOk v) ∧ Below w.heap.size w w' := by
  obtain ⟨R, E, P, hR⟩ : ∃ R E P, lexS (s.size + 1) 0 s.data.toList [] = (R, E, P) := ⟨_, _, _, rfl⟩
  rw [hR]
  simp only
  obtain ⟨i0, hi, hz0, hz1, hz2⟩ := info_parts info_tok
  have hz : ¬ (400 : Int) < (s.size : Int) := by omega
  have hgo : goN blB s.data.toList ≤ s.size := by have := goN_le blB s.data.toList; simpa using this
  obtain ⟨A0, hA0⟩ : ∃ A, goN blB s.data.toList = A := ⟨_, rfl⟩
  have cB := fun W => goesOn_blank s W (by unfold maxLen; omega)
  have HR0 : Hid ((R, E, P) = lexA (s.size + 1) A0 (s.data.toList.drop A0) []) := by
    show _ = _
    rw [← hR, lexS, hA0, Nat.zero_add]
  rw [hA0] at hgo cB
  clear hR hA0
  go_enter Tryz.func27, Tryz.ntmps27
  go_wp2_with (go_at_call 64; refine (cB _).mono ?_; rintro e w' ⟨rfl, rfl⟩)
  go_loopg [4, 5, 6, 7, 8] (s.size + 1) (fun gg s4 s5 _ _ _ wr => ∃ (a : Nat) (acc : List Tok), s5 = .int .i64 a ∧ a ≤ s.size ∧ s.size - a < gg ∧ wr.ownsRow (w.heap.size + 1) 80 3 s4 acc.length (tokCells acc) ∧ Aside (Below (w.heap.size + 1) (w.alloc (.cells #[.int .i64 0, .int .i64 0] 34)) wr) ∧ Hid ((R, E, P) = lexA gg a (s.data.toList.drop a) acc) ∧ acc.length ≤ a)
  case atStart => exact ⟨A0, [], rfl, hgo, by omega, World.ownsRow_nil _ _ _ _, (show Aside _ from Below.refl _ _), HR0, Nat.zero_le _⟩
  case round =>
    obtain ⟨a, acc, rfl, ha, hg, hown, BW, HR, hacc⟩ := hrel
    obtain ⟨vp, vc, rfl⟩ := lown_slice hown
    obtain ⟨g', rfl⟩ : ∃ g', gk = g' + 1 := ⟨gk - 1, by omega⟩
    clear HR0 cB
    by_cases hlt : a < s.size
    · have hltz : (a : Int) < (s.size : Int) := by omega
      obtain ⟨X, hX, hX1, hX2⟩ := slice_off s a ha
      have hne : s.data.toList.drop a ≠ [] := by rw [drop_cons s a hlt]; simp
      have HX1 : Hid (X.data.toList = s.data.toList.drop a) := hX1
      have BW0 := fault_below BW.out
      have cT := tokenAhead_any X wr (henv.on BW0) (hw.on BW0) (by omega) (by omega)
      clear hX1 BW0
      have HNE : Hid (s.data.toList.drop a ≠ []) := hne
      clear hne
      go_wp2_with fail
      refine cT.mono ?_
      rintro e w1 ⟨⟨k, n, h, rfl, HT⟩, b1⟩
      have B1 := BW.out.trans (b1.mono (by have := BW.out.size; simpa using this))
      have o1 := lown_below hown b1
      clear b1 hown cT BW
      have ht : tokAt (s.data.toList.drop a) = (k, n, h) := by rw [← HX1.out]; exact HT.out
      by_cases h0 : h = 0
      · subst h0
        obtain ⟨hn1, hn2⟩ := tokAt_len ht
        have hn3 : a + n ≤ s.size := by rw [List.length_drop] at hn2; simp at hn2; omega
        obtain ⟨Y, hY, hY1, hY2⟩ := slice_mid s a (a + n) (by omega) hn3
        obtain ⟨Z, hZ, hZ1, hZ2⟩ := slice_off s (a + n) hn3
        have hYz : ∀ W : World, Sem.run Tryz.prog (Instr.slice 9 (.string s) (some (.int .i64 (a : Int))) (some (.int .i64 ((a : Int) + (n : Int)))) none) W = .ok (.string Y) W := by
          have e : ((a + n : Nat) : Int) = (a : Int) + (n : Int) := by omega
          rw [e] at hY; exact hY
        have hZz : ∀ W : World, Sem.run Tryz.prog (Instr.slice 9 (.string s) (some (.int .i64 ((a : Int) + (n : Int)))) none none) W = .ok (.string Z) W := by
          have e : ((a + n : Nat) : Int) = (a : Int) + (n : Int) := by omega
          rw [e] at hZ; exact hZ
        have hYe : Y = ⟨((s.data.toList.drop a).take n).toArray⟩ := eq_of_list (by rw [hY1, show a + n - a = n from by omega])
        have HR2 : Hid ((R, E, P) = lexS g' (a + n) (s.data.toList.drop (a + n)) (acc ++ [(k, Y, a)])) := by
          show _ = _
          rw [HR.out, lexA_tok g' a _ acc HNE.out ht, ← hYe, List.drop_drop]
        have hgz : goN blB Z.data.toList ≤ s.size - (a + n) := by have := goN_le blB Z.data.toList; simp at this; omega
        obtain ⟨G, hG⟩ : ∃ G, goN blB Z.data.toList = G := ⟨_, rfl⟩
        have cB2 := fun W => goesOn_blank Z W (by unfold maxLen; omega)
        rw [hG] at cB2 hgz
        have HR3 : Hid ((R, E, P) = lexA g' (a + n + G) (s.data.toList.drop (a + n + G)) (acc ++ [(k, Y, a)])) := by
          show _ = _
          rw [HR2.out, lexS, ← hZ1, hG, hZ1, List.drop_drop]
        clear HR HR2 hY hZ hY1 hZ1 hYe hG ht HT hn2
        go_wp2_with fail
        refine (clone_any Y _ (by omega)).mono ?_
        rintro e w2 ⟨rfl, b2⟩
        have B2 := B1.trans (b2.mono (by have := B1.size; simpa using this))
        have o2 := lown_below o1 b2
        clear b2 o1 B1
        go_wp2_with (at_builtin; refine wpList_append_own _ rfl _ _ 70 rfl (w.heap.size + 1) 80 i0 (.agg #[.int .i64 0, .string ⟨#[]⟩, .int .i64 0]) 3 32 Tryz.underlying70 hi hz0 hz1 hz2 rfl (by decide) _ _ _ rfl (o2.alloc _) ⟨w2.heap.size, 0, none⟩ 1 1 [.int .i64 k, .string Y, .int .i64 (a : Int)] rfl rfl ?c1 ?c2 ?c3 ?c4 ?c5 ?_)
        case c1 =>
          intro i u hu
          rw [Go.WideShapes.add_plain]
          match i, hu with
          | 0, hu => simp at hu; subst hu; rw [World.cell?_alloc_at _ _ _ _ (by simp)]; rfl
          | 1, hu => simp at hu; subst hu; rw [World.cell?_alloc_at _ _ _ _ (by simp)]; rfl
          | 2, hu => simp at hu; subst hu; rw [World.cell?_alloc_at _ _ _ _ (by simp)]; rfl
        case c2 =>
          intro u hu
          simp at hu
          rcases hu with rfl | rfl | rfl <;> rfl
        case c3 => unfold maxLen; omega
        case c4 => omega
        case c5 => have := B2.size; simp at this ⊢; omega
        · intro v' w3 hown' hgrow _
          have RR := rel_tok o2 B2 (by have := B2.size; simp at this; omega) hown' hgrow
          clear hown' hgrow o2
          go_wp2_with fail
          refine (cB2 _).mono ?_
          rintro e w4 ⟨rfl, hq4⟩
          obtain rfl : w3 = w4 := hq4.symm
          go_wp2
          go_roundg g'
          case measure => omega
          case rel => exact ⟨a + n + G, acc ++ [(k, Y, a)], by go_num, by omega, by omega, RR.1, RR.2, HR3, by rw [List.length_append, List.length_singleton]; omega⟩
      · have hF : (R, E, P) = ([], h, a) := by rw [HR.out, lexA_bad g' a _ acc HNE.out ht h0]
        have he := Prod.mk.inj hF
        obtain ⟨rfl, he⟩ := he
        obtain ⟨rfl, rfl⟩ := Prod.mk.inj he
        have hz0 : (E != 0) = true := by simpa using h0
        obtain ⟨q0, q1, q2, q3, ql⟩ := fault_kept B1
        clear HR ht HT h0 hF he o1
        go_wp2
        refine bodyPost_ret (v := .tuple #[.slice none 0 0, .agg #[.int .i64 E, .int .i64 (P : Nat)]]) (by simp [results, Tryz.results27, go_sem, q0, q1]) rfl ⟨⟨_, rfl, isToks_nil _, Nat.le_refl _⟩, ?_⟩
        exact ((fault_below B1).setCell (Nat.le_refl _) _).setCell (Nat.le_refl _) _
    · have hltz : ¬ (a : Int) < (s.size : Int) := by omega
      have hF : (R, E, P) = (acc, 0, 0) := by
        have h := HR.out
        rw [List.drop_eq_nil_of_le (by simp; omega), lexA_nil] at h
        exact h
      obtain ⟨rfl, he⟩ := Prod.mk.inj hF
      obtain ⟨rfl, rfl⟩ := Prod.mk.inj he
      obtain ⟨q0, q1, q2, q3, ql⟩ := fault_kept BW.out
      clear HR hF he
      go_wp2
      refine bodyPost_ret (v := .tuple #[.slice vp R.length vc, .agg #[.int .i64 0, .int .i64 0]]) (by simp [results, Tryz.results27, go_sem, q0, q1]) rfl ⟨⟨_, rfl, ?_, own_cap hown⟩, ?_⟩
      · exact own_toks (lown_set (lown_set hown 0 (.int .i64 0)) 1 (.int .i64 0))
      · exact ((fault_below BW.out).setCell (Nat.le_refl _) _).setCell (Nat.le_refl _) _
theorem tokens_any (s : ByteArray) (w : World) (henv : Env w) (hw : SG w) :
    Calls Tryz.prog 27 #[.string s] w fun e w' => (∃ v, e = .returned (.tuple #[v, .agg #[.int .i64 (lexAll s.data.toList).2.1, .int .i64 ((lexAll s.data.toList).2.2 : Nat)]]) ∧ IsToks w' v (lexAll s.data.toList).1 ∧ capOk v) ∧ Below w.heap.size w w' := by
  have hl : s.data.toList.length = s.size := by simp
  by_cases h : 400 < s.size
  · rw [lexAll, if_pos (by omega)]
    exact (tokens_full s w h).mono fun e w' hh => ⟨⟨_, hh.1, isToks_nil _, Nat.le_refl _⟩, hh.2⟩
  · rw [lexAll, if_neg (by omega), hl]
    exact tokens_loop s w henv hw (by omega)
/-- The same, the answer under a name. -/
theorem tokens_cap (s : ByteArray) (R : List Tok) (E : Int) (P : Nat) (w : World) (henv : Env w) (hw : SG w) (h : lexAll s.data.toList = (R, E, P)) :
    Calls Tryz.prog 27 #[.string s] w fun e w' => (∃ v, e = .returned (.tuple #[v, .agg #[.int .i64 E, .int .i64 (P : Nat)]]) ∧ IsToks w' v R ∧ capOk v) ∧ Below w.heap.size w w' := by
  have := tokens_any s w henv hw
  rw [h] at this
  exact this
end Go.Proofs.YtkbhmghdonomnaaGreatDoor
namespace Go.Proofs.YtkbhmghdonomnaaGreatDoor
open Go.RowKit Go.BigFrame
set_option linter.unusedVariables false
set_option linter.unusedSimpArgs false

/-- All that was there is kept but the block tr, and those of S. -/
structure Fr (tr : Nat) (S : Nat → Prop) (w w' : World) : Prop where
  below : Below tr w w'
  kept : ∀ k, k < w.heap.size → k ≠ tr → ¬ S k → w'.heap[k]? = w.heap[k]?
theorem Fr.size {tr : Nat} {S : Nat → Prop} {w w' : World} (h : Fr tr S w w') : w.heap.size ≤ w'.heap.size := h.below.size
theorem Fr.refl (tr : Nat) (S : Nat → Prop) (w : World) : Fr tr S w w := ⟨Below.refl _ _, fun _ _ _ _ => rfl⟩
theorem Fr.trans {tr : Nat} {S : Nat → Prop} {w w1 w2 : World} (h : Fr tr S w w1) (k : Fr tr S w1 w2) : Fr tr S w w2 :=
  ⟨h.below.trans k.below, fun b hb hr hs => by rw [k.kept b (by have := h.size; omega) hr hs, h.kept b hb hr hs]⟩
theorem Fr.mono {tr : Nat} {S S' : Nat → Prop} {w w1 : World} (h : Fr tr S w w1) (hs : ∀ k, k < w.heap.size → S k → S' k) : Fr tr S' w w1 := ⟨h.below, fun b hb hr hn => h.kept b hb hr (fun e => hn (hs b hb e))⟩
theorem Fr.of_but {tr : Nat} {S : Nat → Prop} {w w1 : World} (h : But tr w w1) : Fr tr S w w1 := ⟨h.below, fun b hb hr _ => h.kept b hb hr⟩
theorem Fr.of_below {tr : Nat} {S : Nat → Prop} {w w1 : World} (h : Below w.heap.size w w1) (hr : tr ≤ w.heap.size) : Fr tr S w w1 := Fr.of_but (But.of_below' h hr)
theorem Fr.set {tr : Nat} {S : Nat → Prop} {w w1 : World} (h : Fr tr S w w1) {b : Nat} (o : Nat) (v : Value) (hb : tr ≤ b) (hs : b < w.heap.size → S b) : Fr tr S w (w1.setCell ⟨b, o, none⟩ v) :=
  ⟨h.below.setCell (p := ⟨b, o, none⟩) hb v, fun k hk hkr hn => by rw [Below.heap_setCell _ _ _ _ (fun e => by simp at e; subst e; exact hn (hs hk))]; exact h.kept k hk hkr hn⟩
theorem Fr.cells {tr : Nat} {S : Nat → Prop} {w : World} {b : Nat} (hb : tr ≤ b) (hs : b < w.heap.size → S b) : ∀ (vs : List Value) (o : Nat) (w1 : World), Fr tr S w w1 → Fr tr S w (w1.setCells b o vs)
  | [], _, _, h => h
  | v :: r, o, w1, h => Fr.cells hb hs r (o + 1) _ (h.set o v hb hs)
theorem Fr.drew {tr : Nat} {S : Nat → Prop} {w w1 : World} (h : Fr tr S w w1) : Fr tr S w w1.drew := ⟨Below.drew h.below, h.kept⟩
theorem Fr.on {tr : Nat} {S : Nat → Prop} {w w1 w2 : World} (h : Fr tr S w w1) (k : Below w1.heap.size w1 w2) (hr : tr ≤ w1.heap.size) : Fr tr S w w2 := h.trans (Fr.of_below k hr)
theorem Fr.cell {tr : Nat} {S : Nat → Prop} {w w1 : World} (h : Fr tr S w w1) {b : Nat} (o : Nat) (hb : b < w.heap.size) (hr : b ≠ tr) (hs : ¬ S b) : w1.cell? ⟨b, o, none⟩ = w.cell? ⟨b, o, none⟩ := by
  simp only [World.cell?, h.kept b hb hr hs]
theorem Blk.fr {tr : Nat} {S : Nat → Prop} {w w1 : World} {b : Nat} {cs : Array Value} {t : TypeId} (h : Blk w b cs t) (hf : Fr tr S w w1) (hr : b ≠ tr) (hs : ¬ S b) : Blk w1 b cs t := h.keep (hf.kept b h.lt hr hs)
/-- The words that are numbers are digits, not too many. -/
def NumT (ts : List Tok) : Prop := ∀ t ∈ ts, isNum t = true → Lib.atoiAll t.2.1.data.toList = .ok (nuI t.2.1.data.toList)
theorem NumT.suf {ts rs : List Tok} (h : NumT ts) (hs : rs <:+ ts) : NumT rs := fun t ht => h t (hs.mem ht)
/-- Where the reader stands: the words in block tr, the query in block rb. -/
structure QH (WZ : World) (en : Nat) (W : World) (tr rb : Nat) (ts : List Tok) : Prop where
  rd : RdAt en W tr ts
  p0 : W.cell? ⟨rb, 0, none⟩ = some (.pointer (some ⟨tr, 0, none⟩))
  lt : rb < W.heap.size
  ne : tr < rb
  env : TEnv W
  aenv : AEnv W
  gt : 15 ≤ tr
  fit : Fit ts
  num : NumT ts
  old : Below tr WZ W
variable {en : Nat} {WZ : World}
theorem QH.go {W w' : World} {tr rb : Nat} {S : Nat → Prop} {ts ts' : List Tok} (h : QH WZ en W tr rb ts) (hf : Fr tr S W w') (hr : RdAt en w' tr ts') (hs : ts' <:+ ts) (hp : w'.cell? ⟨rb, 0, none⟩ = some (.pointer (some ⟨tr, 0, none⟩))) : QH WZ en w' tr rb ts' :=
  ⟨hr, hp, by have := hf.size; have := h.lt; omega, h.ne, h.env.onB hf.below h.gt hf.size, h.aenv.onB hf.below h.gt hf.size, h.gt, h.fit.suf hs, h.num.suf hs, h.old.trans hf.below⟩
theorem QH.fr {W w' : World} {tr rb : Nat} {S : Nat → Prop} {ts ts' : List Tok} (h : QH WZ en W tr rb ts) (hf : Fr tr S W w') (hr : RdAt en w' tr ts') (hs : ts' <:+ ts) (hS : ¬ S rb) : QH WZ en w' tr rb ts' :=
  h.go hf hr hs (by rw [hf.cell 0 h.lt (by have := h.ne; omega) hS]; exact h.p0)
theorem nx_suf {P : Tok → Bool} {ts r : List Tok} {t : Tok} (h : nxT P ts = some (t, r)) : r <:+ ts := by rw [(nxT_len h).1]; exact List.suffix_cons t r
theorem jU_suf (g : List UInt8) (ts : List Tok) : (jU g ts).2 <:+ ts := by
  rw [jU]
  cases h : nxT (sgT [g]) ts with
  | none => exact List.suffix_rfl
  | some p => exact nx_suf h
theorem nU_suf (ts : List Tok) : (nU ts).2 <:+ ts := by
  rw [nU]
  cases h : nxT nmT ts with
  | none => exact List.suffix_rfl
  | some p => exact nx_suf h
theorem iU_suf (ts : List Tok) : (iU ts).2 <:+ ts := by
  rw [iU]
  cases h : nxT isNum ts with
  | none => exact List.suffix_rfl
  | some p => exact nx_suf h
theorem readE_suf (ts : List Tok) : (readE ts).2 <:+ ts := uE_suf _ _ _
theorem strs_at {V : World} {b : Nat} {g : List UInt8} (h : V.cell? ⟨b, 0, none⟩ = some (.string ⟨g.toArray⟩)) (hb : b < V.heap.size) : StrsIn V b [g] := ⟨hb, fun j hj => match j, hj with
  | 0, _ => h⟩
theorem below_alloc {B : Nat} {w V : World} (h : Below B w V) (hB : B ≤ w.heap.size) (o : Obj) : Below B w (V.alloc o) := h.alloc (Nat.le_trans hB h.size) o
/-- Three cells that may be written, in a block. -/
structure Box3 (w : World) (b : Nat) (a0 a1 a2 : Value) : Prop where
  c0 : w.cell? ⟨b, 0, none⟩ = some a0
  c1 : w.cell? ⟨b, 1, none⟩ = some a1
  c2 : w.cell? ⟨b, 2, none⟩ = some a2
  fz : ∀ o, w.frozen? ⟨b, o, none⟩ = false
  lt : b < w.heap.size
theorem Box3.on {w w' : World} {b : Nat} {a0 a1 a2 : Value} (h : Box3 w b a0 a1 a2) (hb : Below w.heap.size w w') : Box3 w' b a0 a1 a2 := by
  obtain ⟨c0, c1, c2, fz, lt⟩ := h
  exact ⟨by rw [hb.cell (p := ⟨b, 0, none⟩) lt]; exact c0, by rw [hb.cell (p := ⟨b, 1, none⟩) lt]; exact c1, by rw [hb.cell (p := ⟨b, 2, none⟩) lt]; exact c2, fun o => by rw [hb.frozen (p := ⟨b, o, none⟩) lt]; exact fz o, by have := hb.size; omega⟩
theorem Box3.but {w w' : World} {r b : Nat} {a0 a1 a2 : Value} (h : Box3 w b a0 a1 a2) (hb : But r w w') (hr : b ≠ r) : Box3 w' b a0 a1 a2 := by
  obtain ⟨c0, c1, c2, fz, lt⟩ := h
  exact ⟨by rw [hb.cell _ lt hr]; exact c0, by rw [hb.cell _ lt hr]; exact c1, by rw [hb.cell _ lt hr]; exact c2, fun o => by rw [but_frozen hb o lt hr]; exact fz o, by have := hb.size; omega⟩
theorem Fr.set3 {tr : Nat} {S : Nat → Prop} {w w1 : World} (h : Fr tr S w w1) {b : Nat} (u0 u1 u2 : Value) (hb : tr ≤ b) (hs : b < w.heap.size → S b) : Fr tr S w (((w1.setCell ⟨b, 0, none⟩ u0).setCell ⟨b, 1, none⟩ u1).setCell ⟨b, 2, none⟩ u2) := ((h.set 0 u0 hb hs).set 1 u1 hb hs).set 2 u2 hb hs
theorem RdAt.set3 {w : World} {r : Nat} {ts : List Tok} (h : RdAt en w r ts) {z : Nat} (hz : r < z) (v0 v1 v2 : Value) : RdAt en (((w.setCell ⟨z, 0, none⟩ v0).setCell ⟨z, 1, none⟩ v1).setCell ⟨z, 2, none⟩ v2) r ts :=
  h.onB ((((Below.refl (r + 1) w).setCell (p := ⟨z, 0, none⟩) hz v0).setCell (p := ⟨z, 1, none⟩) hz v1).setCell (p := ⟨z, 2, none⟩) hz v2) (by simp [World.setCell])
set_option maxHeartbeats 4000000 in
set_option maxRecDepth 20000 in
theorem just_q (g : List UInt8) (W : World) (tr rb : Nat) (ts : List Tok) (h : QH WZ en W tr rb ts) (R : Bool) (rs : List Tok) (hR : jU g ts = (if R = true then some () else none, rs)) :
    Calls Tryz.prog 28 #[.pointer (some ⟨rb, 0, none⟩), .string ⟨g.toArray⟩] W fun e w' => e = .returned (.bool R) ∧ Aside (QH WZ en w' tr rb rs) ∧ Aside (Fr tr (fun _ => False) W w') := by
  have HH : Aside (QH WZ en W tr rb ts) := h
  have hp0 := h.p0
  have hlt := h.lt
  have hne := h.ne
  have hrl := h.rd.lt
  have cO1 : ∀ (V : World) (b : Nat), Below W.heap.size W V → W.heap.size ≤ b → V.cell? ⟨b, 0, none⟩ = some (.string ⟨g.toArray⟩) → b < V.heap.size → Calls Tryz.prog 68 #[.slice (some ⟨b, 0, none⟩) 1 1] V fun e w' => (∃ p, e = .returned (signV p) ∧ SignBut w' tr p [g]) ∧ Below W.heap.size W w' ∧ w'.cell? ⟨rb, 0, none⟩ = some (.pointer (some ⟨tr, 0, none⟩)) ∧ rb ≠ w'.heap.size ∧ w'.heap.size ≠ rb := fun V b hb hn hc hl => (oneOf_but b 1 tr [g] V (by simp) (strs_at hc hl) (by omega) (by have := hb.size; omega)).mono (fun e w' hh => by
    have B2 := hb.trans (hh.2.mono hb.size)
    exact ⟨hh.1, B2, by rw [B2.cell (p := ⟨rb, 0, none⟩) hlt]; exact hp0, by have := B2.size; omega, by have := B2.size; omega⟩)
  have cO2 : ∀ (V : World) (b z : Nat), Below W.heap.size W V → W.heap.size ≤ b → V.cell? ⟨b, 0, none⟩ = some (.string ⟨g.toArray⟩) → b < V.heap.size → Box3 V z (.int .i64 0) (.string ⟨#[]⟩) (.int .i64 0) → Calls Tryz.prog 68 #[.slice (some ⟨b, 0, none⟩) 1 1] V fun e w' => (∃ p, e = .returned (signV p) ∧ SignBut w' tr p [g]) ∧ Below W.heap.size W w' ∧ w'.cell? ⟨rb, 0, none⟩ = some (.pointer (some ⟨tr, 0, none⟩)) ∧ Box3 w' z (.int .i64 0) (.string ⟨#[]⟩) (.int .i64 0) := fun V b z hb hn hc hl hz => (oneOf_but b 1 tr [g] V (by simp) (strs_at hc hl) (by omega) (by have := hb.size; omega)).mono (fun e w' hh => by
    have B2 := hb.trans (hh.2.mono hb.size)
    exact ⟨hh.1, B2, by rw [B2.cell (p := ⟨rb, 0, none⟩) hlt]; exact hp0, hz.on hh.2⟩)
  have cT : ∀ (V : World) (p : Nat), RdAt en V tr ts → SignIn V p [g] → Calls Tryz.prog 67 #[.pointer (some ⟨tr, 0, none⟩), signV p] V fun e w' => (∃ (k : Int) (x : ByteArray) (a : Int), e = .returned (.tuple #[.agg #[.int .i64 k, .string x, .int .i64 a], .bool R])) ∧ RdAt en w' tr rs ∧ But tr V w' := fun V p hr hs => by
    rw [jU] at hR
    cases hn : nxT (sgT [g]) ts with
    | none =>
      rw [hn] at hR
      have h1 := (Prod.mk.inj hR).1
      have h2 := (Prod.mk.inj hR).2
      have : R = false := by cases R; rfl; simp at h1
      subst this h2
      exact (take_sign_none [g] p V tr ts hr hs hn).mono fun e w' hh => ⟨⟨_, _, _, hh.1⟩, hh.2.1, hh.2.2⟩
    | some q =>
      obtain ⟨t, qs⟩ := q
      rw [hn] at hR
      have h1 := (Prod.mk.inj hR).1
      have h2 := (Prod.mk.inj hR).2
      have : R = true := by cases R; simp at h1; rfl
      subst this h2
      exact (take_sign_some [g] p V tr t ts qs hr hs hn).mono fun e w' hh => ⟨⟨_, _, _, hh.1⟩, hh.2.1, hh.2.2⟩
  have cT1 : ∀ (V : World) (p : Nat), Below W.heap.size W V → SignIn V p [g] → Calls Tryz.prog 67 #[.pointer (some ⟨tr, 0, none⟩), signV p] V fun e w' => (∃ (k : Int) (x : ByteArray) (a : Int), e = .returned (.tuple #[.agg #[.int .i64 k, .string x, .int .i64 a], .bool R])) ∧ RdAt en w' tr rs ∧ Fr tr (fun _ => False) W w' ∧ w'.cell? ⟨rb, 0, none⟩ = some (.pointer (some ⟨tr, 0, none⟩)) := fun V p hb hs => (cT V p (HH.out.rd.on hb) hs).mono fun e w' hh => by
    have F := (Fr.of_below (S := fun _ => False) hb (tr := tr) (by omega)).trans (Fr.of_but hh.2.2)
    exact ⟨hh.1, hh.2.1, F, by rw [F.cell 0 hlt (by omega) (fun h => h)]; exact hp0⟩
  have cT2 : ∀ (V : World) (p z : Nat), Below W.heap.size W V → SignIn V p [g] → Box3 V z (.int .i64 0) (.string ⟨#[]⟩) (.int .i64 0) → W.heap.size ≤ z → Calls Tryz.prog 67 #[.pointer (some ⟨tr, 0, none⟩), signV p] V fun e w' => (∃ (k : Int) (x : ByteArray) (a : Int), e = .returned (.tuple #[.agg #[.int .i64 k, .string x, .int .i64 a], .bool R])) ∧ RdAt en w' tr rs ∧ Fr tr (fun _ => False) W w' ∧ w'.cell? ⟨rb, 0, none⟩ = some (.pointer (some ⟨tr, 0, none⟩)) ∧ Box3 w' z (.int .i64 0) (.string ⟨#[]⟩) (.int .i64 0) := fun V p z hb hs hz hzW => (cT V p (HH.out.rd.on hb) hs).mono fun e w' hh => by
    have F := (Fr.of_below (S := fun _ => False) hb (tr := tr) (by omega)).trans (Fr.of_but hh.2.2)
    exact ⟨hh.1, hh.2.1, F, by rw [F.cell 0 hlt (by omega) (fun h => h)]; exact hp0, hz.but hh.2.2 (by omega)⟩
  have hsuf : rs <:+ ts := by have := jU_suf g ts; rw [hR] at this; exact this
  have fin : ∀ w3, Fr tr (fun _ => False) W w3 → RdAt en w3 tr rs → Aside (QH WZ en w3 tr rb rs) ∧ Aside (Fr tr (fun _ => False) W w3) := fun w3 F hr => ⟨HH.out.fr F hr hsuf (fun h => h), F⟩
  have n0 : rb ≠ W.heap.size := by omega
  have n0' : W.heap.size ≠ rb := by omega
  have n1' : W.heap.size + 1 ≠ rb := by omega
  have n1 : rb ≠ W.heap.size + 1 := by omega
  clear h hR cT
  go_enter Tryz.func28, Tryz.ntmps28
  go_wp2
  go_region_held3 (fun w' => w'.cell? ⟨rb, 0, none⟩ = some (.pointer (some ⟨tr, 0, none⟩))) (go_keep) (first
    | (go_at_call 68; refine (cO2 _ _ W.heap.size ?_ ?_ ?_ ?_ ?_).mono ?_; (repeat (first | exact Below.refl _ _ | refine Below.drew ?_ | refine below_alloc ?_ (Nat.le_refl _) _)); (first | exact Nat.le_refl _ | exact Nat.le_succ _); (focus (simp; done)); (focus (first | (simp; done) | (simp; omega))); (focus (refine ⟨?_, ?_, ?_, ?_, ?_⟩; (focus (simp; done)); (focus (simp; done)); (focus (simp; done)); (focus (intro o; simp; done)); (first | (simp; done) | (simp; omega)))); rintro e' w1 ⟨⟨p, rfl, hp⟩, BW1, q0, XX⟩)
    | (go_at_call 68; refine (cO2 _ _ (W.heap.size + 1) ?_ ?_ ?_ ?_ ?_).mono ?_; (repeat (first | exact Below.refl _ _ | refine Below.drew ?_ | refine below_alloc ?_ (Nat.le_refl _) _)); (first | exact Nat.le_refl _ | exact Nat.le_succ _); (focus (simp; done)); (focus (first | (simp; done) | (simp; omega))); (focus (refine ⟨?_, ?_, ?_, ?_, ?_⟩; (focus (simp; done)); (focus (simp; done)); (focus (simp; done)); (focus (intro o; simp; done)); (first | (simp; done) | (simp; omega)))); rintro e' w1 ⟨⟨p, rfl, hp⟩, BW1, q0, XX⟩)
    | (go_at_call 68; refine (cO1 _ _ ?_ ?_ ?_ ?_).mono ?_; (repeat (first | exact Below.refl _ _ | refine Below.drew ?_ | refine below_alloc ?_ (Nat.le_refl _) _)); (first | exact Nat.le_refl _ | exact Nat.le_succ _); (focus (simp; done)); (focus (first | (simp; done) | (simp; omega))); rintro e' w1 ⟨⟨p, rfl, hp⟩, BW1, q0, nq, nq'⟩)
    | (go_at_call 67; refine (cT2 _ p _ ?_ ?_ XX ?_).mono ?_; (repeat (first | exact BW1 | refine Below.drew ?_ | refine below_alloc ?_ (Nat.le_refl _) _)); exact hp.sign; (first | exact Nat.le_refl _ | exact Nat.le_succ _); rintro e' w2 ⟨⟨tk, tx, ta, rfl⟩, hr2, F2, q2, ⟨x0, x1, x2, xf, xl⟩⟩)
    | (go_at_call 67; refine (cT2 _ p w1.heap.size ?_ ?_ ?_ ?_).mono ?_; (repeat (first | exact BW1 | refine Below.drew ?_ | refine below_alloc ?_ (Nat.le_refl _) _)); refine hp.sign.on ?_; (repeat (first | exact Below.refl _ _ | refine Below.drew ?_ | refine below_alloc ?_ (Nat.le_refl _) _)); (focus (refine ⟨?_, ?_, ?_, ?_, ?_⟩; (focus (simp; done)); (focus (simp; done)); (focus (simp; done)); (focus (intro o; simp; done)); (first | (simp; done) | (simp; omega)))); exact BW1.size; rintro e' w2 ⟨⟨tk, tx, ta, rfl⟩, hr2, F2, q2, ⟨x0, x1, x2, xf, xl⟩⟩)
    | (go_at_call 67; refine (cT1 _ p ?_ ?_).mono ?_; (repeat (first | exact BW1 | refine Below.drew ?_)); exact hp.sign; rintro e' w2 ⟨⟨tk, tx, ta, rfl⟩, hr2, F2, q2⟩))
  all_goals
    go_wp2
    go_ret
    refine ⟨rfl, ?_⟩
    have sz := F2.size
    have bz := BW1.size
    first
      | exact fin _ (F2.on (al _ _) (by omega)) (hr2.on (al _ _))
      | exact fin _ (F2.set3 _ _ _ (by omega) (fun h => by omega)) (hr2.set3 (by omega) _ _ _)
end Go.Proofs.YtkbhmghdonomnaaGreatDoor
namespace Go.Proofs.YtkbhmghdonomnaaGreatDoor
open Go.RowKit Go.BigFrame
set_option linter.unusedVariables false
set_option linter.unusedSimpArgs false

theorem ofT_form (zs : List Cl) (x : Ex) : ∃ T E, ofT zs x = (T, E) ∧ ((ofP zs x).2.1 = E) ∧ (E = 0 → (ofP zs x).1 = T) ∧ (E ≠ 0 → T = 0) := by
  rw [ofT]
  split
  · rename_i h
    exact ⟨_, _, rfl, rfl, fun h0 => absurd h0 h, fun _ => rfl⟩
  · rename_i h
    exact ⟨_, _, rfl, Classical.not_not.1 h, fun _ => rfl, fun h0 => absurd rfl h0⟩
set_option maxHeartbeats 4000000 in
set_option maxRecDepth 20000 in
theorem typeOfAgg_q (a : Ag) (lo : Nat → Prop) (ap : Option Addr) (ac : Nat) (vl : Value) (zs : List Cl) (w : World) (henv : KEnv w) (haenv : AEnv w) (hx : ExIn w lo (exV a.arg ap ac) a.arg) (hsz : (a.arg.pre 1).length ≤ 1048576) (hcv : ColsV w vl zs) (T E : Int) (hR : agQ zs a = (T, E)) :
    Calls Tryz.prog 92 #[agV a ap ac, vl] w fun e w' => e = .returned (.tuple #[.int .i64 T, errV E]) ∧ Below w.heap.size w w' := by
  have b1 := fun o => (Below.refl w.heap.size w).alloc (Nat.le_refl _) o
  obtain ⟨q, c, rfl⟩ := cols_form hcv
  obtain ⟨T1, E1, h1, h2, h3, h4⟩ := ofT_form zs a.arg
  rw [agQ, h2] at hR
  obtain ⟨what, ⟨op, nm, vt, vn, vs, pos, l⟩, name⟩ := a
  have cA := fun o => isAgg_any what (w.alloc o) (haenv.on (b1 o))
  have cN := fun o => isNothing_any _ lo _ (w.alloc o) (hx.on (b1 o))
  have cT := fun o => typeOf_q _ lo _ _ zs (w.alloc o) (henv.on (b1 o)) (hx.on (b1 o)) hsz (hcv.on (b1 o)) T1 E1 h1
  simp only [Ex.op, Ex.nm, Ex.vt, Ex.vn, Ex.vs, Ex.args, Ex.pos] at cA cN cT hR ⊢
  clear hx hcv henv haenv h1
  generalize zs.length = NZ at cT ⊢
  have H3 : Hid (E1 = 0 → (ofP zs (.node op nm vt vn vs pos l)).1 = T1) := h3
  have H4 : Hid (E1 ≠ 0 → T1 = 0) := h4
  clear h2 h3 h4
  generalize noOp (.node op nm vt vn vs pos l) = NO at cN hR
  generalize (ofP zs (.node op nm vt vn vs pos l)).1 = T2 at hR H3
  generalize l.length = NL at cN cT ⊢
  cases hI : isAg what.data.toList
  · rw [hI] at cA
    rw [hI, if_pos rfl] at hR
    obtain ⟨rfl, rfl⟩ := Prod.mk.inj hR
    rw [errV, if_neg (by decide)]
    go_enter Tryz.func92, Tryz.ntmps92
    go_wp2_with fail
    refine (cA _).mono ?_
    rintro e w1 ⟨rfl, rfl⟩
    clear cA cN cT
    go_wp2
    go_ret2
    exact ⟨rfl, b1 _⟩
  · rw [hI] at cA
    rw [hI, if_neg (by decide)] at hR
    by_cases hC : what.data.toList = wCount
    · rw [if_pos hC] at hR
      have hq : (what.toList == [99, 111, 117, 110, 116]) = true := by rw [Lib.toList_data]; simpa using hC
      cases NO
      · rw [if_neg (by decide)] at hR
        obtain ⟨rfl, rfl⟩ := Prod.mk.inj hR
        rw [errV, if_neg (by decide)]
        go_enter Tryz.func92, Tryz.ntmps92
        go_wp2_with fail
        refine (cA _).mono ?_
        rintro e w1 ⟨rfl, rfl⟩
        go_wp2_with fail
        refine (cN _).mono ?_
        rintro e w2 ⟨rfl, b2⟩
        clear cA cN cT
        go_wp2
        go_ret2
        exact ⟨rfl, (b1 _).trans (b2.mono (by simp))⟩
      · rw [if_pos rfl] at hR
        obtain ⟨rfl, rfl⟩ := Prod.mk.inj hR
        rw [errV, if_pos rfl]
        go_enter Tryz.func92, Tryz.ntmps92
        go_wp2_with fail
        refine (cA _).mono ?_
        rintro e w1 ⟨rfl, rfl⟩
        go_wp2_with fail
        refine (cN _).mono ?_
        rintro e w2 ⟨rfl, b2⟩
        have k0 := b2.cell (p := ⟨w.heap.size, 0, none⟩) (by simp)
        rw [World.cell?_alloc_at _ _ _ _ rfl] at k0
        simp at k0
        have hl : w.heap.size < w2.heap.size := by have := b2.size; simp at this; omega
        clear cA cN cT
        go_wp2
        go_ret2
        exact ⟨rfl, (b1 _).trans (b2.mono (by simp))⟩
    · rw [if_neg hC] at hR
      have hq : (what.toList == [99, 111, 117, 110, 116]) = false := by rw [Lib.toList_data]; simpa using hC
      by_cases hE : E1 = 0
      · subst hE
        obtain rfl := H3.out rfl
        rw [if_neg (by simp)] at hR
        rw [errV, if_pos rfl] at cT
        by_cases hS : what.data.toList = [115, 117, 109]
        · have hq2 : (what.toList == [115, 117, 109]) = true := by rw [Lib.toList_data]; simpa using hS
          by_cases hT : T2 = 1
          · subst hT
            rw [if_neg (by simp)] at hR
            obtain ⟨rfl, rfl⟩ := Prod.mk.inj hR
            rw [errV, if_pos rfl]
            go_enter Tryz.func92, Tryz.ntmps92
            go_wp2_with fail
            refine (cA _).mono ?_
            rintro e w1 ⟨rfl, rfl⟩
            go_wp2_with fail
            refine (cT _).mono ?_
            rintro e w2 ⟨rfl, b2⟩
            have k0 := b2.cell (p := ⟨w.heap.size, 0, none⟩) (by simp)
            rw [World.cell?_alloc_at _ _ _ _ rfl] at k0
            simp at k0
            have hl : w.heap.size < w2.heap.size := by have := b2.size; simp at this; omega
            clear cA cN cT
            go_wp2
            go_ret2
            exact ⟨rfl, (b1 _).trans (b2.mono (by simp))⟩
          · rw [if_pos ⟨hS, hT⟩] at hR
            obtain ⟨rfl, rfl⟩ := Prod.mk.inj hR
            rw [errV, if_neg (by decide)]
            have hb : (T2 != 1) = true := by simpa using hT
            go_enter Tryz.func92, Tryz.ntmps92
            go_wp2_with fail
            refine (cA _).mono ?_
            rintro e w1 ⟨rfl, rfl⟩
            go_wp2_with fail
            refine (cT _).mono ?_
            rintro e w2 ⟨rfl, b2⟩
            have k0 := b2.cell (p := ⟨w.heap.size, 0, none⟩) (by simp)
            rw [World.cell?_alloc_at _ _ _ _ rfl] at k0
            simp at k0
            have hl : w.heap.size < w2.heap.size := by have := b2.size; simp at this; omega
            clear cA cN cT
            go_wp2
            go_ret2
            exact ⟨rfl, (b1 _).trans (b2.mono (by simp))⟩
        · have hq2 : (what.toList == [115, 117, 109]) = false := by rw [Lib.toList_data]; simpa using hS
          rw [if_neg (fun h => hS h.1)] at hR
          obtain ⟨rfl, rfl⟩ := Prod.mk.inj hR
          rw [errV, if_pos rfl]
          go_enter Tryz.func92, Tryz.ntmps92
          go_wp2_with fail
          refine (cA _).mono ?_
          rintro e w1 ⟨rfl, rfl⟩
          go_wp2_with fail
          refine (cT _).mono ?_
          rintro e w2 ⟨rfl, b2⟩
          have k0 := b2.cell (p := ⟨w.heap.size, 0, none⟩) (by simp)
          rw [World.cell?_alloc_at _ _ _ _ rfl] at k0
          simp at k0
          have hl : w.heap.size < w2.heap.size := by have := b2.size; simp at this; omega
          clear cA cN cT
          go_wp2
          go_ret2
          exact ⟨rfl, (b1 _).trans (b2.mono (by simp))⟩
      · obtain rfl := H4.out hE
        rw [if_pos hE] at hR
        obtain ⟨rfl, rfl⟩ := Prod.mk.inj hR
        rw [errV, if_neg hE] at cT
        rw [errV, if_neg hE]
        go_enter Tryz.func92, Tryz.ntmps92
        go_wp2_with fail
        refine (cA _).mono ?_
        rintro e w1 ⟨rfl, rfl⟩
        go_wp2_with fail
        refine (cT _).mono ?_
        rintro e w2 ⟨rfl, b2⟩
        have k0 := b2.cell (p := ⟨w.heap.size, 0, none⟩) (by simp)
        rw [World.cell?_alloc_at _ _ _ _ rfl] at k0
        simp at k0
        have hl : w.heap.size < w2.heap.size := by have := b2.size; simp at this; omega
        clear cA cN cT
        go_wp2
        go_ret2
        exact ⟨rfl, (b1 _).trans (b2.mono (by simp))⟩
set_option maxHeartbeats 2000000 in
theorem checkWhere_q (x : Ex) (lo : Nat → Prop) (v vl : Value) (zs : List Cl) (w : World) (henv : KEnv w) (hx : ExIn w lo v x) (hsz : (x.pre 1).length ≤ 1048576) (hcv : ColsV w vl zs) (E : Int) (hR : whQ zs x = E) :
    Calls Tryz.prog 24 #[v, vl] w fun e w' => e = .returned (errV E) ∧ Below w.heap.size w w' := by
  have b1 := fun o => (Below.refl w.heap.size w).alloc (Nat.le_refl _) o
  obtain ⟨q, c, rfl⟩ := cols_form hcv
  obtain ⟨xp, xc, hxe, -⟩ := id hx.whole
  obtain ⟨T1, E1, h1, h2, h3, h4⟩ := ofT_form zs x
  rw [whQ, h2] at hR
  have cN := fun o => isNothing_any x lo v (w.alloc o) (hx.on (b1 o))
  have cT := fun o W (hb : Below w.heap.size (w.alloc o) W) => typeOf_q x lo v _ zs W (henv.on ((b1 o).trans hb)) (hx.on ((b1 o).trans hb)) hsz (hcv.on ((b1 o).trans hb)) T1 E1 h1
  clear hx hcv henv h1
  subst hxe
  obtain ⟨op, nm, vt, vn, vs, pos, l⟩ := x
  simp only [Ex.op, Ex.nm, Ex.vt, Ex.vn, Ex.vs, Ex.args, Ex.pos] at cN cT hR ⊢
  generalize zs.length = NZ at cT ⊢
  have H3 : Hid (E1 = 0 → (ofP zs (.node op nm vt vn vs pos l)).1 = T1) := h3
  clear h2 h3 h4
  generalize noOp (.node op nm vt vn vs pos l) = NO at cN hR
  generalize (ofP zs (.node op nm vt vn vs pos l)).1 = T2 at hR H3
  generalize l.length = NL at cN cT ⊢
  cases NO
  · rw [if_neg (by decide)] at hR
    by_cases hE : E1 = 0
    · subst hE
      obtain rfl := H3.out rfl
      rw [if_neg (by simp)] at hR
      by_cases hT : T2 = 2
      · subst hT
        rw [if_neg (by simp)] at hR
        subst hR
        rw [errV, if_pos rfl] at cT ⊢
        go_enter Tryz.func24, Tryz.ntmps24
        go_wp2_with fail
        refine (cN _).mono ?_
        rintro e w1 ⟨rfl, b2⟩
        have kk := fun i => b2.cell (p := ⟨w.heap.size, i, none⟩) (by simp)
        have k0 := kk 0
        have k1 := kk 1
        have k2 := kk 2
        have k3 := kk 3
        have k4 := kk 4
        have k5 := kk 5
        have k6 := kk 6
        rw [World.cell?_alloc_at _ _ _ _ rfl] at k0 k1 k2 k3 k4 k5 k6
        simp at k0 k1 k2 k3 k4 k5 k6
        have hl : w.heap.size < w1.heap.size := by have := b2.size; simp at this; omega
        have c2 := cT _ w1 (b2.mono (by simp))
        clear cN cT kk
        go_wp2_with fail
        refine c2.mono ?_
        rintro e w2 ⟨rfl, b3⟩
        go_wp2
        go_ret
        exact ⟨rfl, ((b1 _).trans (b2.mono (by simp))).trans (b3.mono (by have := b2.size; simp at this; omega))⟩
      · rw [if_pos hT] at hR
        subst hR
        have hb : (T2 != 2) = true := by simpa using hT
        rw [errV, if_pos rfl] at cT
        rw [errV, if_neg (by decide)]
        go_enter Tryz.func24, Tryz.ntmps24
        go_wp2_with fail
        refine (cN _).mono ?_
        rintro e w1 ⟨rfl, b2⟩
        have kk := fun i => b2.cell (p := ⟨w.heap.size, i, none⟩) (by simp)
        have k0 := kk 0
        have k1 := kk 1
        have k2 := kk 2
        have k3 := kk 3
        have k4 := kk 4
        have k5 := kk 5
        have k6 := kk 6
        rw [World.cell?_alloc_at _ _ _ _ rfl] at k0 k1 k2 k3 k4 k5 k6
        simp at k0 k1 k2 k3 k4 k5 k6
        have hl : w.heap.size < w1.heap.size := by have := b2.size; simp at this; omega
        have c2 := cT _ w1 (b2.mono (by simp))
        clear cN cT kk
        go_wp2_with fail
        refine c2.mono ?_
        rintro e w2 ⟨rfl, b3⟩
        go_wp2
        go_ret
        exact ⟨rfl, ((b1 _).trans (b2.mono (by simp))).trans (b3.mono (by have := b2.size; simp at this; omega))⟩
    · rw [if_pos hE] at hR
      subst hR
      rw [errV, if_neg hE] at cT ⊢
      go_enter Tryz.func24, Tryz.ntmps24
      go_wp2_with fail
      refine (cN _).mono ?_
      rintro e w1 ⟨rfl, b2⟩
      have kk := fun i => b2.cell (p := ⟨w.heap.size, i, none⟩) (by simp)
      have k0 := kk 0
      have k1 := kk 1
      have k2 := kk 2
      have k3 := kk 3
      have k4 := kk 4
      have k5 := kk 5
      have k6 := kk 6
      rw [World.cell?_alloc_at _ _ _ _ rfl] at k0 k1 k2 k3 k4 k5 k6
      simp at k0 k1 k2 k3 k4 k5 k6
      have hl : w.heap.size < w1.heap.size := by have := b2.size; simp at this; omega
      have c2 := cT _ w1 (b2.mono (by simp))
      clear cN cT kk
      go_wp2_with fail
      refine c2.mono ?_
      rintro e w2 ⟨rfl, b3⟩
      go_wp2
      go_ret
      exact ⟨rfl, ((b1 _).trans (b2.mono (by simp))).trans (b3.mono (by have := b2.size; simp at this; omega))⟩
  · rw [if_pos rfl] at hR
    subst hR
    rw [errV, if_pos rfl]
    go_enter Tryz.func24, Tryz.ntmps24
    go_wp2_with fail
    refine (cN _).mono ?_
    rintro e w1 ⟨rfl, b2⟩
    clear cN cT
    go_wp2
    go_ret
    exact ⟨rfl, (b1 _).trans (b2.mono (by simp))⟩
end Go.Proofs.YtkbhmghdonomnaaGreatDoor
namespace Go.Proofs.YtkbhmghdonomnaaGreatDoor
open Go.RowKit
set_option linter.unusedVariables false

/-- Numbers one behind the other; none of them, and they may lie nowhere. -/
def IntA (w : World) (v : Value) (ts : List Int) : Prop := ∃ p c, v = .slice p ts.length c ∧ (ts.length ≤ c ∧ ts.length ≤ 1048576) ∧ (p = none → c = 0) ∧ ∀ a, p = some a → ∃ g off, a = ⟨g, off, none⟩ ∧ g < w.heap.size ∧ ∀ j (h : j < ts.length), w.cell? ⟨g, off + j, none⟩ = some (.int .i64 ts[j])
theorem IntA.on {w w' : World} {v : Value} {ts : List Int} (h : IntA w v ts) (hb : Below w.heap.size w w') : IntA w' v ts := by
  obtain ⟨p, c, e, h1, h2, h3⟩ := h
  refine ⟨p, c, e, h1, h2, fun a ha => ?_⟩
  obtain ⟨g, off, e2, h5, h6⟩ := h3 a ha
  exact ⟨g, off, e2, by have := hb.size; omega, fun j hj => by rw [hb.cell (p := ⟨g, off + j, none⟩) h5]; exact h6 j hj⟩
theorem IntA.nil (w : World) : IntA w (.slice none 0 0) [] := ⟨none, 0, rfl, ⟨Nat.le_refl _, Nat.zero_le _⟩, fun _ => rfl, fun a h => nomatch h⟩
end Go.Proofs.YtkbhmghdonomnaaGreatDoor
