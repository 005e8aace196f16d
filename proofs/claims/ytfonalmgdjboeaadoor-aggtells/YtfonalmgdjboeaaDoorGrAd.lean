/-
  AgO, AgQ, Arith, Reckon, IsErr, in one text.
-/
import Derived.Test.YtfonalmgdjboeaaDoorGrAc
import Derived.RowKit
import Derived.Test.YtfonalmgdjboeaaDoorProg
import Derived.WalkKit
import Derived.Lib.Strings
import Derived.Test.YtfonalmgdjboeaaDoorGrAa
namespace Go.Proofs.YtfonalmgdjboeaaDoor
open Go.RowKit
set_option linter.unusedVariables false

set_option maxHeartbeats 2000000 in
set_option maxRecDepth 20000 in
theorem ptResult_any (b off : Nat) (p : Pt) (q : Option Addr) (c : Nat) (rows : Int) (w : World) (hp : PartIs w b off p q c) (hk : OkPt p) (T K : Int) (S : ByteArray) (E : Int) (hR : resP p rows = ((T, K, S), E)) :
    Calls Tryd.prog 31 #[.pointer (some ⟨b, off, none⟩), .int .i64 rows] w fun e w' => e = .returned (.tuple #[.agg #[.int .i64 T, .int .i64 K, .string S], errV E]) ∧ Below w.heap.size w w' := by
  have h0 := hp.c0
  have hl := hp.lt
  have B1 : Below w.heap.size w (w.alloc (.cells #[.int .i64 0, .int .i64 0, .string ⟨#[]⟩] 26)) := alB _ _
  have hd0 : ∀ o1 : Obj, (w.alloc o1).cell? ⟨b, off, none⟩ = some (.string p.what) := fun o1 => by rw [(alB w o1).cell (p := ⟨b, off, none⟩) hl]; exact h0
  rcases isAg_or hk.ag with h | h | h | h
  · rw [resP, if_pos h] at hR
    simp only [Prod.mk.injEq] at hR
    obtain ⟨⟨rfl, rfl, rfl⟩, rfl⟩ := hR
    have hq := sum_ne h
    simp only [wCount] at hq
    rw [show errV 0 = .nilIface from rfl]
    clear hk hp h h0
    generalize p.what = x at *
    go_enter Tryd.func31, Tryd.ntmps31
    go_wp2
    exact bodyPost_ret (v := .tuple #[.agg #[.int .i64 1, .int .i64 rows, .string ⟨#[]⟩], .nilIface]) (by simp [results, Tryd.results31, go_sem]) rfl ⟨rfl, alB _ _⟩
  · rw [resP, if_neg (by rw [h]; decide), if_pos h] at hR
    have hq0 : (p.what.toList == [99, 111, 117, 110, 116]) = false := sum_no (show p.what.data.toList ≠ _ by rw [show p.what.data.toList = _ from h]; decide)
    have hq := sum_ne h
    simp only [wSum] at hq
    have hd2 : ∀ o1 : Obj, (w.alloc o1).cell? ⟨b, off + 2, none⟩ = some (.slice q p.ws.length c) := fun o1 => by rw [(alB w o1).cell (p := ⟨b, off + 2, none⟩) hl]; exact hp.c2
    by_cases hin : -9223372036854775808 ≤ sv p.ws ∧ sv p.ws ≤ 9223372036854775807
    · rw [if_pos hin] at hR
      simp only [Prod.mk.injEq] at hR
      obtain ⟨⟨rfl, rfl, rfl⟩, rfl⟩ := hR
      have cN := fun o1 => number_any (.slice q p.ws.length c) p.ws (w.alloc o1) (hp.tot.on (alB w o1)) hk.ws.2.1 (sv p.ws) 0 (if_pos hin)
      rw [show errV 0 = .nilIface from rfl] at cN ⊢
      clear hk hp h h0 hin
      generalize p.what = x at *
      generalize p.ws.length = L at *
      generalize sv p.ws = T at *
      go_enter Tryd.func31, Tryd.ntmps31
      go_wp2_with fail
      refine (cN _).mono ?_
      rintro e w1 ⟨rfl, rfl⟩
      clear cN
      go_wp2
      exact bodyPost_ret (v := .tuple #[.agg #[.int .i64 1, .int .i64 T, .string ⟨#[]⟩], .nilIface]) (by simp [results, Tryd.results31, go_sem]) rfl ⟨rfl, alB _ _⟩
    · rw [if_neg hin] at hR
      simp only [Prod.mk.injEq] at hR
      obtain ⟨⟨rfl, rfl, rfl⟩, rfl⟩ := hR
      have cN := fun o1 => number_any (.slice q p.ws.length c) p.ws (w.alloc o1) (hp.tot.on (alB w o1)) hk.ws.2.1 0 9 (if_neg hin)
      rw [show errV 9 = .iface 53 (.int .i64 9) from rfl] at cN ⊢
      clear hk hp h h0 hin
      generalize p.what = x at *
      generalize p.ws.length = L at *
      go_enter Tryd.func31, Tryd.ntmps31
      go_wp2_with fail
      refine (cN _).mono ?_
      rintro e w1 ⟨rfl, rfl⟩
      clear cN
      go_wp2
      exact bodyPost_ret (v := .tuple #[.agg #[.int .i64 1, .int .i64 0, .string ⟨#[]⟩], .iface 53 (.int .i64 9)]) (by simp [results, Tryd.results31, go_sem]) rfl ⟨rfl, alB _ _⟩
  all_goals
    rw [resP, if_neg (by rw [h]; decide), if_neg (by rw [h]; decide)] at hR
    have hq0 : (p.what.toList == [99, 111, 117, 110, 116]) = false := sum_no (show p.what.data.toList ≠ _ by rw [show p.what.data.toList = _ from h]; decide)
    have hq1 : (p.what.toList == [115, 117, 109]) = false := sum_no (show p.what.data.toList ≠ _ by rw [show p.what.data.toList = _ from h]; decide)
    have cE := fun o1 : Obj => isEmpty_any b off p.best.1 (w.alloc o1) (by rw [(alB w o1).cell (p := ⟨b, off + 3, none⟩) hl]; exact hp.c3)
    by_cases h1 : p.best.1 = 0
    · rw [if_pos h1] at hR
      simp only [noV, Prod.mk.injEq] at hR
      obtain ⟨⟨rfl, rfl, rfl⟩, rfl⟩ := hR
      rw [h1, show ((0 : Int) == 0) = true from rfl] at cE
      rw [show errV 5 = .iface 53 (.int .i64 5) from rfl]
      clear hk hp h h0 h1
      generalize p.what = x at *
      go_enter Tryd.func31, Tryd.ntmps31
      go_wp2_with fail
      refine (cE _).mono ?_
      rintro e w1 ⟨rfl, rfl⟩
      clear cE
      go_wp2
      exact bodyPost_ret (v := .tuple #[.agg #[.int .i64 0, .int .i64 0, .string ⟨#[]⟩], .iface 53 (.int .i64 5)]) (by simp [results, Tryd.results31, go_sem]) rfl ⟨rfl, alB _ _⟩
    · rw [if_neg h1] at hR
      have hsz := chk_size (hk.best.resolve_left (fun h => h1 h.1)).2.1
      have hb1 : (p.best.1 == 0) = false := by simpa using h1
      rw [hb1] at cE
      obtain ⟨e1, rfl⟩ := Prod.mk.inj hR
      have d3 : ∀ o1 : Obj, (w.alloc o1).cell? ⟨b, off + 3, none⟩ = some (.int .i64 T) := fun o1 => by rw [(alB w o1).cell (p := ⟨b, off + 3, none⟩) hl, hp.c3, e1]
      have d4 : ∀ o1 : Obj, (w.alloc o1).cell? ⟨b, off + 4, none⟩ = some (.int .i64 K) := fun o1 => by rw [(alB w o1).cell (p := ⟨b, off + 4, none⟩) hl, hp.c4, e1]
      have d5 : ∀ o1 : Obj, (w.alloc o1).cell? ⟨b, off + 5, none⟩ = some (.string S) := fun o1 => by rw [(alB w o1).cell (p := ⟨b, off + 5, none⟩) hl, hp.c5, e1]
      rw [e1] at hsz
      simp at hsz
      have cF := fun W => valFresh_any T K S W (by omega)
      rw [show errV 0 = .nilIface from rfl]
      clear hk hp h h0 h1 hR e1 hb1
      generalize p.what = x at *
      go_enter Tryd.func31, Tryd.ntmps31
      go_wp2_with fail
      refine (cE _).mono ?_
      rintro e w1 ⟨rfl, rfl⟩
      clear cE
      go_wp2_with fail
      refine (cF _).mono ?_
      rintro e w1 ⟨rfl, B2⟩
      clear cF
      obtain ⟨k1, k2, k3⟩ := box_at w _ _ B2 (by simp)
      have f0 := k1 0
      have f1 := k1 1
      have f2 := k1 2
      simp at f0 f1 f2
      have B3 : Below w.heap.size w w1 := B1.trans (B2.mono B1.size)
      clear B2 k1
      go_wp2
      refine bodyPost_ret (v := .tuple #[.agg #[.int .i64 T, .int .i64 K, .string S], .nilIface]) (by simp [results, Tryd.results31, go_sem, World.cell?_setCell_other, World.cell?_setCell_same, f0, f1, f2]) rfl ⟨rfl, ?_⟩
      exact ((B3.setCell (p := ⟨w.heap.size, 0, none⟩) (Nat.le_refl _) _).setCell (p := ⟨w.heap.size, 1, none⟩) (Nat.le_refl _) _).setCell (p := ⟨w.heap.size, 2, none⟩) (Nat.le_refl _) _
set_option maxHeartbeats 2000000 in
set_option maxRecDepth 20000 in
/-- A new part. -/
theorem newPart_any (x : ByteArray) (k : Int) (w : World) (henv : AEnv w) (p : Pt) (hp : npP x k = p) (E : Int) (hE : npE x.data.toList k = E) :
    Calls Tryd.prog 17 #[.string x, .int .i64 k] w fun e w' => e = .returned (.tuple #[.agg #[.string p.what, .int .i64 p.kind, .slice none 0 0, .int .i64 0, .int .i64 0, .string ⟨#[]⟩], errV E]) ∧ Below w.heap.size w w' := by
  have cA := fun o1 : Obj => isAgg_any x (w.alloc o1) (henv.on (alB w o1))
  have B1 := alB w (.cells #[.string ⟨#[]⟩, .int .i64 0, .slice none 0 0, .int .i64 0, .int .i64 0, .string ⟨#[]⟩] 60)
  rw [npP, hE] at hp
  have hbad : ∀ j : Int, E = j → j ≠ 0 → p.what = ⟨#[]⟩ ∧ p.kind = 0 := fun j hj h0 => by rw [if_pos (by omega)] at hp; subst hp; exact ⟨rfl, rfl⟩
  have hgood : E = 0 → p.what = x ∧ p.kind = if x.data.toList = wCount then 0 else k := fun h0 => by rw [if_neg (by omega)] at hp; subst hp; exact ⟨rfl, rfl⟩
  clear hp
  unfold npE at hE
  by_cases h1 : isAg x.data.toList = false
  · rw [if_pos h1] at hE
    subst hE
    rw [h1] at cA
    obtain ⟨e1, e2⟩ := hbad 2 rfl (by decide)
    rw [e1, e2, show errV 2 = .iface 53 (.int .i64 2) from rfl]
    clear hbad hgood h1 henv e1 e2
    go_enter Tryd.func17, Tryd.ntmps17
    go_wp2_with fail
    refine (cA _).mono ?_
    rintro e w1 ⟨rfl, rfl⟩
    clear cA
    go_wp2
    exact bodyPost_ret (v := .tuple #[.agg #[.string ⟨#[]⟩, .int .i64 0, .slice none 0 0, .int .i64 0, .int .i64 0, .string ⟨#[]⟩], .iface 53 (.int .i64 2)]) (by simp [results, Tryd.results17, go_sem]) rfl ⟨rfl, B1⟩
  · rw [if_neg h1] at hE
    have h1' : isAg x.data.toList = true := by simpa using h1
    rw [h1'] at cA
    have hxs : x.size ≤ 40 := by
      have : x.data.toList.length = x.size := by simp
      rcases isAg_or h1' with h | h | h | h <;> rw [h] at this <;> simp [wCount, wSum, wLeast, wMost] at this <;> omega
    clear h1
    by_cases h2 : x.data.toList = wCount
    · rw [if_pos h2] at hE
      subst hE
      obtain ⟨e1, e2⟩ := hgood rfl
      rw [if_pos h2] at e2
      have hq := sum_ne h2
      simp only [wCount] at hq
      have hxe : x = ⟨#[99, 111, 117, 110, 116]⟩ := by
        have : x.data = #[99, 111, 117, 110, 116] := Array.toList_inj.1 h2
        cases x; simp_all
      rw [e1, e2, show errV 0 = .nilIface from rfl]
      clear hbad hgood h1' henv e1 e2 h2
      rw [hxe]
      have HX : Hid (x = ⟨#[99, 111, 117, 110, 116]⟩) := hxe
      subst hxe
      go_enter Tryd.func17, Tryd.ntmps17
      go_wp2_with fail
      refine (cA _).mono ?_
      rintro e w1 ⟨rfl, rfl⟩
      clear cA
      go_wp2
      exact bodyPost_ret (v := .tuple #[.agg #[.string ⟨#[99, 111, 117, 110, 116]⟩, .int .i64 0, .slice none 0 0, .int .i64 0, .int .i64 0, .string ⟨#[]⟩], .nilIface]) (by simp [results, Tryd.results17, go_sem]) rfl ⟨rfl, alB _ _⟩
    · rw [if_neg h2] at hE
      have hq := sum_no h2
      simp only [wCount] at hq
      by_cases h3 : ¬ (k = 1 ∨ k = 2 ∨ k = 3)
      · rw [if_pos h3] at hE
        subst hE
        obtain ⟨e1, e2⟩ := hbad 1 rfl (by decide)
        have cT := fun W => isType_no k W h3
        rw [e1, e2, show errV 1 = .iface 53 (.int .i64 1) from rfl]
        clear hbad hgood h1' henv e1 e2 h2 h3
        go_enter Tryd.func17, Tryd.ntmps17
        go_wp2_with fail
        refine (cA _).mono ?_
        rintro e w1 ⟨rfl, rfl⟩
        clear cA
        go_wp2_with fail
        refine (cT _).mono ?_
        rintro e w1 ⟨rfl, rfl⟩
        clear cT
        go_wp2
        exact bodyPost_ret (v := .tuple #[.agg #[.string ⟨#[]⟩, .int .i64 0, .slice none 0 0, .int .i64 0, .int .i64 0, .string ⟨#[]⟩], .iface 53 (.int .i64 1)]) (by simp [results, Tryd.results17, go_sem]) rfl ⟨rfl, alB _ _⟩
      · rw [if_neg h3] at hE
        have cT := fun W => isType_yes k W (Decidable.not_not.1 h3)
        by_cases h4 : x.data.toList = wSum ∧ k ≠ 1
        · rw [if_pos h4] at hE
          subst hE
          obtain ⟨e1, e2⟩ := hbad 8 rfl (by decide)
          rw [e1, e2, show errV 8 = .iface 53 (.int .i64 8) from rfl]
          have hq1 := sum_ne h4.1
          simp only [wSum] at hq1
          have hk1 : (k != 1) = true := by simpa using h4.2
          clear hbad hgood h1' henv e1 e2 h2 h3 h4
          go_enter Tryd.func17, Tryd.ntmps17
          go_wp2_with fail
          refine (cA _).mono ?_
          rintro e w1 ⟨rfl, rfl⟩
          clear cA
          go_wp2_with fail
          refine (cT _).mono ?_
          rintro e w1 ⟨rfl, rfl⟩
          clear cT
          go_wp2
          exact bodyPost_ret (v := .tuple #[.agg #[.string ⟨#[]⟩, .int .i64 0, .slice none 0 0, .int .i64 0, .int .i64 0, .string ⟨#[]⟩], .iface 53 (.int .i64 8)]) (by simp [results, Tryd.results17, go_sem]) rfl ⟨rfl, alB _ _⟩
        · rw [if_neg h4] at hE
          subst hE
          obtain ⟨e1, e2⟩ := hgood rfl
          rw [if_neg h2] at e2
          rw [e1, e2, show errV 0 = .nilIface from rfl]
          have hor : (x.toList == [115, 117, 109]) = false ∨ ((x.toList == [115, 117, 109]) = true ∧ (k != 1) = false) := by
            by_cases hs : x.data.toList = wSum
            · have hk1 : k = 1 := Decidable.not_not.1 (fun hk => h4 ⟨hs, hk⟩)
              exact .inr ⟨sum_ne hs, by simpa using hk1⟩
            · exact .inl (sum_no hs)
          have cC := fun W => clone_any x W (by omega)
          clear hbad hgood h1' henv e1 e2 h2 h3 h4
          rcases hor with hq1 | ⟨hq1, hk1⟩
          all_goals
            go_enter Tryd.func17, Tryd.ntmps17
            go_wp2_with fail
            refine (cA _).mono ?_
            rintro e w1 ⟨rfl, rfl⟩
            clear cA
            go_wp2_with fail
            refine (cT _).mono ?_
            rintro e w1 ⟨rfl, rfl⟩
            clear cT
            go_wp2_with fail
            refine (cC _).mono ?_
            rintro e w1 ⟨rfl, B2⟩
            clear cC
            have P1 : Blk w1 w.heap.size #[.string ⟨#[]⟩, .int .i64 0, .slice none 0 0, .int .i64 0, .int .i64 0, .string ⟨#[]⟩] 60 := (blk_alloc w _ _).on B2
            have B3 : Below w.heap.size w w1 := B1.trans (B2.mono B1.size)
            clear B2 B1
            go_wp2_with (refine wpList_store_blk rfl 60 _ _ rfl w.heap.size 0 #[.string x, .int .i64 k, .slice none 0 0, .int .i64 0, .int .i64 0, .string ⟨#[]⟩] rfl rfl _ _ P1 (by simp) size_partB (one_p6 _ _ _ _ _ _ _ _) ?_; intro W3 P5 K5)
            have B4 : Below w.heap.size w W3 := B3.trans K5.below
            have P6 : Blk W3 w.heap.size #[.string x, .int .i64 k, .slice none 0 0, .int .i64 0, .int .i64 0, .string ⟨#[]⟩] 60 := by simpa only [putA, List.setIfInBounds_toArray, List.set_cons_zero, List.set_cons_succ, Nat.reduceAdd] using P5
            have c0 := P6.cell 0
            have c1 := P6.cell 1
            have c2 := P6.cell 2
            have c3 := P6.cell 3
            have c4 := P6.cell 4
            have c5 := P6.cell 5
            simp at c0 c1 c2 c3 c4 c5
            exact bodyPost_ret (v := .tuple #[.agg #[.string x, .int .i64 k, .slice none 0 0, .int .i64 0, .int .i64 0, .string ⟨#[]⟩], .nilIface]) (by simp [results, Tryd.results17, go_sem, c0, c1, c2, c3, c4, c5]) rfl ⟨rfl, B4⟩
def alikeP (p o : Pt) : Bool := (p.what.toList == o.what.toList) && (p.kind == o.kind)
theorem alike_any (x : ByteArray) (k : Int) (q : Option Addr) (m c : Nat) (t n : Int) (s : ByteArray) (x2 : ByteArray) (k2 : Int) (q2 : Option Addr) (m2 c2 : Nat) (t2 n2 : Int) (s2 : ByteArray) (w : World) :
    Calls Tryd.prog 27 #[.agg #[.string x, .int .i64 k, .slice q m c, .int .i64 t, .int .i64 n, .string s], .agg #[.string x2, .int .i64 k2, .slice q2 m2 c2, .int .i64 t2, .int .i64 n2, .string s2]] w fun e w' => e = .returned (.bool ((x.toList == x2.toList) && (k == k2))) ∧ Below w.heap.size w w' := by
  cases hq : (x.toList == x2.toList)
  · rw [Bool.false_and]
    go_enter Tryd.func27, Tryd.ntmps27
    go_wp2
    go_ret
    exact ⟨rfl, al2 w _ _⟩
  · rw [Bool.true_and]
    go_enter Tryd.func27, Tryd.ntmps27
    go_wp2
    go_ret
    exact ⟨rfl, al2 w _ _⟩
end Go.Proofs.YtfonalmgdjboeaaDoor
namespace Go.Proofs.YtfonalmgdjboeaaDoor
open Go.RowKit
set_option linter.unusedVariables false

/-- Parts one behind the other, in a block. -/
structure PtsAt (w : World) (g : Nat) (cur : Array Value) (ps : List Pt) : Prop where
  blk : Blk w g cur 60
  len : ps.length * 6 ≤ cur.size
  part : ∀ i (h : i < ps.length), ∃ q c, PartIs w g (i * 6) ps[i] q c
theorem tot_kp {w w' : World} {g : Nat} {cur : Array Value} {v : Value} {ws : List Int} (hb : Blk w g cur 60) (h : TotA w v ws) (hk : Kp (· = g) w w') : TotA w' v ws :=
  h.keep fun k cs hc => hk.kept k (lt_of_block hc) (fun e => by
    subst e
    unfold Blk at hb
    rw [hb] at hc
    injection hc with hc
    injection hc with _ hc _
    exact absurd hc (by decide))
theorem PtsAt.on {w w' : World} {g : Nat} {cur : Array Value} {ps : List Pt} (h : PtsAt w g cur ps) (hb : Below w.heap.size w w') : PtsAt w' g cur ps :=
  ⟨h.blk.on hb, h.len, fun i hi => by obtain ⟨q, c, hp⟩ := h.part i hi; exact ⟨q, c, hp.on hb⟩⟩
theorem PtsAt.keep {w w' : World} {g : Nat} {cur : Array Value} {ps : List Pt} {S : Nat → Prop} (h : PtsAt w g cur ps) (hk : Kp S w w') (hg : ¬ S g) (hS : ∀ (k : Nat) (cs : Array Value), S k → w.heap[k]? = some (Obj.cells cs 84 (0, 0)) → False) : PtsAt w' g cur ps := by
  refine ⟨h.blk.kp hk hg, h.len, fun i hi => ?_⟩
  obtain ⟨q, c, c0, c1, c2, c3, c4, c5, t, lt⟩ := h.part i hi
  have k : ∀ o, w'.cell? ⟨g, o, none⟩ = w.cell? ⟨g, o, none⟩ := fun o => hk.cell o lt hg
  exact ⟨q, c, by rw [k]; exact c0, by rw [k]; exact c1, by rw [k]; exact c2, by rw [k]; exact c3, by rw [k]; exact c4, by rw [k]; exact c5, t.keep (fun b cs hc => hk.kept b (lt_of_block hc) (fun e => hS b cs e hc)), by have := hk.size; omega⟩
/-- One of them has turned. -/
theorem PtsAt.upd {w w' : World} {g : Nat} {cur cur' : Array Value} {ps : List Pt} (h : PtsAt w g cur ps) {i : Nat} (hi : i < ps.length) (hb : Blk w' g cur' 60) (hs : cur'.size = cur.size) (hc : ∀ j, ¬ (i * 6 ≤ j ∧ j < i * 6 + 6) → cur'[j]? = cur[j]?) {p' : Pt} {q : Option Addr} {c : Nat} (hp : PartIs w' g (i * 6) p' q c) (hk : Kp (· = g) w w') : PtsAt w' g cur' (ps.set i p') := by
  refine ⟨hb, by rw [List.length_set, hs]; exact h.len, fun j hj => ?_⟩
  rw [List.length_set] at hj
  rw [List.getElem_set]
  by_cases hij : i = j
  · subst hij
    rw [if_pos rfl]
    exact ⟨q, c, hp⟩
  · rw [if_neg hij]
    obtain ⟨q, c, c0, c1, c2, c3, c4, c5, t, lt⟩ := h.part j hj
    have k : ∀ o, o < 6 → w'.cell? ⟨g, j * 6 + o, none⟩ = w.cell? ⟨g, j * 6 + o, none⟩ := fun o ho => by rw [hb.cell, h.blk.cell, hc _ (by omega)]
    refine ⟨q, c, ?_, by rw [k 1 (by omega)]; exact c1, by rw [k 2 (by omega)]; exact c2, by rw [k 3 (by omega)]; exact c3, by rw [k 4 (by omega)]; exact c4, by rw [k 5 (by omega)]; exact c5, tot_kp h.blk t hk, by have := hk.size; omega⟩
    have := k 0 (by omega)
    rw [Nat.add_zero] at this
    rw [this]; exact c0
theorem PtsAt.same {w : World} {g : Nat} {cur : Array Value} {ps : List Pt} (h : PtsAt w g cur ps) {i : Nat} (hi : i < ps.length) : PtsAt w g cur (ps.set i ps[i]) := by
  rw [List.set_getElem_self]; exact h
theorem putA_at : ∀ (vs : List Value) (cs : Array Value) (o j : Nat), ¬ (o ≤ j ∧ j < o + vs.length) → (putA cs o vs)[j]? = cs[j]?
  | [], _, _, _, _ => rfl
  | v :: vs, cs, o, j, h => by
    rw [putA, putA_at vs _ _ _ (by simp at h; omega), Array.getElem?_setIfInBounds_ne (by simp at h; omega)]
theorem putA_size : ∀ (vs : List Value) (cs : Array Value) (o : Nat), (putA cs o vs).size = cs.size
  | [], _, _ => rfl
  | v :: vs, cs, o => by rw [putA, putA_size vs]; simp
theorem putA_in : ∀ (vs : List Value) (cs : Array Value) (o j : Nat) (h : j < vs.length), o + vs.length ≤ cs.size → (putA cs o vs)[o + j]? = some vs[j]
  | [], _, _, _, h, _ => absurd h (by simp)
  | v :: vs, cs, o, 0, _, hs => by
    rw [putA, putA_at vs _ _ _ (by omega), Nat.add_zero, Array.getElem?_setIfInBounds_self_of_lt (by simp at hs; omega)]
    rfl
  | v :: vs, cs, o, j + 1, h, hs => by
    have := putA_in vs (cs.setIfInBounds o v) (o + 1) j (by simpa using h) (by simp at hs ⊢; omega)
    rw [putA, show o + (j + 1) = o + 1 + j by omega, this]
    rfl
theorem PartIs.keep {w w' : World} {g off : Nat} {p : Pt} {q : Option Addr} {c : Nat} (h : PartIs w g off p q c) (hk : w'.heap[g]? = w.heap[g]?) (hs : w.heap.size ≤ w'.heap.size) (ht : TotA w' (.slice q p.ws.length c) p.ws) : PartIs w' g off p q c := by
  obtain ⟨c0, c1, c2, c3, c4, c5, t, lt⟩ := h
  have k : ∀ o, w'.cell? ⟨g, o, none⟩ = w.cell? ⟨g, o, none⟩ := fun o => World.cell?_of_block (w := w) (a := ⟨g, o, none⟩) hk
  exact ⟨by rw [k]; exact c0, by rw [k]; exact c1, by rw [k]; exact c2, by rw [k]; exact c3, by rw [k]; exact c4, by rw [k]; exact c5, ht, by omega⟩
theorem sum_end {w w2 : World} {g : Nat} {cur : Array Value} {ps : List Pt} {i : Nat} {p : Pt} {q : Option Addr} {c : Nat} (h : PtsAt w g cur ps) (hi : i < ps.length) (hp : PartIs w g (i * 6) p q c) (hb : Below w.heap.size w w2) {rq : Option Addr} {rc : Nat} {ws' : List Int} (ht : TotA w2 (.slice rq ws'.length rc) ws') :
    PtsAt (w2.setCell ⟨g, i * 6 + 2, none⟩ (.slice rq ws'.length rc)) g (cur.setIfInBounds (i * 6 + 2) (.slice rq ws'.length rc)) (ps.set i { p with ws := ws' }) ∧ Kp (· = g) w (w2.setCell ⟨g, i * 6 + 2, none⟩ (.slice rq ws'.length rc)) := by
  have h2 := h.on hb
  have p2 := hp.on hb
  have hlen := h.len
  have hK : Kp (· = g) w2 (w2.setCell ⟨g, i * 6 + 2, none⟩ (.slice rq ws'.length rc)) := (Kp.refl _ _).set _ _ (fun _ => rfl)
  refine ⟨h2.upd hi (h2.blk.set _ _) (by simp) (fun j hj => by rw [Array.getElem?_setIfInBounds_ne (by omega)]) (p' := { p with ws := ws' }) (q := rq) (c := rc) ?_ hK, (Kp.of_below hb).trans hK⟩
  obtain ⟨c0, c1, c2, c3, c4, c5, t, lt⟩ := p2
  refine ⟨?_, ?_, ?_, ?_, ?_, ?_, tot_kp h2.blk ht hK, by simpa [World.setCell] using lt⟩
  · rw [cell_ne (by omega)]; exact c0
  · rw [cell_ne (by omega)]; exact c1
  · exact cell_eq c2
  · rw [cell_ne (by omega)]; exact c3
  · rw [cell_ne (by omega)]; exact c4
  · rw [cell_ne (by omega)]; exact c5
set_option maxHeartbeats 2000000 in
set_option maxRecDepth 20000 in
/-- A sum takes another one. -/
theorem ptTake_sum (g : Nat) (cur : Array Value) (ps : List Pt) (i : Nat) (hi : i < ps.length) (p : Pt) (hpi : ps[i]'hi = p) (o : Pt) (q2 : Option Addr) (c2 : Nat) (w : World) (h : PtsAt w g cur ps) (kp : OkPt p) (ko : OkPt o) (ht : TotA w (.slice q2 o.ws.length c2) o.ws) (hx : p.wh = wSum) :
    Calls Tryd.prog 43 #[.pointer (some ⟨g, i * 6, none⟩), .agg #[.string o.what, .int .i64 o.kind, .slice q2 o.ws.length c2, .int .i64 o.best.1, .int .i64 o.best.2.1, .string o.best.2.2]] w fun e w' => e = .returned (.tuple #[]) ∧ (∃ cur', Aside (PtsAt w' g cur' (ps.set i (tkP p o)))) ∧ Aside (Kp (· = g) w w') := by
  obtain ⟨q, c, hp⟩ := h.part i hi
  rw [hpi] at hp
  have h0 := hp.c0
  have h2 := hp.c2
  have hl := hp.lt
  have hq : (p.what.toList == [115, 117, 109]) = true := sum_ne hx
  have HP : Aside (PtsAt w g cur ps) := h
  have HI : Hid (i < ps.length) := hi
  have HPI : Aside (PartIs w g (i * 6) p q c) := hp
  have HTK : Hid (tkP p o = { p with ws := shW (sumW p.ws o.ws) }) := by show _ = _; rw [tkP, if_pos hx]
  have cP := fun (W : World) (hW : Below w.heap.size w W) => plus_any (.slice q p.ws.length c) (.slice q2 o.ws.length c2) p.ws o.ws W (hp.tot.on hW) (ht.on hW) kp.ws.2.2 ko.ws.2.2
  have hd0 : ∀ o1 : Obj, (w.alloc o1).cell? ⟨g, i * 6, none⟩ = some (.string p.what) := fun o1 => by rw [(alB w o1).cell (p := ⟨g, i * 6, none⟩) hl]; exact h0
  have hd2 : ∀ o1 : Obj, (w.alloc o1).cell? ⟨g, i * 6 + 2, none⟩ = some (.slice q p.ws.length c) := fun o1 => by rw [(alB w o1).cell (p := ⟨g, i * 6 + 2, none⟩) hl]; exact h2
  clear h hp kp ko ht h0 h2 hpi hx
  have hgs : g ≠ w.heap.size := by omega
  go_enter Tryd.func43, Tryd.ntmps43
  go_wp2
  go_region_with (go_at_call 53; refine (cP _ (Below.drew (alB w _))).mono ?_; rintro e w2 ⟨⟨r, rfl, T2⟩, B2⟩; obtain ⟨rq, rc, rfl, _⟩ := T2.form; have B3 : Below w.heap.size w w2 := (Below.drew (alB w _)).trans (B2.mono (by simp)); have hfz : w2.frozen? ⟨g, i * 6 + 2, none⟩ = false := (HP.out.blk.on B3).frozen _; have hce : w2.cell? ⟨g, i * 6 + 2, none⟩ = some (.slice q p.ws.length c) := (HPI.out.on B3).c2)
  all_goals
    have hend := sum_end HP.out HI.out HPI.out B3 T2
    rw [← HTK.out] at hend
    have HEN : Aside _ := hend
    clear hend T2
    go_wp2
    go_end0
    exact ⟨rfl, ⟨_, HEN.out.1⟩, HEN.out.2⟩
theorem best_end {w w2 w3 : World} {g : Nat} {cur : Array Value} {ps : List Pt} {i : Nat} {p : Pt} {q : Option Addr} {c : Nat} (h : PtsAt w g cur ps) (hi : i < ps.length) (hp : PartIs w g (i * 6) p q c) (hb : Below w.heap.size w w2) {v : V3} (hB : Blk w3 g (putA cur (i * 6 + 3) [.int .i64 v.1, .int .i64 v.2.1, .string v.2.2]) 60) (hk : But g w2 w3) :
    PtsAt w3 g (putA cur (i * 6 + 3) [.int .i64 v.1, .int .i64 v.2.1, .string v.2.2]) (ps.set i { p with best := v }) ∧ Kp (· = g) w w3 := by
  have h2 := h.on hb
  have p2 := hp.on hb
  have hlen := h.len
  have hK : Kp (· = g) w2 w3 := Kp.of_but hk rfl
  refine ⟨h2.upd hi hB (putA_size _ _ _) (fun j hj => by rw [putA_at _ _ _ _ (by simp; omega)]) (p' := { p with best := v }) (q := q) (c := c) ?_ hK, (Kp.of_below hb).trans hK⟩
  obtain ⟨c0, c1, c2, c3, c4, c5, t, lt⟩ := p2
  have k : ∀ o, o < i * 6 + 3 → w3.cell? ⟨g, o, none⟩ = w2.cell? ⟨g, o, none⟩ := fun o ho => by rw [hB.cell, h2.blk.cell, putA_at _ _ _ _ (by omega)]
  have e : ∀ j (hj : j < 3), w3.cell? ⟨g, i * 6 + 3 + j, none⟩ = some ([.int .i64 v.1, .int .i64 v.2.1, .string v.2.2] : List Value)[j] := fun j hj => by rw [hB.cell, putA_in _ _ _ _ hj (by simp; omega)]
  refine ⟨by rw [k _ (by omega)]; exact c0, by rw [k _ (by omega)]; exact c1, by rw [k _ (by omega)]; exact c2, e 0 (by decide), e 1 (by decide), e 2 (by decide), tot_kp h2.blk t hK, by have := hk.size; omega⟩
theorem part_boxed (w : World) (o : Pt) (q2 : Option Addr) (c2 : Nat) (ht : TotA w (.slice q2 o.ws.length c2) o.ws) : PartIs (w.alloc (.cells #[.string o.what, .int .i64 o.kind, .slice q2 o.ws.length c2, .int .i64 o.best.1, .int .i64 o.best.2.1, .string o.best.2.2] 60)) w.heap.size 0 o q2 c2 := by
  have P := blk_alloc w #[.string o.what, .int .i64 o.kind, .slice q2 o.ws.length c2, .int .i64 o.best.1, .int .i64 o.best.2.1, .string o.best.2.2] 60
  exact ⟨P.cell 0, P.cell 1, P.cell 2, P.cell 3, P.cell 4, P.cell 5, ht.on (alB _ _), P.lt⟩
set_option maxHeartbeats 2000000 in
set_option maxRecDepth 20000 in
/-- A least or most takes another one. -/
theorem ptTake_best (g : Nat) (cur : Array Value) (ps : List Pt) (i : Nat) (hi : i < ps.length) (p : Pt) (hpi : ps[i]'hi = p) (o : Pt) (q2 : Option Addr) (c2 : Nat) (w : World) (h : PtsAt w g cur ps) (kp : OkPt p) (ko : OkPt o) (ht : TotA w (.slice q2 o.ws.length c2) o.ws) (hkk : o.kind = p.kind) (hx : p.wh = wLeast ∨ p.wh = wMost) :
    Calls Tryd.prog 43 #[.pointer (some ⟨g, i * 6, none⟩), .agg #[.string o.what, .int .i64 o.kind, .slice q2 o.ws.length c2, .int .i64 o.best.1, .int .i64 o.best.2.1, .string o.best.2.2]] w fun e w' => e = .returned (.tuple #[]) ∧ (∃ cur', Aside (PtsAt w' g cur' (ps.set i (tkP p o)))) ∧ Aside (Kp (· = g) w w') := by
  obtain ⟨q, c, hp⟩ := h.part i hi
  rw [hpi] at hp
  have h0 := hp.c0
  have hl := hp.lt
  have hq0 : (p.what.toList == [115, 117, 109]) = false := sum_no (show p.what.data.toList ≠ _ by rcases hx with hx | hx <;> rw [show p.what.data.toList = _ from hx] <;> decide)
  have HP : Aside (PtsAt w g cur ps) := h
  have HI : Hid (i < ps.length) := hi
  have HPI : Aside (PartIs w g (i * 6) p q c) := hp
  have hxs : p.wh ≠ wSum := by rcases hx with hx | hx <;> rw [hx] <;> decide
  have HTK : Hid (tkP p o = if aheadP o p = true then { p with best := o.best } else p) := by show _ = _; rw [tkP, if_neg hxs, if_pos hx]
  have HSET : Hid (ps.set i p = ps) := by show _ = _; rw [← hpi, List.set_getElem_self]
  have HB := part_boxed w o q2 c2 ht
  have cA := isAhead_any w.heap.size 0 g (i * 6) o p q2 q c2 c _ HB (hp.on (alB _ _)) ko kp hkk
  have hd0 : ∀ o1 : Obj, (w.alloc o1).cell? ⟨g, i * 6, none⟩ = some (.string p.what) := fun o1 => by rw [(alB w o1).cell (p := ⟨g, i * 6, none⟩) hl]; exact h0
  have hw : ((p.what.toList == [108, 101, 97, 115, 116]) = true) ∨ ((p.what.toList == [108, 101, 97, 115, 116]) = false ∧ (p.what.toList == [109, 111, 115, 116]) = true) := by
    rcases hx with hx | hx
    · exact .inl (sum_ne hx)
    · exact .inr ⟨sum_no (show p.what.data.toList ≠ _ by rw [show p.what.data.toList = _ from hx]; decide), sum_ne hx⟩
  have B1 := alB w (.cells #[.string o.what, .int .i64 o.kind, .slice q2 o.ws.length c2, .int .i64 o.best.1, .int .i64 o.best.2.1, .string o.best.2.2] 60)
  clear h hp kp ko ht h0 hpi hx hxs HB hkk
  have hgs : g ≠ w.heap.size := by omega
  cases hA : aheadP o p
  · rw [hA] at cA
    have HT := HTK.out
    rw [hA, if_neg (by decide)] at HT
    rw [HT, HSET.out]
    clear HTK HT hA
    rcases hw with hw | ⟨hw1, hw2⟩
    all_goals
      go_enter Tryd.func43, Tryd.ntmps43
      go_wp2_with fail
      refine cA.mono ?_
      rintro e w2 ⟨rfl, B2⟩
      have B3 : Aside (Below w.heap.size w w2) := B1.trans (B2.mono B1.size)
      clear cA B2
      go_wp2
      go_end0
      exact ⟨rfl, ⟨cur, HP.out.on B3.out⟩, (show Aside _ from Kp.of_below B3.out)⟩
  · rw [hA] at cA
    have HT := HTK.out
    rw [hA, if_pos rfl] at HT
    rw [HT]
    clear HTK HT hA
    rcases hw with hw | ⟨hw1, hw2⟩
    all_goals
      go_enter Tryd.func43, Tryd.ntmps43
      go_wp2_with fail
      refine cA.mono ?_
      rintro e w2 ⟨rfl, B2⟩
      have B3 : Below w.heap.size w w2 := B1.trans (B2.mono B1.size)
      have PB : Blk w2 w.heap.size _ _ := (blk_alloc w _ _).on B2
      have PG : Blk w2 g cur 60 := HP.out.blk.on B3
      have hsz : i * 6 + 3 + 3 ≤ cur.size := by have := HP.out.len; have := HI.out; omega
      clear cA B2
      go_wp2_with (first
        | (refine wpList_load_blk rfl 26 _ rfl w.heap.size 3 rfl _ _ PB [.int .i64 o.best.1, .int .i64 o.best.2.1, .string o.best.2.2] (fun j v hv => by match j, hv with
            | 0, hv => exact hv
            | 1, hv => exact hv
            | 2, hv => exact hv
            | j + 3, hv => simp at hv) _ Tryd.underlying26 rfl size_valB ?_)
        | (refine wpList_store_blk rfl 26 _ _ rfl g (i * 6 + 3) #[.int .i64 o.best.1, .int .i64 o.best.2.1, .string o.best.2.2] rfl rfl _ _ PG hsz size_valB (one_v3 _ _ _) ?_; intro W3 P5 K5))
      have hend : Aside _ := best_end HP.out HI.out HPI.out B3 P5 K5
      clear P5 K5 PB PG B3
      go_wp2
      go_end0
      exact ⟨rfl, ⟨_, hend.out.1⟩, hend.out.2⟩
theorem ptTake_count (g : Nat) (cur : Array Value) (ps : List Pt) (i : Nat) (hi : i < ps.length) (p : Pt) (hpi : ps[i]'hi = p) (o : Pt) (q2 : Option Addr) (c2 : Nat) (w : World) (h : PtsAt w g cur ps) (hx : p.wh = wCount) :
    Calls Tryd.prog 43 #[.pointer (some ⟨g, i * 6, none⟩), .agg #[.string o.what, .int .i64 o.kind, .slice q2 o.ws.length c2, .int .i64 o.best.1, .int .i64 o.best.2.1, .string o.best.2.2]] w fun e w' => e = .returned (.tuple #[]) ∧ (∃ cur', Aside (PtsAt w' g cur' (ps.set i (tkP p o)))) ∧ Aside (Kp (· = g) w w') := by
  obtain ⟨q, c, hp⟩ := h.part i hi
  rw [hpi] at hp
  have h0 := hp.c0
  have hl := hp.lt
  have HT : tkP p o = p := by rw [tkP, if_neg (by rw [hx]; decide), if_neg (by rw [hx]; decide)]
  have HSET : ps.set i p = ps := by rw [← hpi, List.set_getElem_self]
  rw [HT, HSET]
  have hq0 : (p.what.toList == [115, 117, 109]) = false := sum_no (show p.what.data.toList ≠ _ by rw [show p.what.data.toList = _ from hx]; decide)
  have hq1 : (p.what.toList == [108, 101, 97, 115, 116]) = false := sum_no (show p.what.data.toList ≠ _ by rw [show p.what.data.toList = _ from hx]; decide)
  have hq2 : (p.what.toList == [109, 111, 115, 116]) = false := sum_no (show p.what.data.toList ≠ _ by rw [show p.what.data.toList = _ from hx]; decide)
  have hd0 : ∀ o1 : Obj, (w.alloc o1).cell? ⟨g, i * 6, none⟩ = some (.string p.what) := fun o1 => by rw [(alB w o1).cell (p := ⟨g, i * 6, none⟩) hl]; exact h0
  have HP : Aside (PtsAt w g cur ps) := h
  clear HT HSET hx hp hpi h0 h
  go_enter Tryd.func43, Tryd.ntmps43
  go_wp2
  go_end0
  exact ⟨rfl, ⟨cur, HP.out.on (alB _ _)⟩, (show Aside _ from Kp.of_below (alB _ _))⟩
/-- A part takes what another one like it knows. -/
theorem ptTake_any (g : Nat) (cur : Array Value) (ps : List Pt) (i : Nat) (hi : i < ps.length) (p : Pt) (hpi : ps[i]'hi = p) (o : Pt) (q2 : Option Addr) (c2 : Nat) (w : World) (h : PtsAt w g cur ps) (kp : OkPt p) (ko : OkPt o) (ht : TotA w (.slice q2 o.ws.length c2) o.ws) (hkk : o.kind = p.kind) :
    Calls Tryd.prog 43 #[.pointer (some ⟨g, i * 6, none⟩), .agg #[.string o.what, .int .i64 o.kind, .slice q2 o.ws.length c2, .int .i64 o.best.1, .int .i64 o.best.2.1, .string o.best.2.2]] w fun e w' => e = .returned (.tuple #[]) ∧ (∃ cur', Aside (PtsAt w' g cur' (ps.set i (tkP p o)))) ∧ Aside (Kp (· = g) w w') := by
  rcases isAg_or kp.ag with hx | hx | hx | hx
  · exact ptTake_count g cur ps i hi p hpi o q2 c2 w h hx
  · exact ptTake_sum g cur ps i hi p hpi o q2 c2 w h kp ko ht hx
  · exact ptTake_best g cur ps i hi p hpi o q2 c2 w h kp ko ht hkk (.inl hx)
  · exact ptTake_best g cur ps i hi p hpi o q2 c2 w h kp ko ht hkk (.inr hx)
end Go.Proofs.YtfonalmgdjboeaaDoor
namespace Go.Proofs.YtfonalmgdjboeaaDoor
open Go.RowKit

theorem wrap_in (n : Int) (h : -9223372036854775808 ≤ n ∧ n ≤ 9223372036854775807) : wrap64 n = n := by unfold wrap64; omega
theorem wrap_bd (n : Int) : -9223372036854775808 ≤ wrap64 n ∧ wrap64 n ≤ 9223372036854775807 := by unfold wrap64; omega
theorem wrap_mod (n : Int) : ∃ k : Int, wrap64 n = n + k * 18446744073709551616 := by
  unfold wrap64
  exact ⟨-((n + 9223372036854775808) / 18446744073709551616), by omega⟩

theorem tdiv_near (p b : Int) (hb : b ≠ 0) : -(b.natAbs : Int) < p - p.tdiv b * b ∧ p - p.tdiv b * b < b.natAbs := by
  have h1 := Int.mul_tdiv_add_tmod p b
  have h2 : p - p.tdiv b * b = p.tmod b := by rw [Int.mul_comm]; omega
  rw [h2]
  have h3 : (p.tmod b).natAbs < b.natAbs := by
    rw [Int.natAbs_tmod]
    exact Nat.mod_lt _ (by omega)
  omega

theorem tdiv_bd (p b : Int) (hp : -9223372036854775808 ≤ p ∧ p ≤ 9223372036854775807) (h : ¬ (p = -9223372036854775808 ∧ b = -1)) :
    -9223372036854775808 ≤ p.tdiv b ∧ p.tdiv b ≤ 9223372036854775807 := by
  have h3 : (p.tdiv b).natAbs = p.natAbs / b.natAbs := Int.natAbs_tdiv p b
  have h4 : p.natAbs / b.natAbs ≤ p.natAbs := Nat.div_le_self _ _
  by_cases hm : p = -9223372036854775808
  · have hb : b ≠ -1 := fun e => h ⟨hm, e⟩
    by_cases h1 : b = 1
    · subst h1; rw [Int.tdiv_one]; exact hp
    · have h5 : p.natAbs / b.natAbs ≤ p.natAbs / 2 ∨ b = 0 := by
        by_cases h0 : b = 0
        · exact Or.inr h0
        · exact Or.inl (Nat.div_le_div_left (by omega) (by omega))
      rcases h5 with h5 | h5
      · have : p.natAbs = 9223372036854775808 := by omega
        omega
      · subst h5; rw [Int.tdiv_zero]; omega
  · omega

theorem mul_back (a b : Int) (ha : -9223372036854775808 ≤ a ∧ a ≤ 9223372036854775807) (hb : b ≠ 0)
    (h : -9223372036854775808 ≤ a * b ∧ a * b ≤ 9223372036854775807) : wrap64 ((wrap64 (a * b)).tdiv b) = a := by
  rw [wrap_in _ h, Int.mul_tdiv_cancel _ hb, wrap_in _ ha]

theorem mul_min (a b : Int) (h : -9223372036854775808 ≤ a * b ∧ a * b ≤ 9223372036854775807) : ¬ (a = -9223372036854775808 ∧ b = -1) := by
  rintro ⟨rfl, rfl⟩; omega

theorem mul_over (a b : Int) (ha : -9223372036854775808 ≤ a ∧ a ≤ 9223372036854775807) (hb : -9223372036854775808 ≤ b ∧ b ≤ 9223372036854775807) (h0 : b ≠ 0)
    (h : ¬ (-9223372036854775808 ≤ a * b ∧ a * b ≤ 9223372036854775807)) (hm : ¬ (a = -9223372036854775808 ∧ b = -1)) : wrap64 ((wrap64 (a * b)).tdiv b) ≠ a := by
  intro e
  by_cases hb1 : b = -1
  · subst hb1; omega
  · have hw := wrap_bd (a * b)
    rw [wrap_in _ (tdiv_bd _ b hw (fun x => hb1 x.2))] at e
    obtain ⟨k, hk⟩ := wrap_mod (a * b)
    have hn := tdiv_near (wrap64 (a * b)) b h0
    rw [e] at hn
    have : k = 0 := by omega
    subst this
    omega
end Go.Proofs.YtfonalmgdjboeaaDoor
namespace Go.Proofs.YtfonalmgdjboeaaDoor
open Go.RowKit
set_option linter.unusedVariables false

theorem ret2 {k : IntKind} {a b : Int} {x : Value} (h : a = b) : Ending.returned (.tuple #[.int k a, x]) = .returned (.tuple #[.int k b, x]) := by rw [h]
theorem add_ok (a b : Int) (w : World) (ha : -9223372036854775808 ≤ a ∧ a ≤ 9223372036854775807) (hb : -9223372036854775808 ≤ b ∧ b ≤ 9223372036854775807)
    (hn : -9223372036854775808 ≤ a + b ∧ a + b ≤ 9223372036854775807) :
    Calls Tryd.prog 32 #[.int .i64 a, .int .i64 b] w fun e w' => e = .returned (.tuple #[.int .i64 (a + b), .nilIface]) ∧ w' = w := by
  go_enter Tryd.func32, Tryd.ntmps32
  go_wp2
  all_goals first | (exfalso; omega) | (go_ret2; exact ⟨rfl, rfl⟩)
theorem add_over (a b : Int) (w : World) (ha : -9223372036854775808 ≤ a ∧ a ≤ 9223372036854775807) (hb : -9223372036854775808 ≤ b ∧ b ≤ 9223372036854775807)
    (hn : ¬ (-9223372036854775808 ≤ a + b ∧ a + b ≤ 9223372036854775807)) :
    Calls Tryd.prog 32 #[.int .i64 a, .int .i64 b] w fun e w' => e = .returned (.tuple #[.int .i64 0, .iface 53 (.int .i64 9)]) ∧ w' = w := by
  have hw : (b < 0 ∧ a < wrap64 (a + b)) ∨ (0 < b ∧ wrap64 (a + b) < a) := by unfold wrap64; omega
  rcases hw with ⟨h1, h2⟩ | ⟨h1, h2⟩
  all_goals
    go_enter Tryd.func32, Tryd.ntmps32
    go_wp2
    all_goals first | (exfalso; omega) | (go_ret2; exact ⟨rfl, rfl⟩)
theorem sub_ok (a b : Int) (w : World) (ha : -9223372036854775808 ≤ a ∧ a ≤ 9223372036854775807) (hb : -9223372036854775808 ≤ b ∧ b ≤ 9223372036854775807)
    (hn : -9223372036854775808 ≤ a - b ∧ a - b ≤ 9223372036854775807) :
    Calls Tryd.prog 33 #[.int .i64 a, .int .i64 b] w fun e w' => e = .returned (.tuple #[.int .i64 (a - b), .nilIface]) ∧ w' = w := by
  go_enter Tryd.func33, Tryd.ntmps33
  go_wp2
  all_goals first | (exfalso; omega) | (go_ret2; exact ⟨rfl, rfl⟩)
theorem sub_over (a b : Int) (w : World) (ha : -9223372036854775808 ≤ a ∧ a ≤ 9223372036854775807) (hb : -9223372036854775808 ≤ b ∧ b ≤ 9223372036854775807)
    (hn : ¬ (-9223372036854775808 ≤ a - b ∧ a - b ≤ 9223372036854775807)) :
    Calls Tryd.prog 33 #[.int .i64 a, .int .i64 b] w fun e w' => e = .returned (.tuple #[.int .i64 0, .iface 53 (.int .i64 9)]) ∧ w' = w := by
  have hw : (b < 0 ∧ wrap64 (a - b) < a) ∨ (0 < b ∧ a < wrap64 (a - b)) := by unfold wrap64; omega
  rcases hw with ⟨h1, h2⟩ | ⟨h1, h2⟩
  all_goals
    go_enter Tryd.func33, Tryd.ntmps33
    go_wp2
    all_goals first | (exfalso; omega) | (go_ret2; exact ⟨rfl, rfl⟩)
theorem div_ok (a b : Int) (w : World) (ha : -9223372036854775808 ≤ a ∧ a ≤ 9223372036854775807) (hb : -9223372036854775808 ≤ b ∧ b ≤ 9223372036854775807)
    (h0 : b ≠ 0) (hm : ¬ (a = -9223372036854775808 ∧ b = -1)) :
    Calls Tryd.prog 35 #[.int .i64 a, .int .i64 b] w fun e w' => e = .returned (.tuple #[.int .i64 (a.tdiv b), .nilIface]) ∧ w' = w := by
  have hq : wrap64 (a.tdiv b) = a.tdiv b := wrap_in _ (tdiv_bd a b ha hm)
  have e0 : (b == 0) = false := by simpa using h0
  by_cases h1 : a = -9223372036854775808
  · subst h1
    have e1 : (b == -1) = false := by simpa using hm
    have hq2 := hq
    rw [Int.neg_tdiv] at hq2
    go_enter Tryd.func35, Tryd.ntmps35
    go_wp2
    go_ret2; exact ⟨rfl, rfl⟩
  · have e1 : (a == -9223372036854775808) = false := by simpa using h1
    go_enter Tryd.func35, Tryd.ntmps35
    go_wp2
    go_ret2; exact ⟨ret2 hq, rfl⟩
theorem div_over (a b : Int) (w : World) (ha : -9223372036854775808 ≤ a ∧ a ≤ 9223372036854775807) (hb : -9223372036854775808 ≤ b ∧ b ≤ 9223372036854775807)
    (h0 : b = 0 ∨ (a = -9223372036854775808 ∧ b = -1)) :
    Calls Tryd.prog 35 #[.int .i64 a, .int .i64 b] w fun e w' => e = .returned (.tuple #[.int .i64 0, .iface 53 (.int .i64 9)]) ∧ w' = w := by
  rcases h0 with rfl | ⟨rfl, rfl⟩
  all_goals
    go_enter Tryd.func35, Tryd.ntmps35
    go_wp2
    go_ret2; exact ⟨rfl, rfl⟩
theorem mul_okC (a b : Int) (w : World) (ha : -9223372036854775808 ≤ a ∧ a ≤ 9223372036854775807) (hb : -9223372036854775808 ≤ b ∧ b ≤ 9223372036854775807)
    (hn : -9223372036854775808 ≤ a * b ∧ a * b ≤ 9223372036854775807) :
    Calls Tryd.prog 34 #[.int .i64 a, .int .i64 b] w fun e w' => e = .returned (.tuple #[.int .i64 (a * b), .nilIface]) ∧ w' = w := by
  by_cases h0 : b = 0
  · subst h0
    go_enter Tryd.func34, Tryd.ntmps34
    go_wp2
    go_ret2; exact ⟨by simp, rfl⟩
  · have e0 : (b == 0) = false := by simpa using h0
    have h1 := mul_back a b ha h0 hn
    have h2 := wrap_in _ hn
    have h3 := mul_min a b hn
    rw [h2] at h1
    by_cases hm : a = -9223372036854775808
    · subst hm
      have e1 : (b == -1) = false := by simpa using h3
      go_enter Tryd.func34, Tryd.ntmps34
      go_wp2
      go_ret2; exact ⟨rfl, rfl⟩
    · have e1 : (a == -9223372036854775808) = false := by simpa using hm
      go_enter Tryd.func34, Tryd.ntmps34
      go_wp2
      go_ret2; exact ⟨rfl, rfl⟩
theorem mul_overC (a b : Int) (w : World) (ha : -9223372036854775808 ≤ a ∧ a ≤ 9223372036854775807) (hb : -9223372036854775808 ≤ b ∧ b ≤ 9223372036854775807)
    (hn : ¬ (-9223372036854775808 ≤ a * b ∧ a * b ≤ 9223372036854775807)) :
    Calls Tryd.prog 34 #[.int .i64 a, .int .i64 b] w fun e w' => e = .returned (.tuple #[.int .i64 0, .iface 53 (.int .i64 9)]) ∧ w' = w := by
  have h0 : b ≠ 0 := by rintro rfl; omega
  have e0 : (b == 0) = false := by simpa using h0
  by_cases hm : a = -9223372036854775808 ∧ b = -1
  · obtain ⟨rfl, rfl⟩ := hm
    clear hn
    go_enter Tryd.func34, Tryd.ntmps34
    go_wp2
    all_goals first | (go_ret2; exact ⟨rfl, rfl⟩)
  · have h1 := mul_over a b ha hb h0 hn hm
    clear hn hm
    go_enter Tryd.func34, Tryd.ntmps34
    go_wp2
    all_goals first | contradiction | (go_ret2; exact ⟨rfl, rfl⟩)
theorem rem_ok (a b : Int) (w : World) (ha : -9223372036854775808 ≤ a ∧ a ≤ 9223372036854775807) (hb : -9223372036854775808 ≤ b ∧ b ≤ 9223372036854775807)
    (h0 : b ≠ 0) :
    Calls Tryd.prog 36 #[.int .i64 a, .int .i64 b] w fun e w' => e = .returned (.tuple #[.int .i64 (a.tmod b), .nilIface]) ∧ w' = w := by
  have e0 : (b == 0) = false := by simpa using h0
  go_enter Tryd.func36, Tryd.ntmps36
  go_wp2
  go_ret2; exact ⟨rfl, rfl⟩
theorem rem_over (a : Int) (w : World) (ha : -9223372036854775808 ≤ a ∧ a ≤ 9223372036854775807) :
    Calls Tryd.prog 36 #[.int .i64 a, .int .i64 0] w fun e w' => e = .returned (.tuple #[.int .i64 0, .iface 53 (.int .i64 9)]) ∧ w' = w := by
  go_enter Tryd.func36, Tryd.ntmps36
  go_wp2
  go_ret2; exact ⟨rfl, rfl⟩
theorem rk_remx (a : Int) (w : World) (ha : -9223372036854775808 ≤ a ∧ a ≤ 9223372036854775807) :
    Calls Tryd.prog 16 #[.string { data := #[37] }, .int .i64 a, .int .i64 0] w fun e w' => e = .returned (.tuple #[.int .i64 0, .iface 53 (.int .i64 9)]) ∧ w' = w := by
  go_enter Tryd.func16, Tryd.ntmps16
  go_wp2_with (first | (go_at_call 36; refine (rem_over a _ ha).mono ?_; rintro e w' ⟨rfl, rfl⟩))
  go_ret2; exact ⟨rfl, rfl⟩
theorem rk_add (a b : Int) (w : World) (ha : -9223372036854775808 ≤ a ∧ a ≤ 9223372036854775807) (hb : -9223372036854775808 ≤ b ∧ b ≤ 9223372036854775807)
    (hn : -9223372036854775808 ≤ a + b ∧ a + b ≤ 9223372036854775807) :
    Calls Tryd.prog 16 #[.string { data := #[43] }, .int .i64 a, .int .i64 b] w fun e w' => e = .returned (.tuple #[.int .i64 (a + b), .nilIface]) ∧ w' = w := by
  go_enter Tryd.func16, Tryd.ntmps16
  go_wp2_with (first | (go_at_call 32; refine (add_ok a b _ ha hb hn).mono ?_; rintro e w' ⟨rfl, rfl⟩))
  go_ret2; exact ⟨rfl, rfl⟩
theorem rk_addx (a b : Int) (w : World) (ha : -9223372036854775808 ≤ a ∧ a ≤ 9223372036854775807) (hb : -9223372036854775808 ≤ b ∧ b ≤ 9223372036854775807)
    (hn : ¬ (-9223372036854775808 ≤ a + b ∧ a + b ≤ 9223372036854775807)) :
    Calls Tryd.prog 16 #[.string { data := #[43] }, .int .i64 a, .int .i64 b] w fun e w' => e = .returned (.tuple #[.int .i64 0, .iface 53 (.int .i64 9)]) ∧ w' = w := by
  go_enter Tryd.func16, Tryd.ntmps16
  go_wp2_with (first | (go_at_call 32; refine (add_over a b _ ha hb hn).mono ?_; rintro e w' ⟨rfl, rfl⟩))
  go_ret2; exact ⟨rfl, rfl⟩
theorem rk_sub (a b : Int) (w : World) (ha : -9223372036854775808 ≤ a ∧ a ≤ 9223372036854775807) (hb : -9223372036854775808 ≤ b ∧ b ≤ 9223372036854775807)
    (hn : -9223372036854775808 ≤ a - b ∧ a - b ≤ 9223372036854775807) :
    Calls Tryd.prog 16 #[.string { data := #[45] }, .int .i64 a, .int .i64 b] w fun e w' => e = .returned (.tuple #[.int .i64 (a - b), .nilIface]) ∧ w' = w := by
  go_enter Tryd.func16, Tryd.ntmps16
  go_wp2_with (first | (go_at_call 33; refine (sub_ok a b _ ha hb hn).mono ?_; rintro e w' ⟨rfl, rfl⟩))
  go_ret2; exact ⟨rfl, rfl⟩
theorem rk_mul (a b : Int) (w : World) (ha : -9223372036854775808 ≤ a ∧ a ≤ 9223372036854775807) (hb : -9223372036854775808 ≤ b ∧ b ≤ 9223372036854775807)
    (hn : -9223372036854775808 ≤ a * b ∧ a * b ≤ 9223372036854775807) :
    Calls Tryd.prog 16 #[.string { data := #[42] }, .int .i64 a, .int .i64 b] w fun e w' => e = .returned (.tuple #[.int .i64 (a * b), .nilIface]) ∧ w' = w := by
  go_enter Tryd.func16, Tryd.ntmps16
  go_wp2_with (first | (go_at_call 34; refine (mul_okC a b _ ha hb hn).mono ?_; rintro e w' ⟨rfl, rfl⟩))
  go_ret2; exact ⟨rfl, rfl⟩
theorem rk_mulx (a b : Int) (w : World) (ha : -9223372036854775808 ≤ a ∧ a ≤ 9223372036854775807) (hb : -9223372036854775808 ≤ b ∧ b ≤ 9223372036854775807)
    (hn : ¬ (-9223372036854775808 ≤ a * b ∧ a * b ≤ 9223372036854775807)) :
    Calls Tryd.prog 16 #[.string { data := #[42] }, .int .i64 a, .int .i64 b] w fun e w' => e = .returned (.tuple #[.int .i64 0, .iface 53 (.int .i64 9)]) ∧ w' = w := by
  go_enter Tryd.func16, Tryd.ntmps16
  go_wp2_with (first | (go_at_call 34; refine (mul_overC a b _ ha hb hn).mono ?_; rintro e w' ⟨rfl, rfl⟩))
  go_ret2; exact ⟨rfl, rfl⟩
theorem rk_div (a b : Int) (w : World) (ha : -9223372036854775808 ≤ a ∧ a ≤ 9223372036854775807) (hb : -9223372036854775808 ≤ b ∧ b ≤ 9223372036854775807)
    (h0 : b ≠ 0) (hm : ¬ (a = -9223372036854775808 ∧ b = -1)) :
    Calls Tryd.prog 16 #[.string { data := #[47] }, .int .i64 a, .int .i64 b] w fun e w' => e = .returned (.tuple #[.int .i64 (a.tdiv b), .nilIface]) ∧ w' = w := by
  go_enter Tryd.func16, Tryd.ntmps16
  go_wp2_with (first | (go_at_call 35; refine (div_ok a b _ ha hb h0 hm).mono ?_; rintro e w' ⟨rfl, rfl⟩))
  go_ret2; exact ⟨rfl, rfl⟩
theorem rk_divx (a b : Int) (w : World) (ha : -9223372036854775808 ≤ a ∧ a ≤ 9223372036854775807) (hb : -9223372036854775808 ≤ b ∧ b ≤ 9223372036854775807)
    (h0 : b = 0 ∨ (a = -9223372036854775808 ∧ b = -1)) :
    Calls Tryd.prog 16 #[.string { data := #[47] }, .int .i64 a, .int .i64 b] w fun e w' => e = .returned (.tuple #[.int .i64 0, .iface 53 (.int .i64 9)]) ∧ w' = w := by
  go_enter Tryd.func16, Tryd.ntmps16
  go_wp2_with (first | (go_at_call 35; refine (div_over a b _ ha hb h0).mono ?_; rintro e w' ⟨rfl, rfl⟩))
  go_ret2; exact ⟨rfl, rfl⟩
theorem rk_rem (a b : Int) (w : World) (ha : -9223372036854775808 ≤ a ∧ a ≤ 9223372036854775807) (hb : -9223372036854775808 ≤ b ∧ b ≤ 9223372036854775807)
    (h0 : b ≠ 0) :
    Calls Tryd.prog 16 #[.string { data := #[37] }, .int .i64 a, .int .i64 b] w fun e w' => e = .returned (.tuple #[.int .i64 (a.tmod b), .nilIface]) ∧ w' = w := by
  go_enter Tryd.func16, Tryd.ntmps16
  go_wp2_with (first | (go_at_call 36; refine (rem_ok a b _ ha hb h0).mono ?_; rintro e w' ⟨rfl, rfl⟩))
  go_ret2; exact ⟨rfl, rfl⟩
theorem rk_subx (a b : Int) (w : World) (ha : -9223372036854775808 ≤ a ∧ a ≤ 9223372036854775807) (hb : -9223372036854775808 ≤ b ∧ b ≤ 9223372036854775807)
    (hn : ¬ (-9223372036854775808 ≤ a - b ∧ a - b ≤ 9223372036854775807)) :
    Calls Tryd.prog 16 #[.string { data := #[45] }, .int .i64 a, .int .i64 b] w fun e w' => e = .returned (.tuple #[.int .i64 0, .iface 53 (.int .i64 9)]) ∧ w' = w := by
  go_enter Tryd.func16, Tryd.ntmps16
  go_wp2_with (first | (go_at_call 33; refine (sub_over a b _ ha hb hn).mono ?_; rintro e w' ⟨rfl, rfl⟩))
  go_ret2; exact ⟨rfl, rfl⟩
theorem rk_other (op : ByteArray) (a b : Int) (w : World)
    (h1 : op.data.toList ≠ [43]) (h2 : op.data.toList ≠ [45]) (h3 : op.data.toList ≠ [42]) (h4 : op.data.toList ≠ [47]) (h5 : op.data.toList ≠ [37]) :
    Calls Tryd.prog 16 #[.string op, .int .i64 a, .int .i64 b] w fun e w' => e = .returned (.tuple #[.int .i64 0, .iface 53 (.int .i64 1)]) ∧ w' = w := by
  have q1 : (op.toList == [43]) = false := by rw [Lib.toList_data]; simpa using h1
  have q2 : (op.toList == [45]) = false := by rw [Lib.toList_data]; simpa using h2
  have q3 : (op.toList == [42]) = false := by rw [Lib.toList_data]; simpa using h3
  have q4 : (op.toList == [47]) = false := by rw [Lib.toList_data]; simpa using h4
  have q5 : (op.toList == [37]) = false := by rw [Lib.toList_data]; simpa using h5
  clear h1 h2 h3 h4 h5
  go_enter Tryd.func16, Tryd.ntmps16
  go_wp2
  go_ret2; exact ⟨rfl, rfl⟩
/-- Either way: a number within bounds, and an error or none. -/
theorem rk_addany (a b : Int) (w : World) (ha : -9223372036854775808 ≤ a ∧ a ≤ 9223372036854775807) (hb : -9223372036854775808 ≤ b ∧ b ≤ 9223372036854775807) :
    Calls Tryd.prog 16 #[.string { data := #[43] }, .int .i64 a, .int .i64 b] w fun e w' => ∃ (n : Int) (x : Value), e = .returned (.tuple #[.int .i64 n, x]) ∧ w' = w ∧ -9223372036854775808 ≤ n ∧ n ≤ 9223372036854775807 := by
  by_cases hn : -9223372036854775808 ≤ a + b ∧ a + b ≤ 9223372036854775807
  · exact (rk_add a b w ha hb hn).mono fun e w' h => ⟨_, _, h.1, h.2, hn.1, hn.2⟩
  · exact (rk_addx a b w ha hb hn).mono fun e w' h => ⟨_, _, h.1, h.2, by omega, by omega⟩
theorem rk_mulany (a b : Int) (w : World) (ha : -9223372036854775808 ≤ a ∧ a ≤ 9223372036854775807) (hb : -9223372036854775808 ≤ b ∧ b ≤ 9223372036854775807) :
    Calls Tryd.prog 16 #[.string { data := #[42] }, .int .i64 a, .int .i64 b] w fun e w' => ∃ (n : Int) (x : Value), e = .returned (.tuple #[.int .i64 n, x]) ∧ w' = w ∧ -9223372036854775808 ≤ n ∧ n ≤ 9223372036854775807 := by
  by_cases hn : -9223372036854775808 ≤ a * b ∧ a * b ≤ 9223372036854775807
  · exact (rk_mul a b w ha hb hn).mono fun e w' h => ⟨_, _, h.1, h.2, hn.1, hn.2⟩
  · exact (rk_mulx a b w ha hb hn).mono fun e w' h => ⟨_, _, h.1, h.2, by omega, by omega⟩
end Go.Proofs.YtfonalmgdjboeaaDoor
namespace Go.Proofs.YtfonalmgdjboeaaDoor
open Go.RowKit

/-- Is an error nil? -/
structure IsErr (er : Value) (b : Bool) : Prop where
  eql : ∀ W : World, Sem.run Tryd.prog (binOp .eql 34 er .nilIface) W = .ok (.bool b) W
  neq : ∀ W : World, Sem.run Tryd.prog (binOp .neq 34 er .nilIface) W = .ok (.bool !b) W
  geql : ∀ (W : World) (k : Nat), Sem.run Tryd.prog (eqGuard .eql 34 (.tmp k) (.const .nilIface) er .nilIface) W = .ok () W
  gneq : ∀ (W : World) (k : Nat), Sem.run Tryd.prog (eqGuard .neq 34 (.tmp k) (.const .nilIface) er .nilIface) W = .ok () W
theorem isErr_nil : IsErr .nilIface true := ⟨fun W => by kernel_rfl, fun W => by kernel_rfl, fun W k => by kernel_rfl, fun W k => by kernel_rfl⟩
theorem isErr_some (t : TypeId) (v : Value) : IsErr (.iface t v) false := ⟨fun W => by kernel_rfl, fun W => by kernel_rfl, fun W k => by kernel_rfl, fun W k => by kernel_rfl⟩
theorem isErr_errV (k : Int) : IsErr (errV k) (decide (k = 0)) := by
  rw [errV]
  by_cases h : k = 0
  · rw [if_pos h, decide_eq_true h]; exact isErr_nil
  · rw [if_neg h, decide_eq_false h]; exact isErr_some _ _
end Go.Proofs.YtfonalmgdjboeaaDoor
