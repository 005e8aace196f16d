/-
  Clone, ValFr, EvFn, in one text.
-/
import Derived.Test.YticdcnbeemkapaaGreatDoorQShelf
import Derived.WalkKit
import Derived.Below
import Derived.Test.YticdcnbeemkapaaGreatDoorGrAk
import Derived.Test.YticdcnbeemkapaaGreatDoorGrAl
import Derived.Test.YticdcnbeemkapaaGreatDoorQTreeCk
namespace Go.Proofs.YticdcnbeemkapaaGreatDoor
open Go.RowKit

theorem clone_any (s : ByteArray) (w : World) (hs : s.size ≤ 281474976710656) :
    Calls Tryz.prog 40 #[.string s] w fun e w' => e = .returned (.string s) ∧ Below w.heap.size w w' := by
  go_enter Tryz.func40, Tryz.ntmps40
  go_wp2_with fail
  refine (Tryz.stringslite_Clone s _ hs).mono ?_
  rintro e w1 ⟨rfl, b1⟩
  go_wp2
  go_ret
  exact ⟨rfl, b1⟩
end Go.Proofs.YticdcnbeemkapaaGreatDoor
namespace Go.Proofs.YticdcnbeemkapaaGreatDoor
open Go.RowKit
set_option linter.unusedVariables false

theorem valFresh_any (t n : Int) (s : ByteArray) (w : World) (hs : s.size ≤ 281474976710656) : Calls Tryz.prog 20 #[.agg #[.int .i64 t, .int .i64 n, .string s]] w fun e w' => e = .returned (.agg #[.int .i64 t, .int .i64 n, .string s]) ∧ Below w.heap.size w w' := by
  have c := fun W => clone_any s W hs
  have b1 : Below w.heap.size w ((w.alloc (.cells #[.int .i64 t, .int .i64 n, .string s] 23)).alloc (.cells #[.int .i64 0, .int .i64 0, .string ⟨#[]⟩] 23)) := ((Below.refl _ w).alloc (Nat.le_refl _) _).alloc (by simp) _
  go_enter Tryz.func20, Tryz.ntmps20
  go_wp2_with fail
  refine (c _).mono ?_
  rintro e w1 ⟨rfl, b2⟩
  obtain ⟨k1, k2, hl1⟩ := box_at _ _ _ b2 (by simp)
  obtain ⟨j1, j2, hl0⟩ := box_at w _ _ (((Below.refl _ (w.alloc (.cells #[.int .i64 t, .int .i64 n, .string s] 23))).alloc (Nat.le_refl _) _).trans (b2.mono (by simp))) (by simp)
  simp at k1 k2 hl1 j1 j2
  have f0 : w1.cell? ⟨w.heap.size + 1, 0, none⟩ = some (.int .i64 0) := k1 0
  have f1 : w1.cell? ⟨w.heap.size + 1, 1, none⟩ = some (.int .i64 0) := k1 1
  have f2 : w1.cell? ⟨w.heap.size + 1, 2, none⟩ = some (.string ⟨#[]⟩) := k1 2
  have g0 : w1.cell? ⟨w.heap.size, 0, none⟩ = some (.int .i64 t) := j1 0
  have g1 : w1.cell? ⟨w.heap.size, 1, none⟩ = some (.int .i64 n) := j1 1
  have g2 : w1.cell? ⟨w.heap.size, 2, none⟩ = some (.string s) := j1 2
  have b4 : Below w.heap.size w w1 := b1.trans (b2.mono b1.size)
  clear c b1 b2 k1 j1
  go_wp2
  refine bodyPost_ret (v := .agg #[.int .i64 t, .int .i64 n, .string s]) (by simp [results, Tryz.results20, go_sem, World.cell?_setCell_other, World.cell?_setCell_same, f0, f1, f2]) rfl ⟨rfl, ?_⟩
  exact (((b4.setCell (p := ⟨w.heap.size, 2, none⟩) (Nat.le_refl _) _).setCell (p := ⟨w.heap.size + 1, 0, none⟩) (by simp) _).setCell (p := ⟨w.heap.size + 1, 1, none⟩) (by simp) _).setCell (p := ⟨w.heap.size + 1, 2, none⟩) (by simp) _
end Go.Proofs.YticdcnbeemkapaaGreatDoor
namespace Go.Proofs.YticdcnbeemkapaaGreatDoor
open Go.RowKit
set_option linter.unusedVariables false

def valV (v : V3) : Value := .agg #[.int .i64 v.1, .int .i64 v.2.1, .string v.2.2]
theorem truth_any (b : Bool) (w : World) : Calls Tryz.prog 100 #[.bool b] w fun e w' => e = .returned (.agg #[.int .i64 2, .int .i64 (if b = true then 1 else 0), .string ⟨#[]⟩]) ∧ Below w.heap.size w w' := by
  cases b
  · go_enter Tryz.func100, Tryz.ntmps100
    go_wp2
    exact bodyPost_ret (v := .agg #[.int .i64 2, .int .i64 0, .string ⟨#[]⟩]) (by simp [results, Tryz.results100, go_sem]) rfl ⟨rfl, ((Below.refl _ w).alloc (Nat.le_refl _) _).alloc (by simp) _⟩
  · go_enter Tryz.func100, Tryz.ntmps100
    go_wp2
    exact bodyPost_ret (v := .agg #[.int .i64 2, .int .i64 1, .string ⟨#[]⟩]) (by simp [results, Tryz.results100, go_sem]) rfl ⟨rfl, ((Below.refl _ w).alloc (Nat.le_refl _) _).alloc (by simp) _⟩
theorem isTrue_any (t n : Int) (s : ByteArray) (w : World) : Calls Tryz.prog 37 #[.agg #[.int .i64 t, .int .i64 n, .string s]] w fun e w' => e = .returned (.bool (n == 1)) ∧ Below w.heap.size w w' := by
  go_enter Tryz.func37, Tryz.ntmps37
  go_wp2
  go_ret
  exact ⟨rfl, (Below.refl _ w).alloc (Nat.le_refl _) _⟩
theorem chosen_any (t n : Int) (s : ByteArray) (w : World) : Calls Tryz.prog 38 #[.agg #[.int .i64 t, .int .i64 n, .string s]] w fun e w' => e = .returned (.int .i64 (if (n == 1) = true then 1 else 2)) ∧ Below w.heap.size w w' := by
  obtain ⟨B, hB⟩ : ∃ B, (n == 1) = B := ⟨_, rfl⟩
  have c := isTrue_any t n s (w.alloc (.cells #[.int .i64 t, .int .i64 n, .string s] 23))
  rw [hB] at c ⊢
  have b1 : Below w.heap.size w (w.alloc (.cells #[.int .i64 t, .int .i64 n, .string s] 23)) := (Below.refl _ w).alloc (Nat.le_refl _) _
  clear hB
  cases B
  · go_enter Tryz.func38, Tryz.ntmps38
    go_wp2_with fail
    refine c.mono ?_
    rintro e w1 ⟨rfl, b2⟩
    go_wp2
    go_ret
    exact ⟨rfl, b1.trans (b2.mono b1.size)⟩
  · go_enter Tryz.func38, Tryz.ntmps38
    go_wp2_with fail
    refine c.mono ?_
    rintro e w1 ⟨rfl, b2⟩
    go_wp2
    go_ret
    exact ⟨rfl, b1.trans (b2.mono b1.size)⟩
theorem holds_any (op : ByteArray) (o : Int) (w : World) : Calls Tryz.prog 118 #[.string op, .int .i64 o] w fun e w' => e = .returned (.bool (holdsP op.data.toList o)) ∧ w' = w := by
  have hd : ∀ l : List UInt8, (op.toList == l) = decide (op.data.toList = l) := fun l => by rw [Lib.toList_data, Bool.eq_iff_iff]; simp
  unfold holdsP
  by_cases h1 : op.data.toList = [61]
  · have q1 : (op.toList == [61]) = true := by rw [hd]; simpa using h1
    rw [if_pos h1]
    clear h1 hd
    go_enter Tryz.func118, Tryz.ntmps118
    go_wp2
    go_ret
    exact ⟨rfl, rfl⟩
  · have q1 : (op.toList == [61]) = false := by rw [hd]; simpa using h1
    rw [if_neg h1]
    by_cases h2 : op.data.toList = [60, 62]
    · have q2 : (op.toList == [60, 62]) = true := by rw [hd]; simpa using h2
      rw [if_pos h2]
      clear h1 h2 hd
      go_enter Tryz.func118, Tryz.ntmps118
      go_wp2
      go_ret
      exact ⟨rfl, rfl⟩
    · have q2 : (op.toList == [60, 62]) = false := by rw [hd]; simpa using h2
      rw [if_neg h2]
      by_cases h3 : op.data.toList = [60]
      · have q3 : (op.toList == [60]) = true := by rw [hd]; simpa using h3
        rw [if_pos h3]
        clear h1 h2 h3 hd
        go_enter Tryz.func118, Tryz.ntmps118
        go_wp2
        go_ret
        exact ⟨rfl, rfl⟩
      · have q3 : (op.toList == [60]) = false := by rw [hd]; simpa using h3
        rw [if_neg h3]
        by_cases h4 : op.data.toList = [60, 61]
        · have q4 : (op.toList == [60, 61]) = true := by rw [hd]; simpa using h4
          rw [if_pos h4]
          clear h1 h2 h3 h4 hd
          go_enter Tryz.func118, Tryz.ntmps118
          go_wp2
          go_ret
          exact ⟨rfl, rfl⟩
        · have q4 : (op.toList == [60, 61]) = false := by rw [hd]; simpa using h4
          rw [if_neg h4]
          by_cases h5 : op.data.toList = [62]
          · have q5 : (op.toList == [62]) = true := by rw [hd]; simpa using h5
            rw [if_pos h5]
            clear h1 h2 h3 h4 h5 hd
            go_enter Tryz.func118, Tryz.ntmps118
            go_wp2
            go_ret
            exact ⟨rfl, rfl⟩
          · have q5 : (op.toList == [62]) = false := by rw [hd]; simpa using h5
            rw [if_neg h5]
            clear h1 h2 h3 h4 h5 hd
            go_enter Tryz.func118, Tryz.ntmps118
            go_wp2
            go_ret
            exact ⟨rfl, rfl⟩
/-- Reckon at any numbers, of one of the five operations. -/
theorem reckon_val (op : ByteArray) (a b : Int) (w : World) (ha : inB a) (hb : inB b) (ho : ops5.contains op.data.toList = true) (n e : Int) (hr : rkP op.data.toList a b = (n, e)) :
    Calls Tryz.prog 116 #[.string op, .int .i64 a, .int .i64 b] w fun e' w' => e' = .returned (.tuple #[.int .i64 n, errV e]) ∧ w' = w := by
  have hm : op = ⟨#[43]⟩ ∨ op = ⟨#[45]⟩ ∨ op = ⟨#[42]⟩ ∨ op = ⟨#[47]⟩ ∨ op = ⟨#[37]⟩ := by
    obtain ⟨⟨l⟩⟩ := op
    simp [ops5] at ho
    rcases ho with rfl | rfl | rfl | rfl | rfl <;> simp
  rcases hm with rfl | rfl | rfl | rfl | rfl
  · replace hr : overP (a + b) = (n, e) := hr
    unfold overP at hr
    split at hr
    · rename_i h
      obtain ⟨rfl, rfl⟩ := Prod.mk.inj hr
      exact rk_add a b w ha hb h
    · rename_i h
      obtain ⟨rfl, rfl⟩ := Prod.mk.inj hr
      exact rk_addx a b w ha hb h
  · replace hr : overP (a - b) = (n, e) := hr
    unfold overP at hr
    split at hr
    · rename_i h
      obtain ⟨rfl, rfl⟩ := Prod.mk.inj hr
      exact rk_sub a b w ha hb h
    · rename_i h
      obtain ⟨rfl, rfl⟩ := Prod.mk.inj hr
      exact rk_subx a b w ha hb h
  · replace hr : overP (a * b) = (n, e) := hr
    unfold overP at hr
    split at hr
    · rename_i h
      obtain ⟨rfl, rfl⟩ := Prod.mk.inj hr
      exact rk_mul a b w ha hb h
    · rename_i h
      obtain ⟨rfl, rfl⟩ := Prod.mk.inj hr
      exact rk_mulx a b w ha hb h
  · replace hr : (if b = 0 ∨ (a = -9223372036854775808 ∧ b = -1) then ((0 : Int), (9 : Int)) else (a.tdiv b, 0)) = (n, e) := hr
    split at hr
    · rename_i h
      obtain ⟨rfl, rfl⟩ := Prod.mk.inj hr
      exact rk_divx a b w ha hb h
    · rename_i h
      obtain ⟨rfl, rfl⟩ := Prod.mk.inj hr
      exact rk_div a b w ha hb (fun hh => h (.inl hh)) (fun hh => h (.inr hh))
  · replace hr : (if b = 0 then ((0 : Int), (9 : Int)) else (a.tmod b, 0)) = (n, e) := hr
    split at hr
    · rename_i h
      obtain ⟨rfl, rfl⟩ := Prod.mk.inj hr
      subst h
      exact rk_remx a w ha
    · rename_i h
      obtain ⟨rfl, rfl⟩ := Prod.mk.inj hr
      exact rk_rem a b w ha hb h
theorem reckon_any (op : ByteArray) (a b : Int) (w : World) (ha : inB a) (hb : inB b) (ho : ops5.contains op.data.toList = true) (t n : Int) (s : ByteArray) (e : Int) (hr : rkV op.data.toList a b = ((t, n, s), e)) :
    Calls Tryz.prog 101 #[.string op, .int .i64 a, .int .i64 b] w fun e' w' => e' = .returned (.tuple #[.agg #[.int .i64 t, .int .i64 n, .string s], errV e]) ∧ Below w.heap.size w w' := by
  obtain ⟨k, j, hk⟩ : ∃ k j, rkP op.data.toList a b = (k, j) := ⟨_, _, rfl⟩
  have c := fun W => reckon_val op a b W ha hb ho k j hk
  have b1 : Below w.heap.size w (w.alloc (.cells #[.int .i64 0, .int .i64 0, .string ⟨#[]⟩] 23)) := (Below.refl _ w).alloc (Nat.le_refl _) _
  unfold rkV at hr
  rw [hk] at hr
  simp only at hr
  clear hk ho
  by_cases hj : j = 0
  · rw [if_neg (fun hh => hh hj)] at hr
    subst hj
    simp only [Prod.mk.injEq] at hr
    obtain ⟨⟨rfl, rfl, rfl⟩, rfl⟩ := hr
    rw [show errV 0 = .nilIface from rfl] at c ⊢
    go_enter Tryz.func101, Tryz.ntmps101
    go_wp2_with fail
    refine (c _).mono ?_
    rintro e w1 ⟨rfl, rfl⟩
    go_wp2
    exact bodyPost_ret (v := .tuple #[.agg #[.int .i64 1, .int .i64 k, .string ⟨#[]⟩], .nilIface]) (by simp [results, Tryz.results101, go_sem]) rfl ⟨rfl, (Below.refl _ w).alloc (Nat.le_refl _) _⟩
  · rw [if_pos hj] at hr
    simp only [Prod.mk.injEq, noV] at hr
    obtain ⟨⟨rfl, rfl, rfl⟩, rfl⟩ := hr
    have c2 : ∀ W, Calls Tryz.prog 116 #[.string op, .int .i64 a, .int .i64 b] W fun e' w' => e' = .returned (.tuple #[.int .i64 k, .iface 42 (.int .i64 j)]) ∧ w' = W := fun W => (c W).mono fun e w' h => by rw [errV, if_neg hj] at h; exact h
    rw [errV, if_neg hj]
    clear c hj
    go_enter Tryz.func101, Tryz.ntmps101
    go_wp2_with fail
    refine (c2 _).mono ?_
    rintro e w1 ⟨rfl, rfl⟩
    go_wp2
    exact bodyPost_ret (v := .tuple #[.agg #[.int .i64 0, .int .i64 0, .string ⟨#[]⟩], .iface 42 (.int .i64 j)]) (by simp [results, Tryz.results101, go_sem]) rfl ⟨rfl, (Below.refl _ w).alloc (Nat.le_refl _) _⟩
theorem compareE_any (op : ByteArray) (a b : V3) (w : World) (hs : a.2.2.size ≤ maxLen) (hs2 : b.2.2.size ≤ maxLen) (t n : Int) (s : ByteArray) (e : Int) (hr : cmpV op.data.toList a b = ((t, n, s), e)) :
    Calls Tryz.prog 102 #[.string op, .agg #[.int .i64 a.1, .int .i64 a.2.1, .string a.2.2], .agg #[.int .i64 b.1, .int .i64 b.2.1, .string b.2.2]] w fun e' w' => e' = .returned (.tuple #[.agg #[.int .i64 t, .int .i64 n, .string s], errV e]) ∧ Below w.heap.size w w' := by
  obtain ⟨ta, na, sa⟩ := a
  obtain ⟨tb, nb, sb⟩ := b
  simp only at hs hs2 hr ⊢
  have c := fun W => compare_any ta na sa tb nb sb W hs hs2
  unfold cmpV at hr
  simp only at hr
  obtain ⟨j, hj⟩ : ∃ j, cmpE ta na sa.data.toList tb nb sb.data.toList = j := ⟨_, rfl⟩
  obtain ⟨o, ho⟩ : ∃ o, cmpN ta na sa.data.toList tb nb sb.data.toList = o := ⟨_, rfl⟩
  rw [hj, ho] at c
  rw [hj, ho] at hr
  clear hj ho
  have b1 : Below w.heap.size w (((w.alloc (.cells #[.int .i64 ta, .int .i64 na, .string sa] 23)).alloc (.cells #[.int .i64 tb, .int .i64 nb, .string sb] 23)).alloc (.cells #[.int .i64 0, .int .i64 0, .string ⟨#[]⟩] 23)) := (((Below.refl _ w).alloc (Nat.le_refl _) _).alloc (by simp) _).alloc (by simp; omega) _
  have keep : ∀ W, Below (((w.alloc (.cells #[.int .i64 ta, .int .i64 na, .string sa] 23)).alloc (.cells #[.int .i64 tb, .int .i64 nb, .string sb] 23)).alloc (.cells #[.int .i64 0, .int .i64 0, .string ⟨#[]⟩] 23)).heap.size (((w.alloc (.cells #[.int .i64 ta, .int .i64 na, .string sa] 23)).alloc (.cells #[.int .i64 tb, .int .i64 nb, .string sb] 23)).alloc (.cells #[.int .i64 0, .int .i64 0, .string ⟨#[]⟩] 23)) W → (W.cell? ⟨w.heap.size + 2, 0, none⟩ = some (.int .i64 0) ∧ W.cell? ⟨w.heap.size + 2, 1, none⟩ = some (.int .i64 0) ∧ W.cell? ⟨w.heap.size + 2, 2, none⟩ = some (.string ⟨#[]⟩) ∧ ∀ o, W.frozen? ⟨w.heap.size + 2, o, none⟩ = false) ∧ w.heap.size + 2 < W.heap.size := fun W hb => by
    obtain ⟨h1, h2, h3⟩ := box_at _ _ _ hb (by simp)
    simp at h1 h2 h3
    exact ⟨⟨h1 0, h1 1, h1 2, h2⟩, h3⟩
  by_cases hj : j = 0
  · rw [if_neg (fun hh => hh hj)] at hr
    subst hj
    simp only [Prod.mk.injEq, truP] at hr
    obtain ⟨⟨rfl, hn, rfl⟩, rfl⟩ := hr
    rw [show errV 0 = .nilIface from rfl] at c ⊢
    have cH := holds_any op o
    have cT := truth_any (holdsP op.data.toList o)
    rw [hn] at cT
    clear hn
    generalize holdsP op.data.toList o = B at cH cT
    go_enter Tryz.func102, Tryz.ntmps102
    go_wp2_with fail
    refine (c _).mono ?_
    rintro e w1 ⟨rfl, b2⟩
    go_wp2_with fail
    refine (cH _).mono ?_
    rintro e w2 ⟨rfl, rfl⟩
    go_wp2_with fail
    refine (cT _).mono ?_
    rintro e w3 ⟨rfl, b3⟩
    obtain ⟨⟨f0, f1, f2, ff⟩, hl⟩ := keep w3 (b2.trans (b3.mono b2.size))
    have b4 : Below w.heap.size w w3 := (b1.trans (b2.mono b1.size)).trans (b3.mono (b1.trans (b2.mono b1.size)).size)
    clear c cH cT b1 b2 b3 keep
    go_wp2
    refine bodyPost_ret (v := .tuple #[.agg #[.int .i64 2, .int .i64 n, .string ⟨#[]⟩], .nilIface]) (by simp [results, Tryz.results102, go_sem, World.cell?_setCell_other, World.cell?_setCell_same, f0, f1, f2]) rfl ⟨rfl, ?_⟩
    exact ((b4.setCell (p := ⟨w.heap.size + 1 + 1, 0, none⟩) (by simp; omega) _).setCell (p := ⟨w.heap.size + 1 + 1, 1, none⟩) (by simp; omega) _).setCell (p := ⟨w.heap.size + 1 + 1, 2, none⟩) (by simp; omega) _
  · rw [if_pos hj] at hr
    simp only [Prod.mk.injEq, noV] at hr
    obtain ⟨⟨rfl, rfl, rfl⟩, rfl⟩ := hr
    have c2 : ∀ W, Calls Tryz.prog 117 #[.agg #[.int .i64 ta, .int .i64 na, .string sa], .agg #[.int .i64 tb, .int .i64 nb, .string sb]] W fun e' w' => e' = .returned (.tuple #[.int .i64 o, .iface 42 (.int .i64 j)]) ∧ Below W.heap.size W w' := fun W => (c W).mono fun e w' h => by rw [errV, if_neg hj] at h; exact h
    rw [errV, if_neg hj]
    clear c hj
    go_enter Tryz.func102, Tryz.ntmps102
    go_wp2_with fail
    refine (c2 _).mono ?_
    rintro e w3 ⟨rfl, b2⟩
    obtain ⟨⟨f0, f1, f2, ff⟩, hl⟩ := keep w3 b2
    have b4 : Below w.heap.size w w3 := b1.trans (b2.mono b1.size)
    clear c2 b1 b2 keep
    go_wp2
    refine bodyPost_ret (v := .tuple #[.agg #[.int .i64 0, .int .i64 0, .string ⟨#[]⟩], .iface 42 (.int .i64 j)]) (by simp [results, Tryz.results102, go_sem, World.cell?_setCell_other, World.cell?_setCell_same, f0, f1, f2]) rfl ⟨rfl, ?_⟩
    exact ((b4.setCell (p := ⟨w.heap.size + 1 + 1, 0, none⟩) (by simp; omega) _).setCell (p := ⟨w.heap.size + 1 + 1, 1, none⟩) (by simp; omega) _).setCell (p := ⟨w.heap.size + 1 + 1, 2, none⟩) (by simp; omega) _
theorem fresh_any (t n : Int) (s : ByteArray) (w : World) (hs : s.size ≤ 40) : Calls Tryz.prog 20 #[.agg #[.int .i64 t, .int .i64 n, .string s]] w fun e w' => e = .returned (.agg #[.int .i64 t, .int .i64 n, .string s]) ∧ Below w.heap.size w w' :=
  valFresh_any t n s w (by omega)
end Go.Proofs.YticdcnbeemkapaaGreatDoor
