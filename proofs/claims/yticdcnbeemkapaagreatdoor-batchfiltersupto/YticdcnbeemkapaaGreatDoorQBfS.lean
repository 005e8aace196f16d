/-
  sluicelaw4.BatchFilters: the law's query is laid, which draws its order.
-/
import Derived.Test.YticdcnbeemkapaaGreatDoorQBfO
namespace Go.Proofs.YticdcnbeemkapaaGreatDoor
open Go.RowKit Go.BigFrame
set_option linter.unusedVariables false
set_option linter.unusedSimpArgs false

theorem putA_all : ∀ (l : List Value) (cs : Array Value) (o : Nat), cs.size = o + l.length → (putA cs o l).toList = cs.toList.take o ++ l
  | [], cs, o, h => by
    rw [putA, List.append_nil, List.take_of_length_le (by rw [Array.length_toList]; simp at h; omega)]
  | v :: vs, cs, o, h => by
    rw [putA, putA_all vs _ _ (by simp at h ⊢; omega)]
    have ho : o < cs.toList.length := by rw [Array.length_toList]; simp at h; omega
    rw [Array.toList_setIfInBounds, List.take_succ_eq_append_getElem (by simpa using ho), List.take_set_of_le (Nat.le_refl _)]
    simp
theorem putA_whole {l : List Value} {cs : Array Value} (h : cs.size = l.length) : putA cs 0 l = l.toArray := by
  have := putA_all l cs 0 (by omega)
  rw [List.take_zero, List.nil_append] at this
  exact Array.ext' (by simpa using this)
/-- The law's query, its parts where they were made. -/
abbrev qC (x : Ex) (xp : Option Addr) (xc g1 g2 : Nat) : Array Value := qyC (qyF x) xp xc (some ⟨g1, 0, none⟩) 1 (some ⟨g2, 0, none⟩) 1 none 0 none 0
def IsF (x : Ex) (xp : Option Addr) (xc : Nat) (w : World) (cs : Array Value) : Prop := ∃ g1 g2, cs = qC x xp xc g1 g2 ∧ Blk w g1 (xC oneX none 0) 26 ∧ Blk w g2 #[.string ⟨#[121]⟩] 9
/-- All below n stays, and what is no query; a query is written once. -/
structure LeQ (n : Nat) (x : Ex) (xp : Option Addr) (xc : Nat) (w1 w2 : World) : Prop where
  low : Below n w1 w2
  keep : ∀ b cs t, t ≠ 39 → Blk w1 b cs t → Blk w2 b cs t
  qry : ∀ b cs, Blk w1 b cs 39 → cs.size = 14 → ∃ cs', Blk w2 b cs' 39 ∧ cs'.size = 14 ∧ (IsF x xp xc w1 cs → IsF x xp xc w2 cs')
variable {n : Nat} {x : Ex} {xp : Option Addr} {xc : Nat}
theorem isF_keep {w1 w2 : World} {cs : Array Value} (hk : ∀ b cs t, t ≠ 39 → Blk w1 b cs t → Blk w2 b cs t) (h : IsF x xp xc w1 cs) : IsF x xp xc w2 cs := by
  obtain ⟨g1, g2, e, h1, h2⟩ := h
  exact ⟨g1, g2, e, hk _ _ _ (by decide) h1, hk _ _ _ (by decide) h2⟩
theorem LeQ.refl (w : World) : LeQ n x xp xc w w := ⟨Below.refl _ _, fun _ _ _ _ h => h, fun b cs h hs => ⟨cs, h, hs, id⟩⟩
theorem LeQ.trans {a b c : World} (h1 : LeQ n x xp xc a b) (h2 : LeQ n x xp xc b c) : LeQ n x xp xc a c :=
  ⟨h1.low.trans h2.low, fun g cs t ht h => h2.keep _ _ _ ht (h1.keep _ _ _ ht h), fun g cs h hs => by
    obtain ⟨cs1, k1, k2, k3⟩ := h1.qry g cs h hs
    obtain ⟨cs2, l1, l2, l3⟩ := h2.qry g cs1 k1 k2
    exact ⟨cs2, l1, l2, fun hf => l3 (k3 hf)⟩⟩
theorem LeQ.of {w1 w2 : World} (hn : n ≤ w1.heap.size) (h : Below w1.heap.size w1 w2) : LeQ n x xp xc w1 w2 := by
  have hk : ∀ b cs t, Blk w1 b cs t → Blk w2 b cs t := fun b cs t hb => hb.on h
  exact ⟨h.mono hn, fun b cs t _ hb => hk b cs t hb, fun b cs hb hs => ⟨cs, hk _ _ _ hb, hs, isF_keep fun b cs t _ hb => hk b cs t hb⟩⟩
theorem LeQ.drew (w : World) : LeQ n x xp xc w { w with drawn := w.drawn + 1 } :=
  ⟨Below.drew (Below.refl _ w), fun _ _ _ _ h => h, fun b cs h hs => ⟨cs, h, hs, isF_keep fun _ _ _ _ h => h⟩⟩
/-- What each operation yields. -/
def R10 (n : Nat) (x : Ex) (xp : Option Addr) (xc : Nat) (i : Nat) (v : Value) (w : World) : Prop := match i with
  | 0 => v = .agg (xC x xp xc)
  | 1 => v = .agg #[.int .i64 1, .int .i64 1, .string ⟨#[]⟩]
  | 2 => v = .agg (xC oneX none 0)
  | 3 => ∃ g, v = .slice (some ⟨g, 0, none⟩) 1 1 ∧ Blk w g (xC oneX none 0) 26
  | 4 => ∃ g, v = .slice (some ⟨g, 0, none⟩) 1 1 ∧ Blk w g #[.string ⟨#[121]⟩] 9
  | 5 => ∃ cs, v = .agg cs ∧ IsF x xp xc w cs
  | 6 => ∃ g cs, v = .pointer (some ⟨g, 0, none⟩) ∧ n ≤ g ∧ Blk w g cs 39 ∧ cs.size = 14
  | _ => True
theorem R10_on : ∀ (i : Nat) (v : Value) (w1 w2 : World), LeQ n x xp xc w1 w2 → R10 n x xp xc i v w1 → R10 n x xp xc i v w2
  | 0, _, _, _, _, h => h
  | 1, _, _, _, _, h => h
  | 2, _, _, _, _, h => h
  | 3, _, _, _, hb, ⟨g, e, h⟩ => ⟨g, e, hb.keep _ _ _ (by decide) h⟩
  | 4, _, _, _, hb, ⟨g, e, h⟩ => ⟨g, e, hb.keep _ _ _ (by decide) h⟩
  | 5, _, _, _, hb, ⟨cs, e, h⟩ => ⟨cs, e, isF_keep hb.keep h⟩
  | 6, _, _, _, hb, ⟨g, cs, e, hn, h, hs⟩ => by
    obtain ⟨cs', k1, k2, -⟩ := hb.qry g cs h hs
    exact ⟨g, cs', e, hn, k1, k2⟩
  | _ + 7, _, _, _, _, _ => trivial
def S10 (n : Nat) (x : Ex) (xp : Option Addr) (xc : Nat) (i : Nat) (f : Tmp → Value) (w : World) : Prop := i = 7 → ∃ g cs, f 14 = .pointer (some ⟨g, 0, none⟩) ∧ n ≤ g ∧ Blk w g cs 39 ∧ cs.size = 14 ∧ IsF x xp xc w cs
theorem S10_on (i : Nat) (f : Tmp → Value) (w1 w2 : World) (hb : LeQ n x xp xc w1 w2) (h : S10 n x xp xc i f w1) : S10 n x xp xc i f w2 := fun hi => by
  obtain ⟨g, cs, e, hn, k, hs, hf⟩ := h hi
  obtain ⟨cs', k1, k2, k3⟩ := hb.qry g cs k hs
  exact ⟨g, cs', e, hn, k1, k2, k3 hf⟩
theorem LeQ.store {w : World} {g : Nat} {cs ds : Array Value} (hn : n ≤ g) (hb : Blk w g cs 39) (hs : cs.size = 14) (hd : ds.size = 14) (hf : IsF x xp xc w ds) : LeQ n x xp xc w (w.setCells g 0 ds.toList) ∧ Blk (w.setCells g 0 ds.toList) g ds 39 ∧ IsF x xp xc (w.setCells g 0 ds.toList) ds := by
  have hB : Blk (w.setCells g 0 ds.toList) g ds 39 := by
    have := Blk.cells ds.toList 0 w cs hb
    rw [putA_whole (by rw [hs, Array.length_toList, hd])] at this
    exact this
  have hbut := But.cells (r := g) ds.toList 0 w (But.refl _ _)
  have hk : ∀ b cs t, t ≠ 39 → Blk w b cs t → Blk (w.setCells g 0 ds.toList) b cs t := fun b cs' t ht h => h.but hbut fun e => by
    subst e
    unfold Blk at h hb
    rw [h] at hb
    injection hb with hb
    injection hb with _ h2
    exact ht h2
  have hF := isF_keep hk hf
  refine ⟨⟨below_cells hn _ _ _ (Below.refl _ _), hk, fun b cs' h hs' => ?_⟩, hB, hF⟩
  by_cases e : b = g
  · subst e
    exact ⟨ds, hB, hd, fun _ => hF⟩
  · exact ⟨cs', h.but hbut e, hs', isF_keep hk⟩
set_option maxHeartbeats 2000000 in
set_option maxRecDepth 20000 in
theorem opS0 {a : Act} {w' : World} {K : Act → World → Prop} {Q : Exit → Act → World → Prop} (hn : n ≤ w'.heap.size) (H : Nat) (e3 : a.tmps.getD 3 undef = .pointer (some ⟨H, 0, none⟩)) (hx : Blk w' H (xC x xp xc) 26) (hK : ∀ v w'', R10 n x xp xc 0 v w'' → LeQ n x xp xc w' w'' → K (a.put (some 86) v) w'') : Oper.wp Tryz.prog { dst := some 86, op := Op.load 26 (Operand.tmp 3), type := 26, pos := "law.go:330", after := #[], guard := none } a w' K Q := by
  refine wp_load_mid 26 _ rfl H 0 e3 (xC x xp xc).toList _ (fun j v hv => ?_) Tryz.underlying26 rfl (by kernel_rfl) ?_
  · rw [Nat.zero_add, hx.cell]
    simpa using hv
  · exact hK _ _ rfl (LeQ.refl _)
set_option maxHeartbeats 2000000 in
set_option maxRecDepth 20000 in
theorem opS1 {a : Act} {w' : World} {K : Act → World → Prop} {Q : Exit → Act → World → Prop} (hn : n ≤ w'.heap.size)  (hK : ∀ v w'', R10 n x xp xc 1 v w'' → LeQ n x xp xc w' w'' → K (a.put (some 87) v) w'') : Oper.wp Tryz.prog { dst := some 87, op := Op.call { callee := Callee.value (Operand.func 5), args := #[Operand.const (Value.int IntKind.i64 1)], argTypes := #[3] }, type := 23, pos := "law.go:330", after := #[], guard := none } a w' K Q := by
  unfold Oper.wp execOp
  go_simp
  refine (in_any 1 w').mono ?_
  rintro e w'' ⟨rfl, hb⟩
  exact hK _ _ rfl (LeQ.of hn hb)
set_option maxHeartbeats 2000000 in
set_option maxRecDepth 20000 in
theorem opS2 {a : Act} {w' : World} {K : Act → World → Prop} {Q : Exit → Act → World → Prop} (hn : n ≤ w'.heap.size) (d1 : a.tmps.getD 87 undef = .agg #[.int .i64 1, .int .i64 1, .string ⟨#[]⟩]) (hK : ∀ v w'', R10 n x xp xc 2 v w'' → LeQ n x xp xc w' w'' → K (a.put (some 88) v) w'') : Oper.wp Tryz.prog { dst := some 88, op := Op.build 26 #[(0, Operand.const (Value.string { data := #[118, 97, 108] })), (2, Operand.tmp 87)], type := 26, pos := "law.go:330", after := #[{ on := 1, ground := Ground.data }], guard := none } a w' K Q := by
  have q1 := d1
  rw [Array.getD_eq_getD_getElem?] at q1
  unfold Oper.wp execOp
  go_simp
  exact hK _ _ rfl (LeQ.refl _)
set_option maxHeartbeats 2000000 in
set_option maxRecDepth 20000 in
theorem opS3 {a : Act} {w' : World} {K : Act → World → Prop} {Q : Exit → Act → World → Prop} (hn : n ≤ w'.heap.size) (d2 : a.tmps.getD 88 undef = .agg #[.string ⟨#[118, 97, 108]⟩, .string ⟨#[]⟩, .int .i64 1, .int .i64 1, .string ⟨#[]⟩, .slice none 0 0, .int .i64 0]) (hK : ∀ v w'', R10 n x xp xc 3 v w'' → LeQ n x xp xc w' w'' → K (a.put (some 89) v) w'') : Oper.wp Tryz.prog { dst := some 89, op := Op.buildSlice 24 1 #[(0, Operand.tmp 88)], type := 24, pos := "law.go:330", after := #[{ on := 2, ground := Ground.data }], guard := none } a w' K Q := by
  have q2 := d2
  rw [Array.getD_eq_getD_getElem?] at q2
  unfold Oper.wp execOp
  go_simp
  exact hK _ _ ⟨_, rfl, blk_alloc _ _ _⟩ (LeQ.of hn ((Below.refl _ _).alloc (Nat.le_refl _) _))
set_option maxHeartbeats 2000000 in
set_option maxRecDepth 20000 in
theorem opS4 {a : Act} {w' : World} {K : Act → World → Prop} {Q : Exit → Act → World → Prop} (hn : n ≤ w'.heap.size)  (hK : ∀ v w'', R10 n x xp xc 4 v w'' → LeQ n x xp xc w' w'' → K (a.put (some 90) v) w'') : Oper.wp Tryz.prog { dst := some 90, op := Op.buildSlice 36 1 #[(0, Operand.const (Value.string { data := #[121] }))], type := 36, pos := "law.go:330", after := #[], guard := none } a w' K Q := by
  unfold Oper.wp execOp
  go_simp
  exact hK _ _ ⟨_, rfl, blk_alloc _ _ _⟩ (LeQ.of hn ((Below.refl _ _).alloc (Nat.le_refl _) _))
set_option maxHeartbeats 2000000 in
set_option maxRecDepth 20000 in
theorem opS5 {a : Act} {w' : World} {K : Act → World → Prop} {Q : Exit → Act → World → Prop} (hn : n ≤ w'.heap.size) (g1 g2 : Nat) (d0 : a.tmps.getD 86 undef = .agg (xC x xp xc)) (d3 : a.tmps.getD 89 undef = .slice (some ⟨g1, 0, none⟩) 1 1) (d4 : a.tmps.getD 90 undef = .slice (some ⟨g2, 0, none⟩) 1 1) (b1 : Blk w' g1 (xC oneX none 0) 26) (b2 : Blk w' g2 #[.string ⟨#[121]⟩] 9) (hK : ∀ v w'', R10 n x xp xc 5 v w'' → LeQ n x xp xc w' w'' → K (a.put (some 91) v) w'') : Oper.wp Tryz.prog { dst := some 91, op := Op.build 39 #[(0, Operand.const (Value.string { data := #[116] })), (1, Operand.tmp 86), (2, Operand.tmp 89), (3, Operand.tmp 90)], type := 39, pos := "law.go:330", after := #[{ on := 0, ground := Ground.data }, { on := 3, ground := Ground.data }, { on := 4, ground := Ground.data }], guard := none } a w' K Q := by
  have q0 := d0
  rw [Array.getD_eq_getD_getElem?] at q0
  have q3 := d3
  rw [Array.getD_eq_getD_getElem?] at q3
  have q4 := d4
  rw [Array.getD_eq_getD_getElem?] at q4
  unfold Oper.wp execOp
  go_simp
  exact hK _ _ ⟨_, rfl, g1, g2, rfl, b1, b2⟩ (LeQ.refl _)
set_option maxHeartbeats 2000000 in
set_option maxRecDepth 20000 in
theorem opS6 {a : Act} {w' : World} {K : Act → World → Prop} {Q : Exit → Act → World → Prop} (hn : n ≤ w'.heap.size)  (hK : ∀ v w'', R10 n x xp xc 6 v w'' → LeQ n x xp xc w' w'' → K (a.put (some 14) v) w'') : Oper.wp Tryz.prog { dst := some 14, op := Op.alloc 39, type := 0, pos := "law.go:330", after := #[], guard := none } a w' K Q := by
  unfold Oper.wp execOp
  go_simp
  exact hK _ _ ⟨_, _, rfl, hn, blk_alloc _ _ _, rfl⟩ (LeQ.of hn ((Below.refl _ _).alloc (Nat.le_refl _) _))
set_option maxHeartbeats 2000000 in
set_option maxRecDepth 20000 in
theorem opS7 {a : Act} {w' : World} {K : Act → World → Prop} {Q : Exit → Act → World → Prop} (hn : n ≤ w'.heap.size) (g : Nat) (cs ds : Array Value) (d6 : a.tmps.getD 14 undef = .pointer (some ⟨g, 0, none⟩)) (d5 : a.tmps.getD 91 undef = .agg ds) (hg : n ≤ g) (hb : Blk w' g cs 39) (hs : cs.size = 14) (hf : IsF x xp xc w' ds) (hK : ∀ v w'', S10 n x xp xc 7 (fun d => a.tmps.getD d undef) w'' → LeQ n x xp xc w' w'' → K (a.put none v) w'') : Oper.wp Tryz.prog { dst := none, op := Op.store 39 (Operand.tmp 14) (Operand.tmp 91), type := 0, pos := "law.go:330", after := #[{ on := 6, ground := Ground.data }, { on := 5, ground := Ground.data }, { on := 1, ground := Ground.chain }, { on := 0, ground := Ground.phase }, { on := 1, ground := Ground.phase }, { on := 2, ground := Ground.phase }, { on := 3, ground := Ground.phase }, { on := 4, ground := Ground.phase }, { on := 5, ground := Ground.phase }, { on := 6, ground := Ground.phase }], guard := none } a w' K Q := by
  have hd : ds.size = 14 := by
    obtain ⟨g1, g2, e, -⟩ := hf
    rw [e]
    rfl
  have h1 : ds.all (·.oneCell') = true := by
    obtain ⟨g1, g2, e, -⟩ := hf
    rw [e]
    simp [Value.oneCell']
  obtain ⟨k1, k2, k3⟩ := LeQ.store hg hb hs hd hf
  refine wp_store_mid 39 _ _ rfl g 0 ds d6 d5 (hb.there 0 ds.size (by omega)) (by rw [hd]; kernel_rfl) h1 ?_
  exact hK _ _ (fun _ => ⟨g, ds, d6, hg, k2, hd, k3⟩) k1
set_option maxHeartbeats 4000000 in
set_option maxRecDepth 20000 in
/-- The law's query is laid. -/
theorem call_S {id : Nat} {a0 : Act} {Q : Exit → Act → World → Prop} (w : World) (ops : Array Oper) (hops : ops = #[{ dst := some 86, op := Op.load 26 (Operand.tmp 3), type := 26, pos := "law.go:330", after := #[], guard := none }, { dst := some 87, op := Op.call { callee := Callee.value (Operand.func 5), args := #[Operand.const (Value.int IntKind.i64 1)], argTypes := #[3] }, type := 23, pos := "law.go:330", after := #[], guard := none }, { dst := some 88, op := Op.build 26 #[(0, Operand.const (Value.string { data := #[118, 97, 108] })), (2, Operand.tmp 87)], type := 26, pos := "law.go:330", after := #[{ on := 1, ground := Ground.data }], guard := none }, { dst := some 89, op := Op.buildSlice 24 1 #[(0, Operand.tmp 88)], type := 24, pos := "law.go:330", after := #[{ on := 2, ground := Ground.data }], guard := none }, { dst := some 90, op := Op.buildSlice 36 1 #[(0, Operand.const (Value.string { data := #[121] }))], type := 36, pos := "law.go:330", after := #[], guard := none }, { dst := some 91, op := Op.build 39 #[(0, Operand.const (Value.string { data := #[116] })), (1, Operand.tmp 86), (2, Operand.tmp 89), (3, Operand.tmp 90)], type := 39, pos := "law.go:330", after := #[{ on := 0, ground := Ground.data }, { on := 3, ground := Ground.data }, { on := 4, ground := Ground.data }], guard := none }, { dst := some 14, op := Op.alloc 39, type := 0, pos := "law.go:330", after := #[], guard := none }, { dst := none, op := Op.store 39 (Operand.tmp 14) (Operand.tmp 91), type := 0, pos := "law.go:330", after := #[{ on := 6, ground := Ground.data }, { on := 5, ground := Ground.data }, { on := 1, ground := Ground.chain }, { on := 0, ground := Ground.phase }, { on := 1, ground := Ground.phase }, { on := 2, ground := Ground.phase }, { on := 3, ground := Ground.phase }, { on := 4, ground := Ground.phase }, { on := 5, ground := Ground.phase }, { on := 6, ground := Ground.phase }], guard := none }]) (H : Nat) (hn : n ≤ w.heap.size) (hsz : a0.tmps.size = 162) (h3 : a0.tmps.getD 3 undef = .pointer (some ⟨H, 0, none⟩)) (hx : Blk w H (xC x xp xc) 26)
    (hdone : ∀ (vs : Nat → Value) (g g1 g2 : Nat) w', Below n w w' → n ≤ g → vs 6 = .pointer (some ⟨g, 0, none⟩) → Blk w' g (qC x xp xc g1 g2) 39 → Blk w' g1 (xC oneX none 0) 26 → Blk w' g2 #[.string ⟨#[121]⟩] 9 → Q .normal (putL vs ops.toList 0 a0) w') :
    (Code.region id ops true).wp Tryz.prog Q a0 w := by
  subst hops
  refine wp_region_of2 162 (by kernel_rfl) hsz (by kernel_rfl) (LeQ n x xp xc) LeQ.refl (fun _ _ _ => LeQ.trans) (R10 n x xp xc) R10_on (S10 n x xp xc) S10_on ?_ ?_ ?_
  · intro i o f f' w ho hd h hi
    subst hi
    simp only [List.getElem?_toArray, List.getElem?_cons_zero, List.getElem?_cons_succ, Option.some.injEq] at ho
    subst ho
    obtain ⟨g, cs, e, k⟩ := h rfl
    exact ⟨g, cs, (hd ⟨6, .data⟩ (by simp) rfl _ 14 rfl rfl).symm.trans e, k⟩
  · intro i o ho a w' hle hdep hold K hK
    have hle' := LeQ.trans (LeQ.drew w) hle
    have hn' : n ≤ w'.heap.size := Nat.le_trans hn hle'.low.size
    have hi : i < 8 := (Array.getElem?_eq_some_iff.1 ho).1
    have e3 := hold 3 (by decide)
    rw [h3] at e3
    clear hold hdone
    have : i = 0 ∨ i = 1 ∨ i = 2 ∨ i = 3 ∨ i = 4 ∨ i = 5 ∨ i = 6 ∨ i = 7 := by omega
    rcases this with rfl | rfl | rfl | rfl | rfl | rfl | rfl | rfl
    all_goals (simp only [List.getElem?_toArray, List.getElem?_cons_zero, List.getElem?_cons_succ, Option.some.injEq] at ho; subst ho)
    · have HK : ∀ v w'', R10 n x xp xc 0 v w'' → LeQ n x xp xc w' w'' → K (a.put (some 86) v) w'' := fun v w'' h h2 => hK v w'' (fun _ _ => h) (fun e => by cases e) h2
      clear hK
      exact opS0 hn' H e3 (hle'.keep _ _ _ (by decide) hx) HK
    · have HK : ∀ v w'', R10 n x xp xc 1 v w'' → LeQ n x xp xc w' w'' → K (a.put (some 87) v) w'' := fun v w'' h h2 => hK v w'' (fun _ _ => h) (fun e => by cases e) h2
      clear hK
      exact opS1 hn' HK
    · have HK : ∀ v w'', R10 n x xp xc 2 v w'' → LeQ n x xp xc w' w'' → K (a.put (some 88) v) w'' := fun v w'' h h2 => hK v w'' (fun _ _ => h) (fun e => by cases e) h2
      clear hK
      exact opS2 hn' (hdep ⟨1, .data⟩ (by simp) rfl _ 87 rfl rfl) HK
    · have HK : ∀ v w'', R10 n x xp xc 3 v w'' → LeQ n x xp xc w' w'' → K (a.put (some 89) v) w'' := fun v w'' h h2 => hK v w'' (fun _ _ => h) (fun e => by cases e) h2
      clear hK
      exact opS3 hn' (hdep ⟨2, .data⟩ (by simp) rfl _ 88 rfl rfl) HK
    · have HK : ∀ v w'', R10 n x xp xc 4 v w'' → LeQ n x xp xc w' w'' → K (a.put (some 90) v) w'' := fun v w'' h h2 => hK v w'' (fun _ _ => h) (fun e => by cases e) h2
      clear hK
      exact opS4 hn' HK
    · have HK : ∀ v w'', R10 n x xp xc 5 v w'' → LeQ n x xp xc w' w'' → K (a.put (some 91) v) w'' := fun v w'' h h2 => hK v w'' (fun _ _ => h) (fun e => by cases e) h2
      clear hK
      have d0 : R10 n x xp xc 0 (a.tmps.getD 86 undef) w' := hdep ⟨0, .data⟩ (by simp) rfl _ 86 rfl rfl
      obtain ⟨g1, d1, b1⟩ : R10 n x xp xc 3 (a.tmps.getD 89 undef) w' := hdep ⟨3, .data⟩ (by simp) rfl _ 89 rfl rfl
      obtain ⟨g2, d2, b2⟩ : R10 n x xp xc 4 (a.tmps.getD 90 undef) w' := hdep ⟨4, .data⟩ (by simp) rfl _ 90 rfl rfl
      exact opS5 hn' g1 g2 d0 d1 d2 b1 b2 HK
    · have HK : ∀ v w'', R10 n x xp xc 6 v w'' → LeQ n x xp xc w' w'' → K (a.put (some 14) v) w'' := fun v w'' h h2 => hK v w'' (fun _ _ => h) (fun e => by cases e) h2
      clear hK
      exact opS6 hn' HK
    · have HK : ∀ v w'', S10 n x xp xc 7 (fun d => a.tmps.getD d undef) w'' → LeQ n x xp xc w' w'' → K (a.put none v) w'' := fun v w'' h h2 => hK v w'' (fun _ e => by cases e) (fun _ => h) h2
      clear hK
      obtain ⟨g, cs, d6, hg, hb, hs⟩ : R10 n x xp xc 6 (a.tmps.getD 14 undef) w' := hdep ⟨6, .data⟩ (by simp) rfl _ 14 rfl rfl
      obtain ⟨ds, d5, hf⟩ : R10 n x xp xc 5 (a.tmps.getD 91 undef) w' := hdep ⟨5, .data⟩ (by simp) rfl _ 91 rfl rfl
      exact opS7 hn' g cs ds d6 d5 hg hb hs hf HK
  · intro vs w' hle hv hs
    obtain ⟨g, cs, e, hg, hb, -, g1, g2, rfl, h1, h2⟩ := hs 7 _ rfl rfl rfl
    obtain ⟨g', cs', e', -⟩ := hv 6 _ 14 rfl rfl
    refine hdone vs g g1 g2 w' (LeQ.trans (LeQ.drew w) hle).low hg ?_ hb h1 h2
    dsimp only at e
    rw [putL_at (e := 14) vs _ 0 a0 6 _ rfl rfl (fun j' o' h1 h2 => ?_) (by rw [hsz]; decide)] at e
    · simpa using e
    · exact uniq_list _ (by decide) j' 6 o' _ 14 h1 rfl h2 rfl
end Go.Proofs.YticdcnbeemkapaaGreatDoor
