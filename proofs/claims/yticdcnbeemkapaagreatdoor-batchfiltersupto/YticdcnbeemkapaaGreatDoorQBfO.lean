/-
  sluicelaw4.BatchFilters: the law's own closed call, which draws its order.
-/
import Derived.Test.YticdcnbeemkapaaGreatDoorGrAp
import Derived.Test.YticdcnbeemkapaaGreatDoorGrAu
import Derived.Test.YticdcnbeemkapaaGreatDoorQRgInv
import Derived.Deep.DeepCutAuto
namespace Go.Proofs.YticdcnbeemkapaaGreatDoor
open Go.RowKit Go.BigFrame
set_option linter.unusedVariables false
set_option linter.unusedSimpArgs false

def colX : Ex := .node ⟨#[99, 111, 108]⟩ ⟨#[120]⟩ 0 0 ⟨#[]⟩ 0 []
def qyG : Qy := ⟨⟨#[116]⟩, ex0, [colX], [⟨#[121]⟩], [], 0, 0, []⟩
def zsG : List Cl := [(⟨#[120]⟩, 1)]
def rwsG : List (List V3) := [[(1, 3, ⟨#[]⟩)], [(1, 4, ⟨#[]⟩)]]
def outsG : List Ot := [([(1, 3, ⟨#[]⟩)], 0, 0), ([(1, 4, ⟨#[]⟩)], 0, 0)]
theorem fact_E : btE zsG qyG rwsG = 0 := by kernel_rfl
theorem fact_O : btO zsG qyG rwsG = outsG := by kernel_rfl
theorem in_any (n : Int) (w : World) : Calls Tryz.prog 5 #[.int .i64 n] w fun e w' => e = .returned (.agg #[.int .i64 1, .int .i64 n, .string ⟨#[]⟩]) ∧ Below w.heap.size w w' := by
  go_enter Tryz.func5, Tryz.ntmps5
  go_wp2
  refine bodyPost_ret (v := .agg #[.int .i64 1, .int .i64 n, .string ⟨#[]⟩]) (by simp [results, Tryz.results5, go_sem]) rfl ⟨rfl, ?_⟩
  repeat (first | exact Below.refl _ _ | (refine Below.setCell ?_ (by simp) _) | (refine Below.alloc ?_ (by simp; omega) _) | (refine Below.alloc ?_ (by simp) _))
theorem args_one {w : World} {g : Nat} {a0 a1 a2 a3 a4 a5 a6 : Value} {t : TypeId} {x : Ex} (h : Blk w g #[a0, a1, a2, a3, a4, a5, a6] t) (hx : ExIn w anyB (.agg #[a0, a1, a2, a3, a4, a5, a6]) x) : ArgsIs w anyB (.slice (some ⟨g, 0, none⟩) 1 1) [x] := by
  refine ⟨_, 1, rfl, ⟨by simp [maxLen], by simp⟩, .inr ⟨g, 0, rfl, h.lt, trivial, ?_⟩⟩
  rw [ExsIn, ExsIn]
  exact ⟨⟨a0, a1, a2, a3, a4, a5, a6, h.cell 0, h.cell 1, h.cell 2, h.cell 3, h.cell 4, h.cell 5, h.cell 6, hx⟩, trivial⟩
theorem sts_oneB {w : World} {g : Nat} {s : ByteArray} {t : TypeId} (h : Blk w g #[.string s] t) : StsA w (.slice (some ⟨g, 0, none⟩) 1 1) [s] :=
  ⟨_, 1, rfl, ⟨by simp, by simp⟩, fun e => by simp at e, fun a ha => .inr ⟨g, 0, by injection ha with ha; exact ha.symm, h.lt, fun j hj => by
    have : j = 0 := by simp at hj; omega
    subst this
    exact h.cell 0⟩⟩
theorem cols_one {w : World} {g : Nat} {n : ByteArray} {ty : Int} {t : TypeId} (h : Blk w g #[.string n, .int .i64 ty] t) (hn : n.size ≤ maxLen) : ColsV w (.slice (some ⟨g, 0, none⟩) 1 1) [(n, ty)] :=
  ⟨_, 1, rfl, .inr ⟨g, 0, rfl, by simp, fun z hz => by rw [List.mem_singleton.1 hz]; exact hn, h.lt, fun j hj => by
    have : j = 0 := by simp at hj; omega
    subst this
    exact ⟨h.cell 0, h.cell 1⟩⟩⟩
theorem vals_one {w : World} {g : Nat} {ty n : Int} {s : ByteArray} {t : TypeId} (h : Blk w g #[.int .i64 ty, .int .i64 n, .string s] t) : ValsAt w (some ⟨g, 0, none⟩) [(ty, n, s)] :=
  .inr ⟨g, 0, rfl, h.lt, fun j hj => by
    have : j = 0 := by simp at hj; omega
    subst this
    exact ⟨h.cell 0, h.cell 1, h.cell 2⟩⟩
theorem rows_G {w : World} {g g1 g2 : Nat} {t t1 t2 : TypeId} (h : Blk w g #[.slice (some ⟨g1, 0, none⟩) 1 1, .slice (some ⟨g2, 0, none⟩) 1 1] t) (h1 : Blk w g1 #[.int .i64 1, .int .i64 3, .string ⟨#[]⟩] t1) (h2 : Blk w g2 #[.int .i64 1, .int .i64 4, .string ⟨#[]⟩] t2) : RowsV w (.slice (some ⟨g, 0, none⟩) 2 2) rwsG := by
  refine ⟨_, 2, rfl, by decide, .inr ⟨g, 0, rfl, h.lt, fun j hj => ?_⟩, fun r hr => ?_⟩
  · have hj2 : j < 2 := hj
    have : j = 0 ∨ j = 1 := by omega
    rcases this with rfl | rfl
    · exact ⟨_, 1, h.cell 0, vals_one h1, .inr fun g' o' e => by injection e with e; injection e with e; subst e; exact h1.lt⟩
    · exact ⟨_, 1, h.cell 1, vals_one h2, .inr fun g' o' e => by injection e with e; injection e with e; subst e; exact h2.lt⟩
  · rw [rwsG] at hr
    rcases List.mem_cons.1 hr with rfl | hr
    · exact ⟨fun q hq => by rw [List.mem_singleton.1 hq]; exact ⟨by decide, by simp [inB]⟩, by decide⟩
    · rw [List.mem_singleton.1 hr]
      exact ⟨fun q hq => by rw [List.mem_singleton.1 hq]; exact ⟨by decide, by simp [inB]⟩, by decide⟩
theorem ex0_in (w : World) : ExIn w anyB (exV ex0 none 0) ex0 := by
  rw [ex0]
  exact ex_leaf (by decide) (by decide) (by decide)
theorem exb_leaf {op nm vs : ByteArray} {vt vn pos : Int} (h : inB vn) : ExB (.node op nm vt vn vs pos []) := by
  intro q hq
  rw [Ex.pre, Ex.pres] at hq
  rw [List.mem_singleton.1 hq]
  exact h
theorem qyA_G : QyA qyG := by
  refine ⟨by decide, fun x hx => ?_, fun a ha => (by cases ha), fun s hs => ?_, (by show inM 0; simp [inM]), (by show inM 0; simp [inM])⟩
  · rw [List.mem_singleton.1 hx]; decide
  · rw [List.mem_singleton.1 hs]; decide
theorem qyBe_F {w : World} {q : Qy} {x y : Ex} {wp : Option Addr} {wc g1 g2 : Nat} {t1 t2 : TypeId} {yp : Option Addr} {yc : Nat} (hq : q = ⟨⟨#[116]⟩, x, [y], [⟨#[121]⟩], [], 0, 0, []⟩) (hx : ExIn w anyB (exV x wp wc) x) (h1 : Blk w g1 (xC y yp yc) t1) (hy : ExIn w anyB (exV y yp yc) y) (h2 : Blk w g2 #[.string ⟨#[121]⟩] t2) : QyBe w anyB q wp wc (some ⟨g1, 0, none⟩) 1 (some ⟨g2, 0, none⟩) 1 none 0 none 0 := by
  subst hq
  exact ⟨hx, args_one h1 hy, by simp, sts_oneB h2, StsA.nil _, ⟨by simp, .inl rfl⟩⟩
/-- What each operation of the drawn call yields. -/
def R3 (gc : Nat) (i : Nat) (v : Value) (w : World) : Prop := match i with
  | 0 => v = .agg (xC colX none 0)
  | 1 => ∃ g, v = .slice (some ⟨g, 0, none⟩) 1 1 ∧ Blk w g (xC colX none 0) 26
  | 2 => ∃ g, v = .slice (some ⟨g, 0, none⟩) 1 1 ∧ Blk w g #[.string ⟨#[121]⟩] 9
  | 3 => ∃ cp np, v = .agg (qyC qyG none 0 cp 1 np 1 none 0 none 0) ∧ QyBe w anyB qyG none 0 cp 1 np 1 none 0 none 0
  | 4 => v = .slice (some ⟨gc, 0, none⟩) 1 1
  | 5 => v = .agg #[.int .i64 1, .int .i64 3, .string ⟨#[]⟩]
  | 6 => ∃ g, v = .slice (some ⟨g, 0, none⟩) 1 1 ∧ Blk w g #[.int .i64 1, .int .i64 3, .string ⟨#[]⟩] 23
  | 7 => v = .agg #[.int .i64 1, .int .i64 4, .string ⟨#[]⟩]
  | 8 => ∃ g, v = .slice (some ⟨g, 0, none⟩) 1 1 ∧ Blk w g #[.int .i64 1, .int .i64 4, .string ⟨#[]⟩] 23
  | 9 => RowsV w v rwsG
  | 10 => ∃ u, v = .tuple #[u, .nilIface] ∧ OutsV w u outsG
  | 11 => ∃ u, v = .tuple #[u, .nilIface] ∧ OutsV w u outsG
  | 12 => OutsV w v outsG
  | 13 => v = .nilIface
  | 14 => OutsV w v outsG
  | 15 => v = .nilIface
  | _ => True
theorem R3_on (gc : Nat) : ∀ (i : Nat) (v : Value) (w1 w2 : World), Below w1.heap.size w1 w2 → R3 gc i v w1 → R3 gc i v w2
  | 0, _, _, _, _, h => h
  | 1, _, _, _, hb, ⟨g, e, h⟩ => ⟨g, e, h.on hb⟩
  | 2, _, _, _, hb, ⟨g, e, h⟩ => ⟨g, e, h.on hb⟩
  | 3, _, _, _, hb, ⟨cp, np, e, h⟩ => ⟨cp, np, e, h.on hb⟩
  | 4, _, _, _, _, h => h
  | 5, _, _, _, _, h => h
  | 6, _, _, _, hb, ⟨g, e, h⟩ => ⟨g, e, h.on hb⟩
  | 7, _, _, _, _, h => h
  | 8, _, _, _, hb, ⟨g, e, h⟩ => ⟨g, e, h.on hb⟩
  | 9, _, _, _, hb, h => RowsV.on h hb
  | 10, _, _, _, hb, ⟨u, e, h⟩ => ⟨u, e, OutsV.on h hb⟩
  | 11, _, _, _, hb, ⟨u, e, h⟩ => ⟨u, e, OutsV.on h hb⟩
  | 12, _, _, _, hb, h => OutsV.on h hb
  | 13, _, _, _, _, h => h
  | 14, _, _, _, hb, h => OutsV.on h hb
  | 15, _, _, _, _, h => h
  | _ + 16, _, _, _, _, _ => trivial
abbrev Grow (w1 w2 : World) : Prop := Below w1.heap.size w1 w2
theorem grow_trans (a b c : World) (h1 : Grow a b) (h2 : Grow b c) : Grow a c := h1.trans (h2.mono h1.size)
set_option maxHeartbeats 2000000 in
set_option maxRecDepth 20000 in
theorem opF0 (gc : Nat) {a : Act} {w' : World} {K : Act → World → Prop} {Q : Exit → Act → World → Prop} (gx : Nat) (e8 : a.tmps.getD 8 undef = .pointer (some ⟨gx, 0, none⟩)) (hx : Blk w' gx (xC colX none 0) 26) (hK : ∀ v w'', R3 gc 0 v w'' → Grow w' w'' → K (a.put (some 30) v) w'') : Oper.wp Tryz.prog { dst := some 30, op := Op.load 26 (Operand.tmp 8), type := 26, pos := "law.go:321", after := #[], guard := none } a w' K Q := by
  refine wp_load_mid 26 _ rfl gx 0 e8 (xC colX none 0).toList _ (fun j v hv => ?_) Tryz.underlying26 rfl (by kernel_rfl) ?_
  · rw [Nat.zero_add, hx.cell]
    simpa using hv
  · exact hK _ _ rfl (Below.refl _ _)
set_option maxHeartbeats 2000000 in
set_option maxRecDepth 20000 in
theorem opF1 (gc : Nat) {a : Act} {w' : World} {K : Act → World → Prop} {Q : Exit → Act → World → Prop} (d0 : a.tmps.getD 30 undef = .agg #[.string ⟨#[99, 111, 108]⟩, .string ⟨#[120]⟩, .int .i64 0, .int .i64 0, .string ⟨#[]⟩, .slice none 0 0, .int .i64 0]) (hK : ∀ v w'', R3 gc 1 v w'' → Grow w' w'' → K (a.put (some 31) v) w'') : Oper.wp Tryz.prog { dst := some 31, op := Op.buildSlice 24 1 #[(0, Operand.tmp 30)], type := 24, pos := "law.go:321", after := #[{ on := 0, ground := Ground.data }], guard := none } a w' K Q := by
  have q0 := d0
  rw [Array.getD_eq_getD_getElem?] at q0
  unfold Oper.wp execOp
  go_simp
  exact hK _ _ ⟨_, rfl, blk_alloc _ _ _⟩ ((Below.refl _ _).alloc (Nat.le_refl _) _)
set_option maxHeartbeats 2000000 in
set_option maxRecDepth 20000 in
theorem opF2 (gc : Nat) {a : Act} {w' : World} {K : Act → World → Prop} {Q : Exit → Act → World → Prop}  (hK : ∀ v w'', R3 gc 2 v w'' → Grow w' w'' → K (a.put (some 32) v) w'') : Oper.wp Tryz.prog { dst := some 32, op := Op.buildSlice 36 1 #[(0, Operand.const (Value.string { data := #[121] }))], type := 36, pos := "law.go:321", after := #[], guard := none } a w' K Q := by
  unfold Oper.wp execOp
  go_simp
  exact hK _ _ ⟨_, rfl, blk_alloc _ _ _⟩ ((Below.refl _ _).alloc (Nat.le_refl _) _)
set_option maxHeartbeats 2000000 in
set_option maxRecDepth 20000 in
theorem opF3 (gc : Nat) {a : Act} {w' : World} {K : Act → World → Prop} {Q : Exit → Act → World → Prop} (g1 g2 : Nat) (d1 : a.tmps.getD 31 undef = .slice (some ⟨g1, 0, none⟩) 1 1) (d2 : a.tmps.getD 32 undef = .slice (some ⟨g2, 0, none⟩) 1 1) (b1 : Blk w' g1 (xC colX none 0) 26) (b2 : Blk w' g2 #[.string ⟨#[121]⟩] 9) (hK : ∀ v w'', R3 gc 3 v w'' → Grow w' w'' → K (a.put (some 33) v) w'') : Oper.wp Tryz.prog { dst := some 33, op := Op.build 39 #[(0, Operand.const (Value.string { data := #[116] })), (2, Operand.tmp 31), (3, Operand.tmp 32)], type := 39, pos := "law.go:321", after := #[{ on := 1, ground := Ground.data }, { on := 2, ground := Ground.data }], guard := none } a w' K Q := by
  have q1 := d1
  rw [Array.getD_eq_getD_getElem?] at q1
  have q2 := d2
  rw [Array.getD_eq_getD_getElem?] at q2
  unfold Oper.wp execOp
  go_simp
  exact hK _ _ ⟨_, _, rfl, qyBe_F rfl (ex0_in _) b1 (ex_leaf (by decide) (by decide) (by decide)) b2⟩ (Below.refl _ _)
set_option maxHeartbeats 2000000 in
set_option maxRecDepth 20000 in
theorem opF4 (gc : Nat) {a : Act} {w' : World} {K : Act → World → Prop} {Q : Exit → Act → World → Prop} (e7 : a.tmps.getD 7 undef = .slice (some ⟨gc, 0, none⟩) 1 1) (hK : ∀ v w'', R3 gc 4 v w'' → Grow w' w'' → K (a.put (some 34) v) w'') : Oper.wp Tryz.prog { dst := some 34, op := Op.move (Operand.tmp 7), type := 27, pos := "law.go:321", after := #[], guard := none } a w' K Q := by
  unfold Oper.wp execOp
  go_simp
  exact hK _ _ rfl (Below.refl _ _)
set_option maxHeartbeats 2000000 in
set_option maxRecDepth 20000 in
theorem opF5 (gc : Nat) {a : Act} {w' : World} {K : Act → World → Prop} {Q : Exit → Act → World → Prop}  (hK : ∀ v w'', R3 gc 5 v w'' → Grow w' w'' → K (a.put (some 35) v) w'') : Oper.wp Tryz.prog { dst := some 35, op := Op.call { callee := Callee.value (Operand.func 5), args := #[Operand.const (Value.int IntKind.i64 3)], argTypes := #[3] }, type := 23, pos := "law.go:321", after := #[], guard := none } a w' K Q := by
  unfold Oper.wp execOp
  go_simp
  refine (in_any 3 w').mono ?_
  rintro e w'' ⟨rfl, hb⟩
  exact hK _ _ rfl hb
set_option maxHeartbeats 2000000 in
set_option maxRecDepth 20000 in
theorem opF7 (gc : Nat) {a : Act} {w' : World} {K : Act → World → Prop} {Q : Exit → Act → World → Prop}  (hK : ∀ v w'', R3 gc 7 v w'' → Grow w' w'' → K (a.put (some 37) v) w'') : Oper.wp Tryz.prog { dst := some 37, op := Op.call { callee := Callee.value (Operand.func 5), args := #[Operand.const (Value.int IntKind.i64 4)], argTypes := #[3] }, type := 23, pos := "law.go:321", after := #[{ on := 5, ground := Ground.chain }], guard := none } a w' K Q := by
  unfold Oper.wp execOp
  go_simp
  refine (in_any 4 w').mono ?_
  rintro e w'' ⟨rfl, hb⟩
  exact hK _ _ rfl hb
set_option maxHeartbeats 2000000 in
set_option maxRecDepth 20000 in
theorem opF6 (gc : Nat) {a : Act} {w' : World} {K : Act → World → Prop} {Q : Exit → Act → World → Prop} (d5 : a.tmps.getD 35 undef = .agg #[.int .i64 1, .int .i64 3, .string ⟨#[]⟩]) (hK : ∀ v w'', R3 gc 6 v w'' → Grow w' w'' → K (a.put (some 36) v) w'') : Oper.wp Tryz.prog { dst := some 36, op := Op.buildSlice 41 1 #[(0, Operand.tmp 35)], type := 41, pos := "law.go:321", after := #[{ on := 5, ground := Ground.data }], guard := none } a w' K Q := by
  have q5 := d5
  rw [Array.getD_eq_getD_getElem?] at q5
  unfold Oper.wp execOp
  go_simp
  exact hK _ _ ⟨_, rfl, blk_alloc _ _ _⟩ ((Below.refl _ _).alloc (Nat.le_refl _) _)
set_option maxHeartbeats 2000000 in
set_option maxRecDepth 20000 in
theorem opF8 (gc : Nat) {a : Act} {w' : World} {K : Act → World → Prop} {Q : Exit → Act → World → Prop} (d7 : a.tmps.getD 37 undef = .agg #[.int .i64 1, .int .i64 4, .string ⟨#[]⟩]) (hK : ∀ v w'', R3 gc 8 v w'' → Grow w' w'' → K (a.put (some 38) v) w'') : Oper.wp Tryz.prog { dst := some 38, op := Op.buildSlice 41 1 #[(0, Operand.tmp 37)], type := 41, pos := "law.go:321", after := #[{ on := 7, ground := Ground.data }], guard := none } a w' K Q := by
  have q7 := d7
  rw [Array.getD_eq_getD_getElem?] at q7
  unfold Oper.wp execOp
  go_simp
  exact hK _ _ ⟨_, rfl, blk_alloc _ _ _⟩ ((Below.refl _ _).alloc (Nat.le_refl _) _)
set_option maxHeartbeats 2000000 in
set_option maxRecDepth 20000 in
theorem opF9 (gc : Nat) {a : Act} {w' : World} {K : Act → World → Prop} {Q : Exit → Act → World → Prop} (g1 g2 : Nat) (d6 : a.tmps.getD 36 undef = .slice (some ⟨g1, 0, none⟩) 1 1) (d8 : a.tmps.getD 38 undef = .slice (some ⟨g2, 0, none⟩) 1 1) (b1 : Blk w' g1 #[.int .i64 1, .int .i64 3, .string ⟨#[]⟩] 23) (b2 : Blk w' g2 #[.int .i64 1, .int .i64 4, .string ⟨#[]⟩] 23) (hK : ∀ v w'', R3 gc 9 v w'' → Grow w' w'' → K (a.put (some 39) v) w'') : Oper.wp Tryz.prog { dst := some 39, op := Op.buildSlice 28 2 #[(0, Operand.tmp 36), (1, Operand.tmp 38)], type := 28, pos := "law.go:321", after := #[{ on := 6, ground := Ground.data }, { on := 8, ground := Ground.data }], guard := none } a w' K Q := by
  have q6 := d6
  rw [Array.getD_eq_getD_getElem?] at q6
  have q8 := d8
  rw [Array.getD_eq_getD_getElem?] at q8
  unfold Oper.wp execOp
  go_simp
  have bb : ∀ o, Below w'.heap.size w' (w'.alloc o) := fun o => (Below.refl _ _).alloc (Nat.le_refl _) o
  exact hK _ _ (rows_G (blk_alloc _ _ _) (b1.on (bb _)) (b2.on (bb _))) (bb _)
set_option maxHeartbeats 2000000 in
set_option maxRecDepth 20000 in
theorem opF10 (gc : Nat) {a : Act} {w' : World} {K : Act → World → Prop} {Q : Exit → Act → World → Prop} (qv rv : Value) (d3 : a.tmps.getD 33 undef = qv) (d4 : a.tmps.getD 34 undef = .slice (some ⟨gc, 0, none⟩) 1 1) (d9 : a.tmps.getD 39 undef = rv) (cR : Calls Tryz.prog 4 #[qv, .slice (some ⟨gc, 0, none⟩) 1 1, rv] w' fun e w'' => (∃ u, e = .returned (.tuple #[u, .nilIface]) ∧ OutsV w'' u outsG) ∧ Below w'.heap.size w' w'') (hK : ∀ v w'', R3 gc 10 v w'' → Grow w' w'' → K (a.put (some 40) v) w'') : Oper.wp Tryz.prog { dst := some 40, op := Op.call { callee := Callee.value (Operand.func 4), args := #[Operand.tmp 33, Operand.tmp 34, Operand.tmp 39], argTypes := #[39, 27, 28] }, type := 34, pos := "law.go:321", after := #[{ on := 3, ground := Ground.data }, { on := 4, ground := Ground.data }, { on := 9, ground := Ground.data }, { on := 7, ground := Ground.chain }], guard := none } a w' K Q := by
  have q3 := d3
  rw [Array.getD_eq_getD_getElem?] at q3
  have q4 := d4
  rw [Array.getD_eq_getD_getElem?] at q4
  have q9 := d9
  rw [Array.getD_eq_getD_getElem?] at q9
  unfold Oper.wp execOp
  go_simp
  refine cR.mono ?_
  rintro e w'' ⟨⟨u, rfl, hO⟩, hb⟩
  exact hK _ _ ⟨u, rfl, hO⟩ hb
set_option maxHeartbeats 2000000 in
set_option maxRecDepth 20000 in
theorem opF11 (gc : Nat) {a : Act} {w' : World} {K : Act → World → Prop} {Q : Exit → Act → World → Prop} (u : Value) (d10 : a.tmps.getD 40 undef = .tuple #[u, .nilIface]) (b : OutsV w' u outsG) (hK : ∀ v w'', R3 gc 11 v w'' → Grow w' w'' → K (a.put (some 29) v) w'') : Oper.wp Tryz.prog { dst := some 29, op := Op.move (Operand.tmp 40), type := 34, pos := "law.go:321", after := #[{ on := 10, ground := Ground.data }], guard := none } a w' K Q := by
  have q10 := d10
  rw [Array.getD_eq_getD_getElem?] at q10
  unfold Oper.wp execOp
  go_simp
  exact hK _ _ ⟨u, rfl, b⟩ (Below.refl _ _)
set_option maxHeartbeats 2000000 in
set_option maxRecDepth 20000 in
theorem opF12 (gc : Nat) {a : Act} {w' : World} {K : Act → World → Prop} {Q : Exit → Act → World → Prop} (u : Value) (d11 : a.tmps.getD 29 undef = .tuple #[u, .nilIface]) (b : OutsV w' u outsG) (hK : ∀ v w'', R3 gc 12 v w'' → Grow w' w'' → K (a.put (some 41) v) w'') : Oper.wp Tryz.prog { dst := some 41, op := Op.extract (Operand.tmp 29) 0, type := 31, pos := "law.go:321", after := #[{ on := 11, ground := Ground.data }], guard := none } a w' K Q := by
  have q11 := d11
  rw [Array.getD_eq_getD_getElem?] at q11
  unfold Oper.wp execOp
  go_simp
  exact hK _ _ b (Below.refl _ _)
set_option maxHeartbeats 2000000 in
set_option maxRecDepth 20000 in
theorem opF13 (gc : Nat) {a : Act} {w' : World} {K : Act → World → Prop} {Q : Exit → Act → World → Prop} (u : Value) (d11 : a.tmps.getD 29 undef = .tuple #[u, .nilIface]) (hK : ∀ v w'', R3 gc 13 v w'' → Grow w' w'' → K (a.put (some 42) v) w'') : Oper.wp Tryz.prog { dst := some 42, op := Op.extract (Operand.tmp 29) 1, type := 33, pos := "law.go:321", after := #[{ on := 11, ground := Ground.data }, { on := 14, ground := Ground.gcOnly Departure.lateStores }], guard := none } a w' K Q := by
  have q11 := d11
  rw [Array.getD_eq_getD_getElem?] at q11
  unfold Oper.wp execOp
  go_simp
  exact hK _ _ rfl (Below.refl _ _)
set_option maxHeartbeats 2000000 in
set_option maxRecDepth 20000 in
theorem opF14 (gc : Nat) {a : Act} {w' : World} {K : Act → World → Prop} {Q : Exit → Act → World → Prop} (u : Value) (d12 : a.tmps.getD 41 undef = u) (b : OutsV w' u outsG) (hK : ∀ v w'', R3 gc 14 v w'' → Grow w' w'' → K (a.put (some 9) v) w'') : Oper.wp Tryz.prog { dst := some 9, op := Op.assign (Operand.tmp 41), type := 31, pos := "law.go:321", after := #[{ on := 12, ground := Ground.data }, { on := 10, ground := Ground.chain }, { on := 0, ground := Ground.phase }, { on := 1, ground := Ground.phase }, { on := 2, ground := Ground.phase }, { on := 3, ground := Ground.phase }, { on := 4, ground := Ground.phase }, { on := 5, ground := Ground.phase }, { on := 6, ground := Ground.phase }, { on := 7, ground := Ground.phase }, { on := 8, ground := Ground.phase }, { on := 9, ground := Ground.phase }, { on := 10, ground := Ground.phase }, { on := 11, ground := Ground.phase }, { on := 12, ground := Ground.phase }, { on := 13, ground := Ground.textOnly Departure.lateStores }], guard := none } a w' K Q := by
  have q12 := d12
  rw [Array.getD_eq_getD_getElem?] at q12
  unfold Oper.wp execOp
  go_simp
  exact hK _ _ b (Below.refl _ _)
set_option maxHeartbeats 2000000 in
set_option maxRecDepth 20000 in
theorem opF15 (gc : Nat) {a : Act} {w' : World} {K : Act → World → Prop} {Q : Exit → Act → World → Prop} (d13 : a.tmps.getD 42 undef = .nilIface) (hK : ∀ v w'', R3 gc 15 v w'' → Grow w' w'' → K (a.put (some 10) v) w'') : Oper.wp Tryz.prog { dst := some 10, op := Op.assign (Operand.tmp 42), type := 33, pos := "law.go:321", after := #[{ on := 13, ground := Ground.data }, { on := 14, ground := Ground.chain }, { on := 0, ground := Ground.phase }, { on := 1, ground := Ground.phase }, { on := 2, ground := Ground.phase }, { on := 3, ground := Ground.phase }, { on := 4, ground := Ground.phase }, { on := 5, ground := Ground.phase }, { on := 6, ground := Ground.phase }, { on := 7, ground := Ground.phase }, { on := 8, ground := Ground.phase }, { on := 9, ground := Ground.phase }, { on := 10, ground := Ground.phase }, { on := 11, ground := Ground.phase }, { on := 12, ground := Ground.phase }, { on := 13, ground := Ground.phase }, { on := 14, ground := Ground.phase }], guard := none } a w' K Q := by
  have q13 := d13
  rw [Array.getD_eq_getD_getElem?] at q13
  unfold Oper.wp execOp
  go_simp
  exact hK _ _ rfl (Below.refl _ _)
theorem run_F (gc : Nat) {cp np : Option Addr} {rv : Value} (w' : World) (henv : KEnv w') (haenv : AEnv w') (het : EtAt w') (hc : Blk w' gc #[.string ⟨#[120]⟩, .int .i64 1] 30) (b3 : QyBe w' anyB qyG none 0 cp 1 np 1 none 0 none 0) (hr : RowsV w' rv rwsG) :
    Calls Tryz.prog 4 #[.agg (qyC qyG none 0 cp 1 np 1 none 0 none 0), .slice (some ⟨gc, 0, none⟩) 1 1, rv] w' fun e w'' => (∃ u, e = .returned (.tuple #[u, .nilIface]) ∧ OutsV w'' u outsG) ∧ Below w'.heap.size w' w'' := by
  refine (run_s qyG anyB (.slice (some ⟨gc, 0, none⟩) 1 1) rv zsG rwsG none 0 cp 1 np 1 none 0 none 0 w' henv haenv het b3 (cols_one hc (by decide)) qyA_G rfl ⟨exb_leaf (by simp [inB]), fun y hy => by rw [List.mem_singleton.1 hy]; exact exb_leaf (by simp [inB])⟩ hr 0 fact_E).mono ?_
  rintro e w'' ⟨⟨u, rfl, HO⟩, hb⟩
  have hO := HO.out
  rw [if_pos rfl, fact_O] at hO
  exact ⟨⟨u, rfl, hO⟩, hb⟩
set_option maxHeartbeats 4000000 in
set_option maxRecDepth 20000 in
/-- The drawn call of the law. -/
theorem call_F {id : Nat} {a0 : Act} {Q : Exit → Act → World → Prop} (w : World) (henv : KEnv w) (haenv : AEnv w) (het : EtAt w) (ops : Array Oper) (hops : ops = #[{ dst := some 30, op := Op.load 26 (Operand.tmp 8), type := 26, pos := "law.go:321", after := #[], guard := none }, { dst := some 31, op := Op.buildSlice 24 1 #[(0, Operand.tmp 30)], type := 24, pos := "law.go:321", after := #[{ on := 0, ground := Ground.data }], guard := none }, { dst := some 32, op := Op.buildSlice 36 1 #[(0, Operand.const (Value.string { data := #[121] }))], type := 36, pos := "law.go:321", after := #[], guard := none }, { dst := some 33, op := Op.build 39 #[(0, Operand.const (Value.string { data := #[116] })), (2, Operand.tmp 31), (3, Operand.tmp 32)], type := 39, pos := "law.go:321", after := #[{ on := 1, ground := Ground.data }, { on := 2, ground := Ground.data }], guard := none }, { dst := some 34, op := Op.move (Operand.tmp 7), type := 27, pos := "law.go:321", after := #[], guard := none }, { dst := some 35, op := Op.call { callee := Callee.value (Operand.func 5), args := #[Operand.const (Value.int IntKind.i64 3)], argTypes := #[3] }, type := 23, pos := "law.go:321", after := #[], guard := none }, { dst := some 36, op := Op.buildSlice 41 1 #[(0, Operand.tmp 35)], type := 41, pos := "law.go:321", after := #[{ on := 5, ground := Ground.data }], guard := none }, { dst := some 37, op := Op.call { callee := Callee.value (Operand.func 5), args := #[Operand.const (Value.int IntKind.i64 4)], argTypes := #[3] }, type := 23, pos := "law.go:321", after := #[{ on := 5, ground := Ground.chain }], guard := none }, { dst := some 38, op := Op.buildSlice 41 1 #[(0, Operand.tmp 37)], type := 41, pos := "law.go:321", after := #[{ on := 7, ground := Ground.data }], guard := none }, { dst := some 39, op := Op.buildSlice 28 2 #[(0, Operand.tmp 36), (1, Operand.tmp 38)], type := 28, pos := "law.go:321", after := #[{ on := 6, ground := Ground.data }, { on := 8, ground := Ground.data }], guard := none }, { dst := some 40, op := Op.call { callee := Callee.value (Operand.func 4), args := #[Operand.tmp 33, Operand.tmp 34, Operand.tmp 39], argTypes := #[39, 27, 28] }, type := 34, pos := "law.go:321", after := #[{ on := 3, ground := Ground.data }, { on := 4, ground := Ground.data }, { on := 9, ground := Ground.data }, { on := 7, ground := Ground.chain }], guard := none }, { dst := some 29, op := Op.move (Operand.tmp 40), type := 34, pos := "law.go:321", after := #[{ on := 10, ground := Ground.data }], guard := none }, { dst := some 41, op := Op.extract (Operand.tmp 29) 0, type := 31, pos := "law.go:321", after := #[{ on := 11, ground := Ground.data }], guard := none }, { dst := some 42, op := Op.extract (Operand.tmp 29) 1, type := 33, pos := "law.go:321", after := #[{ on := 11, ground := Ground.data }, { on := 14, ground := Ground.gcOnly Departure.lateStores }], guard := none }, { dst := some 9, op := Op.assign (Operand.tmp 41), type := 31, pos := "law.go:321", after := #[{ on := 12, ground := Ground.data }, { on := 10, ground := Ground.chain }, { on := 0, ground := Ground.phase }, { on := 1, ground := Ground.phase }, { on := 2, ground := Ground.phase }, { on := 3, ground := Ground.phase }, { on := 4, ground := Ground.phase }, { on := 5, ground := Ground.phase }, { on := 6, ground := Ground.phase }, { on := 7, ground := Ground.phase }, { on := 8, ground := Ground.phase }, { on := 9, ground := Ground.phase }, { on := 10, ground := Ground.phase }, { on := 11, ground := Ground.phase }, { on := 12, ground := Ground.phase }, { on := 13, ground := Ground.textOnly Departure.lateStores }], guard := none }, { dst := some 10, op := Op.assign (Operand.tmp 42), type := 33, pos := "law.go:321", after := #[{ on := 13, ground := Ground.data }, { on := 14, ground := Ground.chain }, { on := 0, ground := Ground.phase }, { on := 1, ground := Ground.phase }, { on := 2, ground := Ground.phase }, { on := 3, ground := Ground.phase }, { on := 4, ground := Ground.phase }, { on := 5, ground := Ground.phase }, { on := 6, ground := Ground.phase }, { on := 7, ground := Ground.phase }, { on := 8, ground := Ground.phase }, { on := 9, ground := Ground.phase }, { on := 10, ground := Ground.phase }, { on := 11, ground := Ground.phase }, { on := 12, ground := Ground.phase }, { on := 13, ground := Ground.phase }, { on := 14, ground := Ground.phase }], guard := none }]) (gx gc : Nat) (hsz : a0.tmps.size = 162) (h8 : a0.tmps.getD 8 undef = .pointer (some ⟨gx, 0, none⟩)) (h7 : a0.tmps.getD 7 undef = .slice (some ⟨gc, 0, none⟩) 1 1) (hx : Blk w gx (xC colX none 0) 26) (hc : Blk w gc #[.string ⟨#[120]⟩, .int .i64 1] 30)
    (hdone : ∀ (vs : Nat → Value) w', Grow w w' → OutsV w' (vs 14) outsG → vs 15 = .nilIface → Q .normal (putL vs ops.toList 0 a0) w') :
    (Code.region id ops true).wp Tryz.prog Q a0 w := by
  subst hops
  refine wp_region_of 162 (by kernel_rfl) hsz (by kernel_rfl) Grow (fun w => Below.refl _ w) grow_trans (R3 gc) (R3_on gc) ?_ ?_
  · intro i o ho a w' hle hdep hold K hK
    have hg : Grow w w' := grow_trans _ _ _ (Below.drew (Below.refl _ w)) hle
    have hi : i < 16 := (Array.getElem?_eq_some_iff.1 ho).1
    have e8 := hold 8 (by decide)
    have e7 := hold 7 (by decide)
    rw [h8] at e8
    rw [h7] at e7
    clear hold hdone
    have : i = 0 ∨ i = 1 ∨ i = 2 ∨ i = 3 ∨ i = 4 ∨ i = 5 ∨ i = 6 ∨ i = 7 ∨ i = 8 ∨ i = 9 ∨ i = 10 ∨ i = 11 ∨ i = 12 ∨ i = 13 ∨ i = 14 ∨ i = 15 := by omega
    rcases this with rfl | rfl | rfl | rfl | rfl | rfl | rfl | rfl | rfl | rfl | rfl | rfl | rfl | rfl | rfl | rfl
    all_goals (simp only [List.getElem?_toArray, List.getElem?_cons_zero, List.getElem?_cons_succ, Option.some.injEq] at ho; subst ho)
    · have HK : ∀ v w'', R3 gc 0 v w'' → Grow w' w'' → K (a.put (some 30) v) w'' := fun v w'' h h2 => hK v w'' (fun _ _ => h) h2
      clear hK
      exact opF0 gc gx e8 (hx.on hg) HK
    · have HK : ∀ v w'', R3 gc 1 v w'' → Grow w' w'' → K (a.put (some 31) v) w'' := fun v w'' h h2 => hK v w'' (fun _ _ => h) h2
      clear hK
      exact opF1 gc (hdep ⟨0, .data⟩ (by simp) rfl _ 30 rfl rfl) HK
    · have HK : ∀ v w'', R3 gc 2 v w'' → Grow w' w'' → K (a.put (some 32) v) w'' := fun v w'' h h2 => hK v w'' (fun _ _ => h) h2
      clear hK
      exact opF2 gc HK
    · have HK : ∀ v w'', R3 gc 3 v w'' → Grow w' w'' → K (a.put (some 33) v) w'' := fun v w'' h h2 => hK v w'' (fun _ _ => h) h2
      clear hK
      obtain ⟨g1, d1, b1⟩ : R3 gc 1 (a.tmps.getD 31 undef) w' := hdep ⟨1, .data⟩ (by simp) rfl _ 31 rfl rfl
      obtain ⟨g2, d2, b2⟩ : R3 gc 2 (a.tmps.getD 32 undef) w' := hdep ⟨2, .data⟩ (by simp) rfl _ 32 rfl rfl
      exact opF3 gc g1 g2 d1 d2 b1 b2 HK
    · have HK : ∀ v w'', R3 gc 4 v w'' → Grow w' w'' → K (a.put (some 34) v) w'' := fun v w'' h h2 => hK v w'' (fun _ _ => h) h2
      clear hK
      exact opF4 gc e7 HK
    · have HK : ∀ v w'', R3 gc 5 v w'' → Grow w' w'' → K (a.put (some 35) v) w'' := fun v w'' h h2 => hK v w'' (fun _ _ => h) h2
      clear hK
      exact opF5 gc HK
    · have HK : ∀ v w'', R3 gc 6 v w'' → Grow w' w'' → K (a.put (some 36) v) w'' := fun v w'' h h2 => hK v w'' (fun _ _ => h) h2
      clear hK
      exact opF6 gc (hdep ⟨5, .data⟩ (by simp) rfl _ 35 rfl rfl) HK
    · have HK : ∀ v w'', R3 gc 7 v w'' → Grow w' w'' → K (a.put (some 37) v) w'' := fun v w'' h h2 => hK v w'' (fun _ _ => h) h2
      clear hK
      exact opF7 gc HK
    · have HK : ∀ v w'', R3 gc 8 v w'' → Grow w' w'' → K (a.put (some 38) v) w'' := fun v w'' h h2 => hK v w'' (fun _ _ => h) h2
      clear hK
      exact opF8 gc (hdep ⟨7, .data⟩ (by simp) rfl _ 37 rfl rfl) HK
    · have HK : ∀ v w'', R3 gc 9 v w'' → Grow w' w'' → K (a.put (some 39) v) w'' := fun v w'' h h2 => hK v w'' (fun _ _ => h) h2
      clear hK
      obtain ⟨g1, d1, b1⟩ : R3 gc 6 (a.tmps.getD 36 undef) w' := hdep ⟨6, .data⟩ (by simp) rfl _ 36 rfl rfl
      obtain ⟨g2, d2, b2⟩ : R3 gc 8 (a.tmps.getD 38 undef) w' := hdep ⟨8, .data⟩ (by simp) rfl _ 38 rfl rfl
      exact opF9 gc g1 g2 d1 d2 b1 b2 HK
    · have HK : ∀ v w'', R3 gc 10 v w'' → Grow w' w'' → K (a.put (some 40) v) w'' := fun v w'' h h2 => hK v w'' (fun _ _ => h) h2
      clear hK
      obtain ⟨cp, np, d3, b3⟩ : R3 gc 3 (a.tmps.getD 33 undef) w' := hdep ⟨3, .data⟩ (by simp) rfl _ 33 rfl rfl
      exact opF10 gc _ _ d3 (hdep ⟨4, .data⟩ (by simp) rfl _ 34 rfl rfl) rfl (run_F gc w' (henv.on hg) (haenv.on hg) (het.on hg) (hc.on hg) b3 (hdep ⟨9, .data⟩ (by simp) rfl _ 39 rfl rfl)) HK
    · have HK : ∀ v w'', R3 gc 11 v w'' → Grow w' w'' → K (a.put (some 29) v) w'' := fun v w'' h h2 => hK v w'' (fun _ _ => h) h2
      clear hK
      obtain ⟨u, d, b⟩ : R3 gc 10 (a.tmps.getD 40 undef) w' := hdep ⟨10, .data⟩ (by simp) rfl _ 40 rfl rfl
      exact opF11 gc u d b HK
    · have HK : ∀ v w'', R3 gc 12 v w'' → Grow w' w'' → K (a.put (some 41) v) w'' := fun v w'' h h2 => hK v w'' (fun _ _ => h) h2
      clear hK
      obtain ⟨u, d, b⟩ : R3 gc 11 (a.tmps.getD 29 undef) w' := hdep ⟨11, .data⟩ (by simp) rfl _ 29 rfl rfl
      exact opF12 gc u d b HK
    · have HK : ∀ v w'', R3 gc 13 v w'' → Grow w' w'' → K (a.put (some 42) v) w'' := fun v w'' h h2 => hK v w'' (fun _ _ => h) h2
      clear hK
      obtain ⟨u, d, b⟩ : R3 gc 11 (a.tmps.getD 29 undef) w' := hdep ⟨11, .data⟩ (by simp) rfl _ 29 rfl rfl
      exact opF13 gc u d HK
    · have HK : ∀ v w'', R3 gc 14 v w'' → Grow w' w'' → K (a.put (some 9) v) w'' := fun v w'' h h2 => hK v w'' (fun _ _ => h) h2
      clear hK
      exact opF14 gc _ rfl (hdep ⟨12, .data⟩ (by simp) rfl _ 41 rfl rfl) HK
    · have HK : ∀ v w'', R3 gc 15 v w'' → Grow w' w'' → K (a.put (some 10) v) w'' := fun v w'' h h2 => hK v w'' (fun _ _ => h) h2
      clear hK
      exact opF15 gc (hdep ⟨13, .data⟩ (by simp) rfl _ 42 rfl rfl) HK
  · intro vs w' hle hv
    exact hdone vs w' (grow_trans _ _ _ (Below.drew (Below.refl _ w)) hle) (hv 14 _ 9 rfl rfl) (hv 15 _ 10 rfl rfl)
end Go.Proofs.YticdcnbeemkapaaGreatDoor
