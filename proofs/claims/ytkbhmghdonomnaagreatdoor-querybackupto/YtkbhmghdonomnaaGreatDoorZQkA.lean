/-
  The law QueryBack, walked. (Written by wip/gen_qkl.py.)
-/
import Derived.Test.YtkbhmghdonomnaaGreatDoorZQkP
namespace Go.Proofs.YtkbhmghdonomnaaGreatDoor
open Go.RowKit Go.BigFrame
set_option linter.unusedVariables false
set_option linter.unusedSimpArgs false

/-- A query and a fault, stored in boxes of their own. -/
structure StF (w3 : World) (PC : Array Value) (E : Int) (P : Nat) (W : World) : Prop where
  bel : Below w3.heap.size w3 W
  pc : Blk W w3.heap.size PC 30
  ft : Blk W (w3.heap.size + 1) #[.int .i64 E, .int .i64 (P : Nat)] 34
theorem StF.on {w3 W W' : World} {PC : Array Value} {E : Int} {P : Nat} (h : StF w3 PC E P W) (hb : Below W.heap.size W W') : StF w3 PC E P W' := ⟨h.bel.trans (hb.mono h.bel.size), h.pc.on hb, h.ft.on hb⟩
theorem store_facts (w3 : World) (PC : Array Value) (E : Int) (P : Nat) (H : PcO PC) : ∃ W9 : World, (∀ (ops : Array Oper) (rest : List Oper) (op : Oper) (a : Act) (Q : Exit → Act → World → Prop), op.guard = none → ∀ p y : Operand, op.op = .store 30 p y → a.eval p = .pointer (some ⟨w3.heap.size, 0, none⟩) → a.eval y = .agg PC → wpList Tryz.prog ops Q rest (a.put op.dst undef) W9 → wpList Tryz.prog ops Q (op :: rest) a ((w3.alloc (.cells q0D 30)).alloc (.cells #[.int .i64 0, .int .i64 0] 34))) ∧ W9.cell? ⟨w3.heap.size + 1, 0, none⟩ = some (.int .i64 0) ∧ W9.cell? ⟨w3.heap.size + 1, 1, none⟩ = some (.int .i64 0) ∧ W9.frozen? ⟨w3.heap.size + 1, 0, none⟩ = false ∧ W9.frozen? ⟨w3.heap.size + 1, 1, none⟩ = false ∧ w3.heap.size + 1 < W9.heap.size ∧ StF w3 PC E P ((W9.setCell ⟨w3.heap.size + 1, 0, none⟩ (.int .i64 E)).setCell ⟨w3.heap.size + 1, 1, none⟩ (.int .i64 (P : Nat))) := by
  have bV : Below w3.heap.size w3 ((w3.alloc (.cells q0D 30)).alloc (.cells #[.int .i64 0, .int .i64 0] 34)) := (al w3 _).alloc (by simp) _
  have XV : Blk ((w3.alloc (.cells q0D 30)).alloc (.cells #[.int .i64 0, .int .i64 0] 34)) w3.heap.size q0D 30 := (blk_alloc w3 _ _).on (al _ _)
  have YV : Blk ((w3.alloc (.cells q0D 30)).alloc (.cells #[.int .i64 0, .int .i64 0] 34)) (w3.heap.size + 1) #[.int .i64 0, .int .i64 0] 34 := by
    have := blk_alloc (w3.alloc (.cells q0D 30)) #[.int .i64 0, .int .i64 0] 34
    rwa [show (w3.alloc (.cells q0D 30)).heap.size = w3.heap.size + 1 by simp] at this
  have X9 := H.blk _ _ _ XV rfl
  have Y9 : Blk (((w3.alloc (.cells q0D 30)).alloc (.cells #[.int .i64 0, .int .i64 0] 34)).setCells w3.heap.size 0 PC.toList) (w3.heap.size + 1) #[.int .i64 0, .int .i64 0] 34 := YV.keep (cellsD_far _ _ _ _ (by omega))
  have b9 : Below w3.heap.size w3 (((w3.alloc (.cells q0D 30)).alloc (.cells #[.int .i64 0, .int .i64 0] 34)).setCells w3.heap.size 0 PC.toList) := belowD_cells (Nat.le_refl _) _ _ _ bV
  refine ⟨((w3.alloc (.cells q0D 30)).alloc (.cells #[.int .i64 0, .int .i64 0] 34)).setCells w3.heap.size 0 PC.toList, fun ops rest op a Q hg p y ho hx hy h => st14 XV rfl H.size H.one _ rfl hg p y ho hx hy h, Y9.cell 0, Y9.cell 1, Y9.frozen 0, Y9.frozen 1, Y9.lt, ⟨(b9.setCell (p := ⟨w3.heap.size + 1, 0, none⟩) (by simp) _).setCell (p := ⟨w3.heap.size + 1, 1, none⟩) (by simp) _, (X9.far (by omega) 0 _).far (by omega) 1 _, (Y9.set 0 _).set 1 _⟩⟩
/-- What the law's walk is told. -/
structure QkC (w : World) (s : ByteArray) (QC : Array Value) (vl : Value) (RL : List Cl) (RE : Int) (T1 : ByteArray) (K1 : Int) (E : Int) (P : Nat) (T2 : ByteArray) (K2 : Int) : Prop where
  fact : ∀ W, Below w.heap.size w W → Calls Tryz.prog 5 #[.string kS] W fun e w' => (∃ (PC : Array Value) (cp : Option Addr) (cc nb no nc : Nat), e = .returned (.tuple #[.agg PC, .agg #[.int .i64 0, .int .i64 0]]) ∧ Aside (PcO PC) ∧ Aside (PC[0]? = some (.string ⟨#[99]⟩) ∧ PC[1]? = some (.string ⟨#[62]⟩) ∧ PC[8]? = some (.slice cp 1 cc) ∧ PC[9]? = some (.slice (some ⟨nb, no, none⟩) 1 nc)) ∧ nb < w'.heap.size ∧ w'.cell? ⟨nb, no, none⟩ = some (.string ⟨#[98]⟩)) ∧ Below W.heap.size W w'
  print1 : ∀ W, Below w.heap.size w W → Calls Tryz.prog 6 #[.agg QC] W fun e w' => e = .returned (.tuple #[.string T1, errV K1]) ∧ Below W.heap.size W w'
  parse1 : K1 = 0 → ∀ W, Below w.heap.size w W → Calls Tryz.prog 5 #[.string T1] W fun e w' => (∃ PC : Array Value, e = .returned (.tuple #[.agg PC, .agg #[.int .i64 0, .int .i64 0]]) ∧ Aside (PcO PC) ∧ Aside (∀ V, Below w'.heap.size w' V → Calls Tryz.prog 7 #[.agg PC, .agg QC, .bool false] V fun e v' => e = .returned (.bool true) ∧ Below V.heap.size V v')) ∧ Below W.heap.size W w'
  check : ∀ W, Below w.heap.size w W → Calls Tryz.prog 8 #[.agg QC, vl] W fun e w' => (∃ u, e = .returned (.tuple #[u, errV RE]) ∧ Aside (ColsV w' u RL)) ∧ Below W.heap.size W w'
  schema : RE = 0 → ∀ W u, Below w.heap.size w W → ColsV W u RL → Calls Tryz.prog 9 #[u] W fun e w' => e = .returned .nilIface ∧ Below W.heap.size W w'
  parse2 : ∀ W, Below w.heap.size w W → Calls Tryz.prog 5 #[.string s] W fun e w' => (∃ PC : Array Value, e = .returned (.tuple #[.agg PC, .agg #[.int .i64 E, .int .i64 (P : Nat)]]) ∧ Aside (PcO PC) ∧ Aside (E = 0 → ∀ V, Below w'.heap.size w' V → Calls Tryz.prog 6 #[.agg PC] V fun e v' => e = .returned (.tuple #[.string T2, errV K2]) ∧ Below V.heap.size V v')
     ∧ Aside (E = 0 → K2 = 0 → ∀ V, Below w'.heap.size w' V → Calls Tryz.prog 5 #[.string T2] V fun e v' => (∃ PC3 : Array Value, e = .returned (.tuple #[.agg PC3, .agg #[.int .i64 0, .int .i64 0]]) ∧ Aside (PcO PC3) ∧ Aside (∀ U, Below v'.heap.size v' U → Calls Tryz.prog 7 #[.agg PC3, .agg PC, .bool false] U fun e u' => e = .returned (.bool true) ∧ Below U.heap.size U u')) ∧ Below V.heap.size V v')) ∧ Below W.heap.size W w'
  at_ : P ≤ s.size
  k2 : E = 0 → K2 ≠ 0 → 100 < s.size
  sz : s.size ≤ 1048576
end Go.Proofs.YtkbhmghdonomnaaGreatDoor
