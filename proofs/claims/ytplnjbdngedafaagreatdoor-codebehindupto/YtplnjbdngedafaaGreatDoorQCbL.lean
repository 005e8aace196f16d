/-
  The walk of CodeBehind: what is compiled runs on behind other code that leaves nothing. (Written by wip/gen_cbl.py.)
-/
import Derived.Test.YtplnjbdngedafaaGreatDoorGrAt
import Derived.Deep.RegionWith
import Derived.Deep.QuietTactic
import Derived.BigQuiet
namespace Go.Proofs.YtplnjbdngedafaaGreatDoor
open Go.RowKit
set_option linter.unusedVariables false

/-- So many numbers laid on and taken off. -/
def qP : Nat → List I5
  | 0 => []
  | n + 1 => qP n ++ [pushI (1, n, ⟨#[]⟩), dropI]
theorem qP_len : ∀ n, (qP n).length = 2 * n
  | 0 => rfl
  | n + 1 => by rw [qP, List.length_append, qP_len n]; simp; omega
/-- What is called, and what it gives. -/
structure CbC (w : World) (v vl vr : Value) (IS : List I5) (m : Nat) (T H P : Int) (V : V3) (M : Nat) (EV BV : Value) : Prop where
  env : KEnv w
  comp : ∀ W, Below w.heap.size w W → Calls Tryz.prog 5 #[v, vl] W fun e w' => (∃ u hh pp, e = .returned (.tuple #[u, .agg #[.int .i64 hh, .int .i64 pp]]) ∧ Aside (H = 0 → hh = 0 ∧ pp = 0 ∧ InsV w' u IS) ∧ Aside (H ≠ 0 → hh = H ∧ pp = P ∧ u = .slice none 0 0)) ∧ Below W.heap.size W w'
  typ : H = 0 → ∀ W u, Below w.heap.size w W → InsV W u IS → Calls Tryz.prog 7 #[u, vl] W fun e w' => e = .returned (.tuple #[.int .i64 T, .nilIface]) ∧ Below W.heap.size W w'
  typ2 : H = 0 → ∀ W u, Below w.heap.size w W → InsV W u (qP m ++ IS) → Calls Tryz.prog 7 #[u, vl] W fun e w' => e = .returned (.tuple #[.int .i64 T, .nilIface]) ∧ Below W.heap.size W w'
  eval : ∀ W, Below w.heap.size w W → Calls Tryz.prog 9 #[v, vl, vr] W fun e w' => e = .returned (.tuple #[.agg #[.int .i64 V.1, .int .i64 V.2.1, .string V.2.2], EV]) ∧ Below W.heap.size W w'
  run : H = 0 → ∀ W u, Below w.heap.size w W → InsV W u (qP m ++ IS) → Calls Tryz.prog 10 #[u, vl, vr, .int .i64 1000000] W fun e w' => e = .returned (.tuple #[.agg #[.int .i64 V.1, .int .i64 V.2.1, .string V.2.2], .int .i64 M, BV]) ∧ Below W.heap.size W w'
theorem boolB_eqT (b : Bool) (W : World) : Sem.run Tryz.prog (binOp .eql 4 (.bool b) (.bool b)) W = .ok (.bool true) W := by cases b <;> kernel_rfl
theorem box3B {X W : World} {t n : Int} {s : ByteArray} (hb : Below (X.heap.size + 1) (X.alloc (.cells #[.int .i64 t, .int .i64 n, .string s] 23)) W) : W.cell? ⟨X.heap.size, 0, none⟩ = some (.int .i64 t) ∧ W.cell? ⟨X.heap.size, 1, none⟩ = some (.int .i64 n) ∧ W.cell? ⟨X.heap.size, 2, none⟩ = some (.string s) ∧ X.heap.size < W.heap.size := by
  obtain ⟨k, f, h⟩ := box_at X _ _ hb (by simp)
  exact ⟨k 0, k 1, k 2, h⟩
theorem in_any (n : Int) (W : World) : Calls Tryz.prog 13 #[.int .i64 n] W fun e w' => e = .returned (.agg #[.int .i64 1, .int .i64 n, .string ⟨#[]⟩]) ∧ Below W.heap.size W w' := by
  go_enter Tryz.func13, Tryz.ntmps13
  go_wp2
  exact bodyPost_ret (v := .agg #[.int .i64 1, .int .i64 n, .string ⟨#[]⟩]) (by simp [results, Tryz.results13, go_sem]) rfl ⟨rfl, (Below.refl _ W).alloc (Nat.le_refl _) _⟩
set_option maxHeartbeats 8000000 in
set_option maxRecDepth 20000 in
theorem cb_bad (w : World) (o1 n1 : ByteArray) (t1 k1 : Int) (s1 : ByteArray) (p1 : Option Addr) (m1 c1 : Nat) (a1 : Int) (pz : Option Addr) (nz cz : Nat) (pr : Option Addr) (nr cr : Nat) (IS : List I5) (m : Nat) (T H P : Int) (V : V3) (M : Nat) (EV BV : Value) (n : Int) (hH : H ≠ 0)
    (h : CbC w (.agg #[.string o1, .string n1, .int .i64 t1, .int .i64 k1, .string s1, .slice p1 m1 c1, .int .i64 a1]) (.slice pz nz cz) (.slice pr nr cr) IS m T H P V M EV BV) :
    Calls Tryz.prog 4 #[.agg #[.string o1, .string n1, .int .i64 t1, .int .i64 k1, .string s1, .slice p1 m1 c1, .int .i64 a1], .slice pz nz cz, .slice pr nr cr, .int .i64 n] w fun e w' => e = .returned (.bool true) ∧ Below w.heap.size w w' := by
  have hHb : (H != 0) = true := by simpa using hH
  have HH : Hid (H ≠ 0) := hH
  clear hH
  have bE := alB w (.cells #[.string o1, .string n1, .int .i64 t1, .int .i64 k1, .string s1, .slice p1 m1 c1, .int .i64 a1] 26)
  have bC := bE.alloc (by simp) (.cells #[.string ⟨#[120]⟩, .int .i64 1] 30)
  have c0 := compileX_any colX (fun _ => True) _ _ [(⟨#[120]⟩, 1)] ((w.alloc (.cells #[.string o1, .string n1, .int .i64 t1, .int .i64 k1, .string s1, .slice p1 m1 c1, .int .i64 a1] 26)).alloc (.cells #[.string ⟨#[120]⟩, .int .i64 1] 30)) (h.env.on bC) (col_in _) col_pre (colOne (w.alloc (.cells #[.string o1, .string n1, .int .i64 t1, .int .i64 k1, .string s1, .slice p1 m1 c1, .int .i64 a1] 26)) (w.heap.size + 1) (by simp)) 1 0 0 col_of
  have cC := h.comp
  have E0 : Hid (∀ W, Below (w.heap.size + 1) (w.alloc (.cells #[.string o1, .string n1, .int .i64 t1, .int .i64 k1, .string s1, .slice p1 m1 c1, .int .i64 a1] 26)) W → (∀ i, W.cell? ⟨w.heap.size, i, none⟩ = (#[.string o1, .string n1, .int .i64 t1, .int .i64 k1, .string s1, .slice p1 m1 c1, .int .i64 a1] : Array Value)[i]?) ∧ w.heap.size < W.heap.size ∧ Below w.heap.size w W) := fun W hb => by
    obtain ⟨h1, _, h3⟩ := box_at w _ _ hb (Nat.lt_succ_self _)
    exact ⟨h1, h3, bE.trans (hb.mono (Nat.le_succ _))⟩
  clear h
  go_enter Tryz.func4, Tryz.ntmps4
  go_wp2_with fail
  refine c0.mono ?_
  rintro e w1 ⟨⟨u0, hh0, pp0, rfl, F0, -⟩, b1⟩
  obtain ⟨rfl, rfl, I0⟩ := F0.out trivial
  obtain ⟨fb, fo, fc, hu0, -⟩ := I0
  rw [col_len] at hu0
  subst hu0
  have Q1 : Below (w.heap.size + 1) (w.alloc (.cells #[.string o1, .string n1, .int .i64 t1, .int .i64 k1, .string s1, .slice p1 m1 c1, .int .i64 a1] 26)) w1 := ((Below.refl _ (w.alloc (.cells #[.string o1, .string n1, .int .i64 t1, .int .i64 k1, .string s1, .slice p1 m1 c1, .int .i64 a1] 26))).alloc (by simp) (.cells #[.string ⟨#[120]⟩, .int .i64 1] 30)).trans (b1.mono (by simp))
  obtain ⟨hCw1, hlw1, -⟩ := E0.out w1 Q1
  have a0w1 : w1.cell? ⟨w.heap.size, 0, none⟩ = some (.string o1) := hCw1 0
  have a1w1 : w1.cell? ⟨w.heap.size, 1, none⟩ = some (.string n1) := hCw1 1
  have a2w1 : w1.cell? ⟨w.heap.size, 2, none⟩ = some (.int .i64 t1) := hCw1 2
  have a3w1 : w1.cell? ⟨w.heap.size, 3, none⟩ = some (.int .i64 k1) := hCw1 3
  have a4w1 : w1.cell? ⟨w.heap.size, 4, none⟩ = some (.string s1) := hCw1 4
  have a5w1 : w1.cell? ⟨w.heap.size, 5, none⟩ = some (.slice p1 m1 c1) := hCw1 5
  have a6w1 : w1.cell? ⟨w.heap.size, 6, none⟩ = some (.int .i64 a1) := hCw1 6
  clear hCw1
  have Q2 := Q1.alloc hlw1 (.cells #[.int .i64 0, .int .i64 0] 34)
  have d1 := cC _ (E0.out _ Q2).2.2
  clear c0 F0 b1 bC cC
  go_wp2_with fail
  refine d1.mono ?_
  rintro e w2 ⟨⟨u, hh, pp, rfl, G1, G2⟩, b2⟩
  have Q3 := Q2.trans (b2.mono (by simp; omega))
  clear a0w1 a1w1 a2w1 a3w1 a4w1 a5w1 a6w1
  obtain ⟨hCw2, hlw2, -⟩ := E0.out w2 Q3
  have a0w2 : w2.cell? ⟨w.heap.size, 0, none⟩ = some (.string o1) := hCw2 0
  have a1w2 : w2.cell? ⟨w.heap.size, 1, none⟩ = some (.string n1) := hCw2 1
  have a2w2 : w2.cell? ⟨w.heap.size, 2, none⟩ = some (.int .i64 t1) := hCw2 2
  have a3w2 : w2.cell? ⟨w.heap.size, 3, none⟩ = some (.int .i64 k1) := hCw2 3
  have a4w2 : w2.cell? ⟨w.heap.size, 4, none⟩ = some (.string s1) := hCw2 4
  have a5w2 : w2.cell? ⟨w.heap.size, 5, none⟩ = some (.slice p1 m1 c1) := hCw2 5
  have a6w2 : w2.cell? ⟨w.heap.size, 6, none⟩ = some (.int .i64 a1) := hCw2 6
  clear hCw2
  have Q4 := Q3.alloc hlw2 (.cells #[.int .i64 hh, .int .i64 pp] 34)
  have B5 := (E0.out _ Q4).2.2
  obtain ⟨rfl, rfl, rfl⟩ := G2.out HH.out
  clear d1 G1 G2
  clear a0w2 a1w2 a2w2 a3w2 a4w2 a5w2 a6w2
  go_wp2
  go_ret
  exact ⟨rfl, B5⟩
set_option maxHeartbeats 8000000 in
set_option maxRecDepth 20000 in
theorem cb_out (w : World) (o1 n1 : ByteArray) (t1 k1 : Int) (s1 : ByteArray) (p1 : Option Addr) (m1 c1 : Nat) (a1 : Int) (pz : Option Addr) (nz cz : Nat) (pr : Option Addr) (nr cr : Nat) (IS : List I5) (P : Int) (n : Int) (hn : n < 0 ∨ 20 < n) (henv : KEnv w)
    (hcomp : ∀ W, Below w.heap.size w W → Calls Tryz.prog 5 #[.agg #[.string o1, .string n1, .int .i64 t1, .int .i64 k1, .string s1, .slice p1 m1 c1, .int .i64 a1], .slice pz nz cz] W fun e w' => (∃ u hh pp, e = .returned (.tuple #[u, .agg #[.int .i64 hh, .int .i64 pp]]) ∧ Aside ((0 : Int) = 0 → hh = 0 ∧ pp = 0 ∧ InsV w' u IS) ∧ Aside ((0 : Int) ≠ 0 → hh = 0 ∧ pp = P ∧ u = .slice none 0 0)) ∧ Below W.heap.size W w') :
    Calls Tryz.prog 4 #[.agg #[.string o1, .string n1, .int .i64 t1, .int .i64 k1, .string s1, .slice p1 m1 c1, .int .i64 a1], .slice pz nz cz, .slice pr nr cr, .int .i64 n] w fun e w' => e = .returned (.bool true) ∧ Below w.heap.size w w' := by
  have bE := alB w (.cells #[.string o1, .string n1, .int .i64 t1, .int .i64 k1, .string s1, .slice p1 m1 c1, .int .i64 a1] 26)
  have bC := bE.alloc (by simp) (.cells #[.string ⟨#[120]⟩, .int .i64 1] 30)
  have c0 := compileX_any colX (fun _ => True) _ _ [(⟨#[120]⟩, 1)] ((w.alloc (.cells #[.string o1, .string n1, .int .i64 t1, .int .i64 k1, .string s1, .slice p1 m1 c1, .int .i64 a1] 26)).alloc (.cells #[.string ⟨#[120]⟩, .int .i64 1] 30)) (henv.on bC) (col_in _) col_pre (colOne (w.alloc (.cells #[.string o1, .string n1, .int .i64 t1, .int .i64 k1, .string s1, .slice p1 m1 c1, .int .i64 a1] 26)) (w.heap.size + 1) (by simp)) 1 0 0 col_of
  have cC := hcomp
  have E0 : Hid (∀ W, Below (w.heap.size + 1) (w.alloc (.cells #[.string o1, .string n1, .int .i64 t1, .int .i64 k1, .string s1, .slice p1 m1 c1, .int .i64 a1] 26)) W → (∀ i, W.cell? ⟨w.heap.size, i, none⟩ = (#[.string o1, .string n1, .int .i64 t1, .int .i64 k1, .string s1, .slice p1 m1 c1, .int .i64 a1] : Array Value)[i]?) ∧ w.heap.size < W.heap.size ∧ Below w.heap.size w W) := fun W hb => by
    obtain ⟨h1, _, h3⟩ := box_at w _ _ hb (Nat.lt_succ_self _)
    exact ⟨h1, h3, bE.trans (hb.mono (Nat.le_succ _))⟩
  go_enter Tryz.func4, Tryz.ntmps4
  go_wp2_with fail
  refine c0.mono ?_
  rintro e w1 ⟨⟨u0, hh0, pp0, rfl, F0, -⟩, b1⟩
  obtain ⟨rfl, rfl, I0⟩ := F0.out trivial
  obtain ⟨fb, fo, fc, hu0, -⟩ := I0
  rw [col_len] at hu0
  subst hu0
  have Q1 : Below (w.heap.size + 1) (w.alloc (.cells #[.string o1, .string n1, .int .i64 t1, .int .i64 k1, .string s1, .slice p1 m1 c1, .int .i64 a1] 26)) w1 := ((Below.refl _ (w.alloc (.cells #[.string o1, .string n1, .int .i64 t1, .int .i64 k1, .string s1, .slice p1 m1 c1, .int .i64 a1] 26))).alloc (by simp) (.cells #[.string ⟨#[120]⟩, .int .i64 1] 30)).trans (b1.mono (by simp))
  obtain ⟨hCw1, hlw1, -⟩ := E0.out w1 Q1
  have a0w1 : w1.cell? ⟨w.heap.size, 0, none⟩ = some (.string o1) := hCw1 0
  have a1w1 : w1.cell? ⟨w.heap.size, 1, none⟩ = some (.string n1) := hCw1 1
  have a2w1 : w1.cell? ⟨w.heap.size, 2, none⟩ = some (.int .i64 t1) := hCw1 2
  have a3w1 : w1.cell? ⟨w.heap.size, 3, none⟩ = some (.int .i64 k1) := hCw1 3
  have a4w1 : w1.cell? ⟨w.heap.size, 4, none⟩ = some (.string s1) := hCw1 4
  have a5w1 : w1.cell? ⟨w.heap.size, 5, none⟩ = some (.slice p1 m1 c1) := hCw1 5
  have a6w1 : w1.cell? ⟨w.heap.size, 6, none⟩ = some (.int .i64 a1) := hCw1 6
  clear hCw1
  have Q2 := Q1.alloc hlw1 (.cells #[.int .i64 0, .int .i64 0] 34)
  have d1 := cC _ (E0.out _ Q2).2.2
  clear c0 F0 b1 bC cC
  go_wp2_with fail
  refine d1.mono ?_
  rintro e w2 ⟨⟨u, hh, pp, rfl, G1, G2⟩, b2⟩
  have Q3 := Q2.trans (b2.mono (by simp; omega))
  clear a0w1 a1w1 a2w1 a3w1 a4w1 a5w1 a6w1
  obtain ⟨hCw2, hlw2, -⟩ := E0.out w2 Q3
  have a0w2 : w2.cell? ⟨w.heap.size, 0, none⟩ = some (.string o1) := hCw2 0
  have a1w2 : w2.cell? ⟨w.heap.size, 1, none⟩ = some (.string n1) := hCw2 1
  have a2w2 : w2.cell? ⟨w.heap.size, 2, none⟩ = some (.int .i64 t1) := hCw2 2
  have a3w2 : w2.cell? ⟨w.heap.size, 3, none⟩ = some (.int .i64 k1) := hCw2 3
  have a4w2 : w2.cell? ⟨w.heap.size, 4, none⟩ = some (.string s1) := hCw2 4
  have a5w2 : w2.cell? ⟨w.heap.size, 5, none⟩ = some (.slice p1 m1 c1) := hCw2 5
  have a6w2 : w2.cell? ⟨w.heap.size, 6, none⟩ = some (.int .i64 a1) := hCw2 6
  clear hCw2
  have Q4 := Q3.alloc hlw2 (.cells #[.int .i64 hh, .int .i64 pp] 34)
  have B5 := (E0.out _ Q4).2.2
  obtain ⟨rfl, rfl, hI⟩ := G1.out trivial
  obtain ⟨ub, uo, uc, hu, -⟩ := id hI
  subst hu
  clear d1 G1 G2 hI
  clear a0w2 a1w2 a2w2 a3w2 a4w2 a5w2 a6w2
  rcases hn with hn | hn
  · go_wp2
    go_ret
    exact ⟨rfl, B5⟩
  · have hn0 : ¬ n < 0 := by omega
    go_wp2
    go_ret
    exact ⟨rfl, B5⟩
set_option maxHeartbeats 8000000 in
set_option maxRecDepth 20000 in
theorem cb_val (w : World) (o1 n1 : ByteArray) (t1 k1 : Int) (s1 : ByteArray) (p1 : Option Addr) (m1 c1 : Nat) (a1 : Int) (pz : Option Addr) (nz cz : Nat) (pr : Option Addr) (nr cr : Nat) (IS : List I5) (m : Nat) (T H P : Int) (V : V3) (M : Nat) (EV BV : Value) (hsz : IS.length ≤ 600) (hm : m ≤ 20)
    (h : CbC w (.agg #[.string o1, .string n1, .int .i64 t1, .int .i64 k1, .string s1, .slice p1 m1 c1, .int .i64 a1]) (.slice pz nz cz) (.slice pr nr cr) IS m T 0 P V M .nilIface .nilIface) :
    Calls Tryz.prog 4 #[.agg #[.string o1, .string n1, .int .i64 t1, .int .i64 k1, .string s1, .slice p1 m1 c1, .int .i64 a1], .slice pz nz cz, .slice pr nr cr, .int .i64 (m : Int)] w fun e w' => e = .returned (.bool true) ∧ Below w.heap.size w w' := by
  have bE := alB w (.cells #[.string o1, .string n1, .int .i64 t1, .int .i64 k1, .string s1, .slice p1 m1 c1, .int .i64 a1] 26)
  have bC := bE.alloc (by simp) (.cells #[.string ⟨#[120]⟩, .int .i64 1] 30)
  have c0 := compileX_any colX (fun _ => True) _ _ [(⟨#[120]⟩, 1)] ((w.alloc (.cells #[.string o1, .string n1, .int .i64 t1, .int .i64 k1, .string s1, .slice p1 m1 c1, .int .i64 a1] 26)).alloc (.cells #[.string ⟨#[120]⟩, .int .i64 1] 30)) (h.env.on bC) (col_in _) col_pre (colOne (w.alloc (.cells #[.string o1, .string n1, .int .i64 t1, .int .i64 k1, .string s1, .slice p1 m1 c1, .int .i64 a1] 26)) (w.heap.size + 1) (by simp)) 1 0 0 col_of
  have cC := h.comp
  have E0 : Hid (∀ W, Below (w.heap.size + 1) (w.alloc (.cells #[.string o1, .string n1, .int .i64 t1, .int .i64 k1, .string s1, .slice p1 m1 c1, .int .i64 a1] 26)) W → (∀ i, W.cell? ⟨w.heap.size, i, none⟩ = (#[.string o1, .string n1, .int .i64 t1, .int .i64 k1, .string s1, .slice p1 m1 c1, .int .i64 a1] : Array Value)[i]?) ∧ w.heap.size < W.heap.size ∧ Below w.heap.size w W) := fun W hb => by
    obtain ⟨h1, _, h3⟩ := box_at w _ _ hb (Nat.lt_succ_self _)
    exact ⟨h1, h3, bE.trans (hb.mono (Nat.le_succ _))⟩
  have cTy := h.typ rfl
  have cT2 := h.typ2 rfl
  have cEv := h.eval
  have cRn := h.run rfl
  clear h
  go_enter Tryz.func4, Tryz.ntmps4
  go_wp2_with fail
  refine c0.mono ?_
  rintro e w1 ⟨⟨u0, hh0, pp0, rfl, F0, -⟩, b1⟩
  obtain ⟨rfl, rfl, I0⟩ := F0.out trivial
  obtain ⟨fb, fo, fc, hu0, -⟩ := I0
  rw [col_len] at hu0
  subst hu0
  have Q1 : Below (w.heap.size + 1) (w.alloc (.cells #[.string o1, .string n1, .int .i64 t1, .int .i64 k1, .string s1, .slice p1 m1 c1, .int .i64 a1] 26)) w1 := ((Below.refl _ (w.alloc (.cells #[.string o1, .string n1, .int .i64 t1, .int .i64 k1, .string s1, .slice p1 m1 c1, .int .i64 a1] 26))).alloc (by simp) (.cells #[.string ⟨#[120]⟩, .int .i64 1] 30)).trans (b1.mono (by simp))
  obtain ⟨hCw1, hlw1, -⟩ := E0.out w1 Q1
  have a0w1 : w1.cell? ⟨w.heap.size, 0, none⟩ = some (.string o1) := hCw1 0
  have a1w1 : w1.cell? ⟨w.heap.size, 1, none⟩ = some (.string n1) := hCw1 1
  have a2w1 : w1.cell? ⟨w.heap.size, 2, none⟩ = some (.int .i64 t1) := hCw1 2
  have a3w1 : w1.cell? ⟨w.heap.size, 3, none⟩ = some (.int .i64 k1) := hCw1 3
  have a4w1 : w1.cell? ⟨w.heap.size, 4, none⟩ = some (.string s1) := hCw1 4
  have a5w1 : w1.cell? ⟨w.heap.size, 5, none⟩ = some (.slice p1 m1 c1) := hCw1 5
  have a6w1 : w1.cell? ⟨w.heap.size, 6, none⟩ = some (.int .i64 a1) := hCw1 6
  clear hCw1
  have Q2 := Q1.alloc hlw1 (.cells #[.int .i64 0, .int .i64 0] 34)
  have d1 := cC _ (E0.out _ Q2).2.2
  clear c0 F0 b1 bC cC
  go_wp2_with fail
  refine d1.mono ?_
  rintro e w2 ⟨⟨u, hh, pp, rfl, G1, G2⟩, b2⟩
  have Q3 := Q2.trans (b2.mono (by simp; omega))
  clear a0w1 a1w1 a2w1 a3w1 a4w1 a5w1 a6w1
  obtain ⟨hCw2, hlw2, -⟩ := E0.out w2 Q3
  have a0w2 : w2.cell? ⟨w.heap.size, 0, none⟩ = some (.string o1) := hCw2 0
  have a1w2 : w2.cell? ⟨w.heap.size, 1, none⟩ = some (.string n1) := hCw2 1
  have a2w2 : w2.cell? ⟨w.heap.size, 2, none⟩ = some (.int .i64 t1) := hCw2 2
  have a3w2 : w2.cell? ⟨w.heap.size, 3, none⟩ = some (.int .i64 k1) := hCw2 3
  have a4w2 : w2.cell? ⟨w.heap.size, 4, none⟩ = some (.string s1) := hCw2 4
  have a5w2 : w2.cell? ⟨w.heap.size, 5, none⟩ = some (.slice p1 m1 c1) := hCw2 5
  have a6w2 : w2.cell? ⟨w.heap.size, 6, none⟩ = some (.int .i64 a1) := hCw2 6
  clear hCw2
  have Q4 := Q3.alloc hlw2 (.cells #[.int .i64 hh, .int .i64 pp] 34)
  have B4 := (E0.out _ Q4).2.2
  obtain ⟨rfl, rfl, hI⟩ := G1.out trivial
  obtain ⟨ub, uo, uc, hu, hne, -⟩ := id hI
  obtain ⟨NL, hNL⟩ : ∃ NL, IS.length = NL := ⟨_, rfl⟩
  rw [hNL] at hu hsz
  subst hu
  have I2 : Aside (InsV w2 (.slice (some ⟨ub, uo, none⟩) NL uc) IS) := hI
  have HNL : Hid (IS.length = NL ∧ NL ≠ 0) := ⟨hNL, by omega⟩
  clear d1 G1 G2 hI hNL hne
  clear a0w2 a1w2 a2w2 a3w2 a4w2 a5w2 a6w2
  have hm0 : ¬ (m : Int) < 0 := by omega
  have hm2 : ¬ (20 : Int) < (m : Int) := by omega
  have HQ4 : Aside (Below (w.heap.size + 1) (w.alloc (.cells #[.string o1, .string n1, .int .i64 t1, .int .i64 k1, .string s1, .slice p1 m1 c1, .int .i64 a1] 26)) (w2.alloc (.cells #[.int .i64 0, .int .i64 0] 34))) := Q4
  have HB4 : Aside (Below w.heap.size w (w2.alloc (.cells #[.int .i64 0, .int .i64 0] 34))) := B4
  have Hlw : Hid (w.heap.size < w2.heap.size) := hlw2
  obtain ⟨i0, hii, hz0, hz1, hzz⟩ := info_parts info_ins
  clear b2 Q1 Q2 Q3 Q4 B4 bE hlw1 hlw2
  go_wp2
  go_loopg [14, 15] m (fun gg s14 s15 wr => ∃ (k : Nat) (q : Option Addr) (cp : Nat), s14 = .slice q (2 * k) cp ∧ s15 = .int .i64 k ∧ k ≤ m ∧ m - k ≤ gg ∧ Aside (wr.ownsRow (w2.heap.size + 1) 53 5 (.slice q (2 * k) cp) (2 * k) (insC (qP k))) ∧ Aside (Below (w2.heap.size + 1) (w2.alloc (.cells #[.int .i64 0, .int .i64 0] 34)) wr))
  case atStart => exact ⟨0, none, 0, rfl, rfl, Nat.zero_le _, by omega, (show Aside _ from World.ownsRow_nil _ _ _ _), (show Aside _ from Below.refl _ _)⟩
  case round =>
    obtain ⟨k, q, cp, rfl, rfl, hkm, hg, OW, BW⟩ := hrel
    have hsr : w2.heap.size + 1 ≤ wr.heap.size := by have := BW.out.size; simpa using this
    by_cases hlt : k < m
    · have hltz : (k : Int) < (m : Int) := by omega
      have HKL : Hid (k < m) := hlt
      clear hlt
      go_wp2_with fail
      refine (in_any k wr).mono ?_
      rintro e w3 ⟨rfl, b3⟩
      have hs3 : w2.heap.size + 1 ≤ w3.heap.size := by have := b3.size; omega
      have OW3 := lown_below OW.out b3
      have BW3 : Aside (Below (w2.heap.size + 1) (w2.alloc (.cells #[.int .i64 0, .int .i64 0] 34)) w3) := BW.out.trans (b3.mono hsr)
      clear OW BW b3
      go_wp2_with (at_builtin; refine wpList_append_own _ rfl _ _ 31 rfl (w2.heap.size + 1) 53 i0 _ 5 48 Tryz.underlying31 hii hz0 hz1 hzz rfl (by decide) _ _ _ rfl (OW3.alloc _) ⟨w3.heap.size, 0, none⟩ 1 1 (c5 (pushI (1, k, ⟨#[]⟩))) rfl rfl (news_one rfl (c5 (pushI (1, k, ⟨#[]⟩)))) (fun u hu => ins_one [pushI (1, k, ⟨#[]⟩)] u (by rw [insC, insC, List.append_nil]; exact hu)) (by unfold maxLen; omega) (by omega) (by simp; omega) ?_)
      intro v4 w4 o4 g4 _
      obtain ⟨q4, c4, rfl⟩ := lown_slice o4
      have hob : ∀ j, (Value.slice q (2 * k) cp).ownBlock = some j → w2.heap.size + 1 ≤ j := fun j hj => (OW3.lt j hj).1
      have b4 : Below (w2.heap.size + 1) w3 w4 := ((Below.refl _ _).alloc (by omega) _).grown g4 (by simp; omega) hob
      have hs4 : w2.heap.size + 1 ≤ w4.heap.size := by have := b4.size; omega
      have BW4 : Aside (Below (w2.heap.size + 1) (w2.alloc (.cells #[.int .i64 0, .int .i64 0] 34)) w4) := BW3.out.trans b4
      clear g4 OW3 hob b4 BW3
      go_wp2_with (at_builtin; refine wpList_append_own _ rfl _ _ 31 rfl (w2.heap.size + 1) 53 i0 _ 5 48 Tryz.underlying31 hii hz0 hz1 hzz rfl (by decide) _ _ _ rfl (o4.alloc _) ⟨w4.heap.size, 0, none⟩ 1 1 (c5 dropI) rfl rfl (news_one rfl (c5 dropI)) (fun u hu => ins_one [dropI] u (by rw [insC, insC, List.append_nil]; exact hu)) (by unfold maxLen; omega) (by omega) (by simp; omega) ?_)
      intro v5 w5 o5 g5 _
      obtain ⟨q5, c5', rfl⟩ := lown_slice o5
      have hob : ∀ j, (Value.slice q4 (2 * k + 1) c4).ownBlock = some j → w2.heap.size + 1 ≤ j := fun j hj => (o4.lt j hj).1
      have b5 : Below (w2.heap.size + 1) w4 w5 := ((Below.refl _ _).alloc (by omega) _).grown g5 (by simp; omega) hob
      have BW5 : Aside (Below (w2.heap.size + 1) (w2.alloc (.cells #[.int .i64 0, .int .i64 0] 34)) w5) := BW4.out.trans b5
      have O5 : Aside (w5.ownsRow (w2.heap.size + 1) 53 5 (.slice q5 (2 * (k + 1)) c5') (2 * (k + 1)) (insC (qP (k + 1)))) := by
        rw [qP, show [pushI (1, (k : Int), ⟨#[]⟩), dropI] = [pushI (1, (k : Int), ⟨#[]⟩)] ++ [dropI] from rfl, ← List.append_assoc, insC_append, insC_append, show insC [dropI] = c5 dropI from List.append_nil _, show insC [pushI (1, (k : Int), ⟨#[]⟩)] = c5 (pushI (1, (k : Int), ⟨#[]⟩)) from List.append_nil _, List.append_assoc]
        exact o5
      clear g5 o4 o5 hob b5 BW4
      go_wp2
      go_roundg (m - (k + 1))
      case measure => have := HKL.out; omega
      case rel => exact ⟨k + 1, q5, c5', rfl, by go_num, by have := HKL.out; omega, by omega, O5, BW5⟩
    · have hkz : ¬ (k : Int) < (m : Int) := by omega
      obtain rfl : k = m := by omega
      have W0 : Below (w2.heap.size + 1) (w2.alloc (.cells #[.int .i64 0, .int .i64 0] 34)) wr := BW.out
      have I3 : Aside (InsV wr (.slice (some ⟨ub, uo, none⟩) NL uc) IS) := (I2.out.on (alB w2 _)).on (W0.mono (by simp))
      have Q5 : Aside (Below (w.heap.size + 1) (w.alloc (.cells #[.string o1, .string n1, .int .i64 t1, .int .i64 k1, .string s1, .slice p1 m1 c1, .int .i64 a1] 26)) wr) := HQ4.out.trans (W0.mono (by have := Hlw.out; omega))
      have B5 : Aside (Below w.heap.size w wr) := HB4.out.trans (W0.mono (by have := Hlw.out; omega))
      have OW3 := OW.out
      have I2b := I2
      clear hm0 HQ4 HB4 I2 OW hg hkm
      go_wp2_with (at_builtin; refine wpList_append_ins rfl _ _ rfl (w2.heap.size + 1) _ _ (qP k) rfl OW3 _ IS rfl I3.out (by rw [HNL.out.1]; omega) hsr ?_)
      intro v4 w4 o4 b4 g4
      rw [HNL.out.1] at o4
      obtain ⟨q4, c4, rfl⟩ := lown_slice o4
      have J4 : Aside (InsV w4 (.slice q4 (2 * k + NL) c4) (qP k ++ IS)) := own_insV o4 (by rw [List.length_append, qP_len, HNL.out.1]) (by have := HNL.out.2; omega)
      have W4 := W0.trans b4
      have I4 : Aside (InsV w4 (.slice (some ⟨ub, uo, none⟩) NL uc) IS) := (I2b.out.on (alB w2 _)).on (W4.mono (by simp))
      have Q6 : Aside (Below (w.heap.size + 1) (w.alloc (.cells #[.string o1, .string n1, .int .i64 t1, .int .i64 k1, .string s1, .slice p1 m1 c1, .int .i64 a1] 26)) w4) := Q5.out.trans (b4.mono (by have := Hlw.out; omega))
      have B6 : Aside (Below w.heap.size w w4) := B5.out.trans (b4.mono (by have := Hlw.out; omega))
      have h12 : ¬ (1200 : Int) < (2 * (k : Int) + (NL : Int)) := by omega
      have h12' : ¬ (1200 : Int) < ((2 * k + NL : Nat) : Int) := by omega
      have d3 := cTy w4 _ B6.out I4.out
      clear o4 b4 g4 I3 W0 W4 OW3 BW I2b Q5 B5 cTy
      go_wp2_with fail
      refine d3.mono ?_
      rintro e w5 ⟨rfl, b5⟩
      have Q7 : Aside (Below (w.heap.size + 1) (w.alloc (.cells #[.string o1, .string n1, .int .i64 t1, .int .i64 k1, .string s1, .slice p1 m1 c1, .int .i64 a1] 26)) w5) := Q6.out.trans (b5.mono (E0.out _ Q6.out).2.1)
      have B7 : Aside (Below w.heap.size w w5) := B6.out.trans (b5.mono B6.out.size)
      have J5 : Aside (InsV w5 (.slice q4 (2 * k + NL) c4) (qP k ++ IS)) := J4.out.on b5
      have d4 := cT2 w5 _ B7.out J5.out
      clear d3 b5 Q6 B6 J4 I4 cT2
      go_wp2_with fail
      refine d4.mono ?_
      rintro e w6 ⟨rfl, b6⟩
      have Q8 : Aside (Below (w.heap.size + 1) (w.alloc (.cells #[.string o1, .string n1, .int .i64 t1, .int .i64 k1, .string s1, .slice p1 m1 c1, .int .i64 a1] 26)) w6) := Q7.out.trans (b6.mono (E0.out _ Q7.out).2.1)
      have B8 : Aside (Below w.heap.size w w6) := B7.out.trans (b6.mono B7.out.size)
      have J6 : Aside (InsV w6 (.slice q4 (2 * k + NL) c4) (qP k ++ IS)) := J5.out.on b6
      have d5 := cEv w6 B8.out
      obtain ⟨hCw6, hlw6, -⟩ := E0.out w6 Q8.out
      have a0w6 : w6.cell? ⟨w.heap.size, 0, none⟩ = some (.string o1) := hCw6 0
      have a1w6 : w6.cell? ⟨w.heap.size, 1, none⟩ = some (.string n1) := hCw6 1
      have a2w6 : w6.cell? ⟨w.heap.size, 2, none⟩ = some (.int .i64 t1) := hCw6 2
      have a3w6 : w6.cell? ⟨w.heap.size, 3, none⟩ = some (.int .i64 k1) := hCw6 3
      have a4w6 : w6.cell? ⟨w.heap.size, 4, none⟩ = some (.string s1) := hCw6 4
      have a5w6 : w6.cell? ⟨w.heap.size, 5, none⟩ = some (.slice p1 m1 c1) := hCw6 5
      have a6w6 : w6.cell? ⟨w.heap.size, 6, none⟩ = some (.int .i64 a1) := hCw6 6
      clear hCw6
      clear d4 b6 Q7 B7 J5 cEv
      go_wp2_with fail
      refine d5.mono ?_
      rintro e w7 ⟨rfl, b7⟩
      have B9 : Aside (Below w.heap.size w (w7.alloc (.cells #[.int .i64 V.1, .int .i64 V.2.1, .string V.2.2] 23))) := (B8.out.trans (b7.mono B8.out.size)).alloc (by have := B8.out.size; have := b7.size; omega) _
      have J7 : Aside (InsV (w7.alloc (.cells #[.int .i64 V.1, .int .i64 V.2.1, .string V.2.2] 23)) (.slice q4 (2 * k + NL) c4) (qP k ++ IS)) := (J6.out.on b7).on (alB _ _)
      have d6 := cRn (w7.alloc (.cells #[.int .i64 V.1, .int .i64 V.2.1, .string V.2.2] 23)) _ B9.out J7.out
      clear a0w6 a1w6 a2w6 a3w6 a4w6 a5w6 a6w6
      clear d5 b7 Q8 B8 J6 cRn J7
      go_wp2_with fail
      refine d6.mono ?_
      rintro e w8 ⟨rfl, b8⟩
      have B10 : Below w.heap.size w w8 := B9.out.trans (b8.mono B9.out.size)
      have hs8 : w7.heap.size + 1 ≤ w8.heap.size := by have := b8.size; simpa using this
      have Y8 : Below (w7.heap.size + 1) (w7.alloc (.cells #[.int .i64 V.1, .int .i64 V.2.1, .string V.2.2] 23)) (w8.alloc (.cells #[.int .i64 V.1, .int .i64 V.2.1, .string V.2.2] 23)) := (b8.mono (by simp)).alloc hs8 _
      have B11 : Below w.heap.size w (w8.alloc (.cells #[.int .i64 V.1, .int .i64 V.2.1, .string V.2.2] 23)) := B10.alloc B10.size _
      obtain ⟨y0, y1, y2, yl⟩ := box3B Y8
      have hveq := valV_eql V.1 V.2.1 V.2.2
      have hbT := boolB_eqT true
      have hbF := boolB_eqT false
      have qT : (T == T) = true := by simp
      clear d6 b8 Y8 B9 B10
      go_wp2
      go_quiet (fail)
      go_wp2
      go_ret
      exact ⟨rfl, by repeat (first | exact B11 | apply below_drewN | refine Below.drew ?_)⟩
set_option maxHeartbeats 8000000 in
set_option maxRecDepth 20000 in
theorem cb_err (w : World) (o1 n1 : ByteArray) (t1 k1 : Int) (s1 : ByteArray) (p1 : Option Addr) (m1 c1 : Nat) (a1 : Int) (pz : Option Addr) (nz cz : Nat) (pr : Option Addr) (nr cr : Nat) (IS : List I5) (m : Nat) (T H P : Int) (V : V3) (M : Nat) (EV BV : Value) (K L : Int) (hsz : IS.length ≤ 600) (hm : m ≤ 20)
    (h : CbC w (.agg #[.string o1, .string n1, .int .i64 t1, .int .i64 k1, .string s1, .slice p1 m1 c1, .int .i64 a1]) (.slice pz nz cz) (.slice pr nr cr) IS m T 0 P V M (.iface 32 (.int .i64 K)) (.iface 32 (.int .i64 L))) :
    Calls Tryz.prog 4 #[.agg #[.string o1, .string n1, .int .i64 t1, .int .i64 k1, .string s1, .slice p1 m1 c1, .int .i64 a1], .slice pz nz cz, .slice pr nr cr, .int .i64 (m : Int)] w fun e w' => e = .returned (.bool true) ∧ Below w.heap.size w w' := by
  have bE := alB w (.cells #[.string o1, .string n1, .int .i64 t1, .int .i64 k1, .string s1, .slice p1 m1 c1, .int .i64 a1] 26)
  have bC := bE.alloc (by simp) (.cells #[.string ⟨#[120]⟩, .int .i64 1] 30)
  have c0 := compileX_any colX (fun _ => True) _ _ [(⟨#[120]⟩, 1)] ((w.alloc (.cells #[.string o1, .string n1, .int .i64 t1, .int .i64 k1, .string s1, .slice p1 m1 c1, .int .i64 a1] 26)).alloc (.cells #[.string ⟨#[120]⟩, .int .i64 1] 30)) (h.env.on bC) (col_in _) col_pre (colOne (w.alloc (.cells #[.string o1, .string n1, .int .i64 t1, .int .i64 k1, .string s1, .slice p1 m1 c1, .int .i64 a1] 26)) (w.heap.size + 1) (by simp)) 1 0 0 col_of
  have cC := h.comp
  have E0 : Hid (∀ W, Below (w.heap.size + 1) (w.alloc (.cells #[.string o1, .string n1, .int .i64 t1, .int .i64 k1, .string s1, .slice p1 m1 c1, .int .i64 a1] 26)) W → (∀ i, W.cell? ⟨w.heap.size, i, none⟩ = (#[.string o1, .string n1, .int .i64 t1, .int .i64 k1, .string s1, .slice p1 m1 c1, .int .i64 a1] : Array Value)[i]?) ∧ w.heap.size < W.heap.size ∧ Below w.heap.size w W) := fun W hb => by
    obtain ⟨h1, _, h3⟩ := box_at w _ _ hb (Nat.lt_succ_self _)
    exact ⟨h1, h3, bE.trans (hb.mono (Nat.le_succ _))⟩
  have cTy := h.typ rfl
  have cT2 := h.typ2 rfl
  have cEv := h.eval
  have cRn := h.run rfl
  clear h
  go_enter Tryz.func4, Tryz.ntmps4
  go_wp2_with fail
  refine c0.mono ?_
  rintro e w1 ⟨⟨u0, hh0, pp0, rfl, F0, -⟩, b1⟩
  obtain ⟨rfl, rfl, I0⟩ := F0.out trivial
  obtain ⟨fb, fo, fc, hu0, -⟩ := I0
  rw [col_len] at hu0
  subst hu0
  have Q1 : Below (w.heap.size + 1) (w.alloc (.cells #[.string o1, .string n1, .int .i64 t1, .int .i64 k1, .string s1, .slice p1 m1 c1, .int .i64 a1] 26)) w1 := ((Below.refl _ (w.alloc (.cells #[.string o1, .string n1, .int .i64 t1, .int .i64 k1, .string s1, .slice p1 m1 c1, .int .i64 a1] 26))).alloc (by simp) (.cells #[.string ⟨#[120]⟩, .int .i64 1] 30)).trans (b1.mono (by simp))
  obtain ⟨hCw1, hlw1, -⟩ := E0.out w1 Q1
  have a0w1 : w1.cell? ⟨w.heap.size, 0, none⟩ = some (.string o1) := hCw1 0
  have a1w1 : w1.cell? ⟨w.heap.size, 1, none⟩ = some (.string n1) := hCw1 1
  have a2w1 : w1.cell? ⟨w.heap.size, 2, none⟩ = some (.int .i64 t1) := hCw1 2
  have a3w1 : w1.cell? ⟨w.heap.size, 3, none⟩ = some (.int .i64 k1) := hCw1 3
  have a4w1 : w1.cell? ⟨w.heap.size, 4, none⟩ = some (.string s1) := hCw1 4
  have a5w1 : w1.cell? ⟨w.heap.size, 5, none⟩ = some (.slice p1 m1 c1) := hCw1 5
  have a6w1 : w1.cell? ⟨w.heap.size, 6, none⟩ = some (.int .i64 a1) := hCw1 6
  clear hCw1
  have Q2 := Q1.alloc hlw1 (.cells #[.int .i64 0, .int .i64 0] 34)
  have d1 := cC _ (E0.out _ Q2).2.2
  clear c0 F0 b1 bC cC
  go_wp2_with fail
  refine d1.mono ?_
  rintro e w2 ⟨⟨u, hh, pp, rfl, G1, G2⟩, b2⟩
  have Q3 := Q2.trans (b2.mono (by simp; omega))
  clear a0w1 a1w1 a2w1 a3w1 a4w1 a5w1 a6w1
  obtain ⟨hCw2, hlw2, -⟩ := E0.out w2 Q3
  have a0w2 : w2.cell? ⟨w.heap.size, 0, none⟩ = some (.string o1) := hCw2 0
  have a1w2 : w2.cell? ⟨w.heap.size, 1, none⟩ = some (.string n1) := hCw2 1
  have a2w2 : w2.cell? ⟨w.heap.size, 2, none⟩ = some (.int .i64 t1) := hCw2 2
  have a3w2 : w2.cell? ⟨w.heap.size, 3, none⟩ = some (.int .i64 k1) := hCw2 3
  have a4w2 : w2.cell? ⟨w.heap.size, 4, none⟩ = some (.string s1) := hCw2 4
  have a5w2 : w2.cell? ⟨w.heap.size, 5, none⟩ = some (.slice p1 m1 c1) := hCw2 5
  have a6w2 : w2.cell? ⟨w.heap.size, 6, none⟩ = some (.int .i64 a1) := hCw2 6
  clear hCw2
  have Q4 := Q3.alloc hlw2 (.cells #[.int .i64 hh, .int .i64 pp] 34)
  have B4 := (E0.out _ Q4).2.2
  obtain ⟨rfl, rfl, hI⟩ := G1.out trivial
  obtain ⟨ub, uo, uc, hu, hne, -⟩ := id hI
  obtain ⟨NL, hNL⟩ : ∃ NL, IS.length = NL := ⟨_, rfl⟩
  rw [hNL] at hu hsz
  subst hu
  have I2 : Aside (InsV w2 (.slice (some ⟨ub, uo, none⟩) NL uc) IS) := hI
  have HNL : Hid (IS.length = NL ∧ NL ≠ 0) := ⟨hNL, by omega⟩
  clear d1 G1 G2 hI hNL hne
  clear a0w2 a1w2 a2w2 a3w2 a4w2 a5w2 a6w2
  have hm0 : ¬ (m : Int) < 0 := by omega
  have hm2 : ¬ (20 : Int) < (m : Int) := by omega
  have HQ4 : Aside (Below (w.heap.size + 1) (w.alloc (.cells #[.string o1, .string n1, .int .i64 t1, .int .i64 k1, .string s1, .slice p1 m1 c1, .int .i64 a1] 26)) (w2.alloc (.cells #[.int .i64 0, .int .i64 0] 34))) := Q4
  have HB4 : Aside (Below w.heap.size w (w2.alloc (.cells #[.int .i64 0, .int .i64 0] 34))) := B4
  have Hlw : Hid (w.heap.size < w2.heap.size) := hlw2
  obtain ⟨i0, hii, hz0, hz1, hzz⟩ := info_parts info_ins
  clear b2 Q1 Q2 Q3 Q4 B4 bE hlw1 hlw2
  go_wp2
  go_loopg [14, 15] m (fun gg s14 s15 wr => ∃ (k : Nat) (q : Option Addr) (cp : Nat), s14 = .slice q (2 * k) cp ∧ s15 = .int .i64 k ∧ k ≤ m ∧ m - k ≤ gg ∧ Aside (wr.ownsRow (w2.heap.size + 1) 53 5 (.slice q (2 * k) cp) (2 * k) (insC (qP k))) ∧ Aside (Below (w2.heap.size + 1) (w2.alloc (.cells #[.int .i64 0, .int .i64 0] 34)) wr))
  case atStart => exact ⟨0, none, 0, rfl, rfl, Nat.zero_le _, by omega, (show Aside _ from World.ownsRow_nil _ _ _ _), (show Aside _ from Below.refl _ _)⟩
  case round =>
    obtain ⟨k, q, cp, rfl, rfl, hkm, hg, OW, BW⟩ := hrel
    have hsr : w2.heap.size + 1 ≤ wr.heap.size := by have := BW.out.size; simpa using this
    by_cases hlt : k < m
    · have hltz : (k : Int) < (m : Int) := by omega
      have HKL : Hid (k < m) := hlt
      clear hlt
      go_wp2_with fail
      refine (in_any k wr).mono ?_
      rintro e w3 ⟨rfl, b3⟩
      have hs3 : w2.heap.size + 1 ≤ w3.heap.size := by have := b3.size; omega
      have OW3 := lown_below OW.out b3
      have BW3 : Aside (Below (w2.heap.size + 1) (w2.alloc (.cells #[.int .i64 0, .int .i64 0] 34)) w3) := BW.out.trans (b3.mono hsr)
      clear OW BW b3
      go_wp2_with (at_builtin; refine wpList_append_own _ rfl _ _ 31 rfl (w2.heap.size + 1) 53 i0 _ 5 48 Tryz.underlying31 hii hz0 hz1 hzz rfl (by decide) _ _ _ rfl (OW3.alloc _) ⟨w3.heap.size, 0, none⟩ 1 1 (c5 (pushI (1, k, ⟨#[]⟩))) rfl rfl (news_one rfl (c5 (pushI (1, k, ⟨#[]⟩)))) (fun u hu => ins_one [pushI (1, k, ⟨#[]⟩)] u (by rw [insC, insC, List.append_nil]; exact hu)) (by unfold maxLen; omega) (by omega) (by simp; omega) ?_)
      intro v4 w4 o4 g4 _
      obtain ⟨q4, c4, rfl⟩ := lown_slice o4
      have hob : ∀ j, (Value.slice q (2 * k) cp).ownBlock = some j → w2.heap.size + 1 ≤ j := fun j hj => (OW3.lt j hj).1
      have b4 : Below (w2.heap.size + 1) w3 w4 := ((Below.refl _ _).alloc (by omega) _).grown g4 (by simp; omega) hob
      have hs4 : w2.heap.size + 1 ≤ w4.heap.size := by have := b4.size; omega
      have BW4 : Aside (Below (w2.heap.size + 1) (w2.alloc (.cells #[.int .i64 0, .int .i64 0] 34)) w4) := BW3.out.trans b4
      clear g4 OW3 hob b4 BW3
      go_wp2_with (at_builtin; refine wpList_append_own _ rfl _ _ 31 rfl (w2.heap.size + 1) 53 i0 _ 5 48 Tryz.underlying31 hii hz0 hz1 hzz rfl (by decide) _ _ _ rfl (o4.alloc _) ⟨w4.heap.size, 0, none⟩ 1 1 (c5 dropI) rfl rfl (news_one rfl (c5 dropI)) (fun u hu => ins_one [dropI] u (by rw [insC, insC, List.append_nil]; exact hu)) (by unfold maxLen; omega) (by omega) (by simp; omega) ?_)
      intro v5 w5 o5 g5 _
      obtain ⟨q5, c5', rfl⟩ := lown_slice o5
      have hob : ∀ j, (Value.slice q4 (2 * k + 1) c4).ownBlock = some j → w2.heap.size + 1 ≤ j := fun j hj => (o4.lt j hj).1
      have b5 : Below (w2.heap.size + 1) w4 w5 := ((Below.refl _ _).alloc (by omega) _).grown g5 (by simp; omega) hob
      have BW5 : Aside (Below (w2.heap.size + 1) (w2.alloc (.cells #[.int .i64 0, .int .i64 0] 34)) w5) := BW4.out.trans b5
      have O5 : Aside (w5.ownsRow (w2.heap.size + 1) 53 5 (.slice q5 (2 * (k + 1)) c5') (2 * (k + 1)) (insC (qP (k + 1)))) := by
        rw [qP, show [pushI (1, (k : Int), ⟨#[]⟩), dropI] = [pushI (1, (k : Int), ⟨#[]⟩)] ++ [dropI] from rfl, ← List.append_assoc, insC_append, insC_append, show insC [dropI] = c5 dropI from List.append_nil _, show insC [pushI (1, (k : Int), ⟨#[]⟩)] = c5 (pushI (1, (k : Int), ⟨#[]⟩)) from List.append_nil _, List.append_assoc]
        exact o5
      clear g5 o4 o5 hob b5 BW4
      go_wp2
      go_roundg (m - (k + 1))
      case measure => have := HKL.out; omega
      case rel => exact ⟨k + 1, q5, c5', rfl, by go_num, by have := HKL.out; omega, by omega, O5, BW5⟩
    · have hkz : ¬ (k : Int) < (m : Int) := by omega
      obtain rfl : k = m := by omega
      have W0 : Below (w2.heap.size + 1) (w2.alloc (.cells #[.int .i64 0, .int .i64 0] 34)) wr := BW.out
      have I3 : Aside (InsV wr (.slice (some ⟨ub, uo, none⟩) NL uc) IS) := (I2.out.on (alB w2 _)).on (W0.mono (by simp))
      have Q5 : Aside (Below (w.heap.size + 1) (w.alloc (.cells #[.string o1, .string n1, .int .i64 t1, .int .i64 k1, .string s1, .slice p1 m1 c1, .int .i64 a1] 26)) wr) := HQ4.out.trans (W0.mono (by have := Hlw.out; omega))
      have B5 : Aside (Below w.heap.size w wr) := HB4.out.trans (W0.mono (by have := Hlw.out; omega))
      have OW3 := OW.out
      have I2b := I2
      clear hm0 HQ4 HB4 I2 OW hg hkm
      go_wp2_with (at_builtin; refine wpList_append_ins rfl _ _ rfl (w2.heap.size + 1) _ _ (qP k) rfl OW3 _ IS rfl I3.out (by rw [HNL.out.1]; omega) hsr ?_)
      intro v4 w4 o4 b4 g4
      rw [HNL.out.1] at o4
      obtain ⟨q4, c4, rfl⟩ := lown_slice o4
      have J4 : Aside (InsV w4 (.slice q4 (2 * k + NL) c4) (qP k ++ IS)) := own_insV o4 (by rw [List.length_append, qP_len, HNL.out.1]) (by have := HNL.out.2; omega)
      have W4 := W0.trans b4
      have I4 : Aside (InsV w4 (.slice (some ⟨ub, uo, none⟩) NL uc) IS) := (I2b.out.on (alB w2 _)).on (W4.mono (by simp))
      have Q6 : Aside (Below (w.heap.size + 1) (w.alloc (.cells #[.string o1, .string n1, .int .i64 t1, .int .i64 k1, .string s1, .slice p1 m1 c1, .int .i64 a1] 26)) w4) := Q5.out.trans (b4.mono (by have := Hlw.out; omega))
      have B6 : Aside (Below w.heap.size w w4) := B5.out.trans (b4.mono (by have := Hlw.out; omega))
      have h12 : ¬ (1200 : Int) < (2 * (k : Int) + (NL : Int)) := by omega
      have h12' : ¬ (1200 : Int) < ((2 * k + NL : Nat) : Int) := by omega
      have d3 := cTy w4 _ B6.out I4.out
      clear o4 b4 g4 I3 W0 W4 OW3 BW I2b Q5 B5 cTy
      go_wp2_with fail
      refine d3.mono ?_
      rintro e w5 ⟨rfl, b5⟩
      have Q7 : Aside (Below (w.heap.size + 1) (w.alloc (.cells #[.string o1, .string n1, .int .i64 t1, .int .i64 k1, .string s1, .slice p1 m1 c1, .int .i64 a1] 26)) w5) := Q6.out.trans (b5.mono (E0.out _ Q6.out).2.1)
      have B7 : Aside (Below w.heap.size w w5) := B6.out.trans (b5.mono B6.out.size)
      have J5 : Aside (InsV w5 (.slice q4 (2 * k + NL) c4) (qP k ++ IS)) := J4.out.on b5
      have d4 := cT2 w5 _ B7.out J5.out
      clear d3 b5 Q6 B6 J4 I4 cT2
      go_wp2_with fail
      refine d4.mono ?_
      rintro e w6 ⟨rfl, b6⟩
      have Q8 : Aside (Below (w.heap.size + 1) (w.alloc (.cells #[.string o1, .string n1, .int .i64 t1, .int .i64 k1, .string s1, .slice p1 m1 c1, .int .i64 a1] 26)) w6) := Q7.out.trans (b6.mono (E0.out _ Q7.out).2.1)
      have B8 : Aside (Below w.heap.size w w6) := B7.out.trans (b6.mono B7.out.size)
      have J6 : Aside (InsV w6 (.slice q4 (2 * k + NL) c4) (qP k ++ IS)) := J5.out.on b6
      have d5 := cEv w6 B8.out
      obtain ⟨hCw6, hlw6, -⟩ := E0.out w6 Q8.out
      have a0w6 : w6.cell? ⟨w.heap.size, 0, none⟩ = some (.string o1) := hCw6 0
      have a1w6 : w6.cell? ⟨w.heap.size, 1, none⟩ = some (.string n1) := hCw6 1
      have a2w6 : w6.cell? ⟨w.heap.size, 2, none⟩ = some (.int .i64 t1) := hCw6 2
      have a3w6 : w6.cell? ⟨w.heap.size, 3, none⟩ = some (.int .i64 k1) := hCw6 3
      have a4w6 : w6.cell? ⟨w.heap.size, 4, none⟩ = some (.string s1) := hCw6 4
      have a5w6 : w6.cell? ⟨w.heap.size, 5, none⟩ = some (.slice p1 m1 c1) := hCw6 5
      have a6w6 : w6.cell? ⟨w.heap.size, 6, none⟩ = some (.int .i64 a1) := hCw6 6
      clear hCw6
      clear d4 b6 Q7 B7 J5 cEv
      go_wp2_with fail
      refine d5.mono ?_
      rintro e w7 ⟨rfl, b7⟩
      have B9 : Aside (Below w.heap.size w (w7.alloc (.cells #[.int .i64 V.1, .int .i64 V.2.1, .string V.2.2] 23))) := (B8.out.trans (b7.mono B8.out.size)).alloc (by have := B8.out.size; have := b7.size; omega) _
      have J7 : Aside (InsV (w7.alloc (.cells #[.int .i64 V.1, .int .i64 V.2.1, .string V.2.2] 23)) (.slice q4 (2 * k + NL) c4) (qP k ++ IS)) := (J6.out.on b7).on (alB _ _)
      have d6 := cRn (w7.alloc (.cells #[.int .i64 V.1, .int .i64 V.2.1, .string V.2.2] 23)) _ B9.out J7.out
      clear a0w6 a1w6 a2w6 a3w6 a4w6 a5w6 a6w6
      clear d5 b7 Q8 B8 J6 cRn J7
      go_wp2_with fail
      refine d6.mono ?_
      rintro e w8 ⟨rfl, b8⟩
      have B10 : Below w.heap.size w w8 := B9.out.trans (b8.mono B9.out.size)
      have hs8 : w7.heap.size + 1 ≤ w8.heap.size := by have := b8.size; simpa using this
      have Y8 : Below (w7.heap.size + 1) (w7.alloc (.cells #[.int .i64 V.1, .int .i64 V.2.1, .string V.2.2] 23)) (w8.alloc (.cells #[.int .i64 V.1, .int .i64 V.2.1, .string V.2.2] 23)) := (b8.mono (by simp)).alloc hs8 _
      have B11 : Below w.heap.size w (w8.alloc (.cells #[.int .i64 V.1, .int .i64 V.2.1, .string V.2.2] 23)) := B10.alloc B10.size _
      obtain ⟨y0, y1, y2, yl⟩ := box3B Y8
      have hveq := valV_eql V.1 V.2.1 V.2.2
      have hbT := boolB_eqT true
      have hbF := boolB_eqT false
      have qT : (T == T) = true := by simp
      clear d6 b8 Y8 B9 B10
      go_wp2
      go_quiet (fail)
      go_wp2
      go_ret
      exact ⟨rfl, by repeat (first | exact B11 | apply below_drewN | refine Below.drew ?_)⟩
end Go.Proofs.YtplnjbdngedafaaGreatDoor
