/-
  The walk of sluicelaw1.KindTells, for every Op, types, expression and columns.
-/
import Derived.Test.YtomakklbfjkdpaaDoorRefOf
import Derived.Test.YtomakklbfjkdpaaDoorKdOps
namespace Go.Proofs.YtomakklbfjkdpaaDoor
open Go.RowKit Go.BigFrame
set_option linter.unusedVariables false

set_option maxHeartbeats 4000000 in
set_option maxRecDepth 20000 in
theorem tells_kind (op : ByteArray) (p : Option Addr) (c N : Nat) (ts : List Int) (x : Ex) (lo : Nat → Prop) (v vl : Value) (zs : List (ByteArray × Int)) (w : World) (henv : KEnv w) (hN : ts.length = N) (hl : N ≤ 9223372036854775807) (hts : IntsAt w p ts) (hx : ExIn w lo v x) (hsz : (x.pre 1).length ≤ 1048576) (hcv : ColsV w vl zs) :
    Calls Tryd.prog 3 #[.string op, .slice p N c, v, vl] w fun e' w' => e' = .returned (.bool true) ∧ Below w.heap.size w w' := by
  obtain ⟨o1, n1, t1, k1, s1, p1, m1, c1, a1, rfl⟩ := hx.agg
  have b0 : Below w.heap.size w (w.alloc (.cells #[.string o1, .string n1, .int .i64 t1, .int .i64 k1, .string s1, .slice p1 m1 c1, .int .i64 a1] 27)) := (Below.refl _ w).alloc (Nat.le_refl _) _
  have E0 : Hid (∀ W, Below (w.heap.size + 1) (w.alloc (.cells #[.string o1, .string n1, .int .i64 t1, .int .i64 k1, .string s1, .slice p1 m1 c1, .int .i64 a1] 27)) W → (∀ i, W.cell? ⟨w.heap.size, i, none⟩ = (#[.string o1, .string n1, .int .i64 t1, .int .i64 k1, .string s1, .slice p1 m1 c1, .int .i64 a1] : Array Value)[i]?) ∧ w.heap.size + 1 ≤ W.heap.size ∧ Below w.heap.size w W) := fun W hb => by
    obtain ⟨h1, _, h3⟩ := box_at w _ _ hb (Nat.lt_succ_self _)
    exact ⟨h1, h3, b0.trans (hb.mono (Nat.le_succ _))⟩
  obtain ⟨T, E, hru⟩ : ∃ T E, ruleP op.data.toList ts = (T, E) := ⟨_, _, rfl⟩
  obtain ⟨X, F, AT, hof⟩ : ∃ X F AT, ofP zs x = (X, F, AT) := ⟨_, _, _, rfl⟩
  have cR := fun W (hW : Below (w.heap.size + 1) (w.alloc (.cells #[.string o1, .string n1, .int .i64 t1, .int .i64 k1, .string s1, .slice p1 m1 c1, .int .i64 a1] 27)) W) => refRule_any op p c N ts W hN hl (hts.on (E0.out W hW).2.2) T E hru
  have cK := fun W (hW : Below (w.heap.size + 1) (w.alloc (.cells #[.string o1, .string n1, .int .i64 t1, .int .i64 k1, .string s1, .slice p1 m1 c1, .int .i64 a1] 27)) W) => rule_any op p c N ts W (henv.on (E0.out W hW).2.2).rules hN hl (hts.on (E0.out W hW).2.2) T E hru
  have cO := fun W (hW : Below (w.heap.size + 1) (w.alloc (.cells #[.string o1, .string n1, .int .i64 t1, .int .i64 k1, .string s1, .slice p1 m1 c1, .int .i64 a1] 27)) W) => kindOps_any W (henv.on (E0.out W hW).2.2).rules
  have cF := fun W (hb : Below w.heap.size w W) => refOf_any x lo _ vl zs W (hx.on hb) hsz (hcv.on hb) X F AT hof
  have cG := fun W (hb : Below w.heap.size w W) => of_any x lo _ vl zs W (henv.on hb) (hx.on hb) hsz (hcv.on hb) X F AT hof
  have HET : Aside (∀ W, Below w.heap.size w W → W.cell? ⟨1, 0, none⟩ = some (.iface 114 (.agg #[.pointer (some ⟨5, 32, none⟩)]))) := fun W hb => (henv.on hb).et
  have qT : (T == T) = true := by simp
  have qX : (X == X) = true := by simp
  have qF : (F == F) = true := by simp
  have qA : (AT == AT) = true := by simp
  clear henv hts hx hsz hcv hru hof hN
  by_cases hE : E = 0
  · subst hE
    rw [show errV 0 = .nilIface from rfl] at cK
    go_enter Tryd.func3, Tryd.ntmps3
    go_wp2_with fail
    refine (cR _ (Below.refl _ _)).mono ?_
    rintro e' w1 ⟨rfl, b1⟩
    have B1 : Below (w.heap.size + 1) (w.alloc (.cells #[.string o1, .string n1, .int .i64 t1, .int .i64 k1, .string s1, .slice p1 m1 c1, .int .i64 a1] 27)) w1 := b1.mono (by simp)
    go_wp2_with fail
    refine (cK w1 B1).mono ?_
    rintro e' w2 ⟨rfl, b2⟩
    have B2 : Below (w.heap.size + 1) (w.alloc (.cells #[.string o1, .string n1, .int .i64 t1, .int .i64 k1, .string s1, .slice p1 m1 c1, .int .i64 a1] 27)) w2 := B1.trans (b2.mono (E0.out w1 B1).2.1)
    clear cR cK b1 b2
    go_wp2_with fail
    refine (same_nil 0 w2).mono ?_
    rintro e' w3 ⟨rfl, rfl⟩
    rw [show ((0 : Int) == 0) = true from rfl]
    have B3 := B2
    have cO3 := cO _ B3
    go_wp2_with fail
    refine cO3.mono ?_
    rintro e' w4 ⟨⟨q4, c4, rfl, hs4⟩, b4⟩
    have B4 := B3.trans (b4.mono (E0.out _ B3).2.1)
    clear cO3 b4
    go_wp2_with fail
    refine (refOps_any w4).mono ?_
    rintro e' w5 ⟨⟨q5, c5, rfl, hs5⟩, b5⟩
    have B5 := B4.trans (b5.mono (E0.out _ B4).2.1)
    have cT := texts_same q4 q5 c4 c5 17 opsS w5 rfl (by decide) (hs4.out.on b5) hs5.out
    clear b5 hs4 hs5
    go_wp2_with fail
    refine cT.mono ?_
    rintro e' w6 ⟨rfl, b6⟩
    have B6 := B5.trans (b6.mono (E0.out _ B5).2.1)
    obtain ⟨hB, hl6, bw6⟩ := E0.out w6 B6
    have g0 : w6.cell? ⟨w.heap.size, 0, none⟩ = some (.string o1) := hB 0
    have g1 : w6.cell? ⟨w.heap.size, 1, none⟩ = some (.string n1) := hB 1
    have g2 : w6.cell? ⟨w.heap.size, 2, none⟩ = some (.int .i64 t1) := hB 2
    have g3 : w6.cell? ⟨w.heap.size, 3, none⟩ = some (.int .i64 k1) := hB 3
    have g4 : w6.cell? ⟨w.heap.size, 4, none⟩ = some (.string s1) := hB 4
    have g5 : w6.cell? ⟨w.heap.size, 5, none⟩ = some (.slice p1 m1 c1) := hB 5
    have g6 : w6.cell? ⟨w.heap.size, 6, none⟩ = some (.int .i64 a1) := hB 6
    have cF6 := cF w6 bw6
    clear cT b6 hB cO
    go_wp2_with fail
    refine cF6.mono ?_
    rintro e' w7 ⟨rfl, b7⟩
    have B7 := B6.trans (b7.mono hl6)
    obtain ⟨hB, hl7, bw7⟩ := E0.out w7 B7
    have j0 : w7.cell? ⟨w.heap.size, 0, none⟩ = some (.string o1) := hB 0
    have j1 : w7.cell? ⟨w.heap.size, 1, none⟩ = some (.string n1) := hB 1
    have j2 : w7.cell? ⟨w.heap.size, 2, none⟩ = some (.int .i64 t1) := hB 2
    have j3 : w7.cell? ⟨w.heap.size, 3, none⟩ = some (.int .i64 k1) := hB 3
    have j4 : w7.cell? ⟨w.heap.size, 4, none⟩ = some (.string s1) := hB 4
    have j5 : w7.cell? ⟨w.heap.size, 5, none⟩ = some (.slice p1 m1 c1) := hB 5
    have j6 : w7.cell? ⟨w.heap.size, 6, none⟩ = some (.int .i64 a1) := hB 6
    have cG7 := cG w7 bw7
    clear cF6 cF cG b7 hB g0 g1 g2 g3 g4 g5 g6
    go_wp2_with fail
    refine cG7.mono ?_
    rintro e' w8 ⟨rfl, b8⟩
    have bw8 : Below w.heap.size w w8 := bw7.trans (b8.mono bw7.size)
    clear cG7 b8 j0 j1 j2 j3 j4 j5 j6
    go_wp2
    go_ret
    exact ⟨rfl, bw8.alloc bw8.size _⟩
  · have cK' := cK
    clear cK
    have cK : ∀ W, Below (w.heap.size + 1) (w.alloc (.cells #[.string o1, .string n1, .int .i64 t1, .int .i64 k1, .string s1, .slice p1 m1 c1, .int .i64 a1] 27)) W → Calls Tryd.prog 7 #[.string op, .slice p N c] W fun e w' => e = .returned (.tuple #[.int .i64 T, .iface 41 (.int .i64 E)]) ∧ Below W.heap.size W w' := fun W hW => (cK' W hW).mono fun e w' h => by rw [errV, if_neg hE] at h; exact h
    clear cK' hE
    go_enter Tryd.func3, Tryd.ntmps3
    go_wp2_with fail
    refine (cR _ (Below.refl _ _)).mono ?_
    rintro e' w1 ⟨rfl, b1⟩
    have B1 : Below (w.heap.size + 1) (w.alloc (.cells #[.string o1, .string n1, .int .i64 t1, .int .i64 k1, .string s1, .slice p1 m1 c1, .int .i64 a1] 27)) w1 := b1.mono (by simp)
    go_wp2_with fail
    refine (cK w1 B1).mono ?_
    rintro e' w2 ⟨rfl, b2⟩
    have B2 : Below (w.heap.size + 1) (w.alloc (.cells #[.string o1, .string n1, .int .i64 t1, .int .i64 k1, .string s1, .slice p1 m1 c1, .int .i64 a1] 27)) w2 := B1.trans (b2.mono (E0.out w1 B1).2.1)
    clear cR cK b1 b2
    go_wp2_with fail
    refine (same_err E E w2 (HET.out w2 (E0.out w2 B2).2.2)).mono ?_
    rintro e' w3 ⟨rfl, b3⟩
    rw [show (E == E) = true by simp]
    have B3 : Below (w.heap.size + 1) (w.alloc (.cells #[.string o1, .string n1, .int .i64 t1, .int .i64 k1, .string s1, .slice p1 m1 c1, .int .i64 a1] 27)) w3 := B2.trans (b3.mono (E0.out w2 B2).2.1)
    clear b3
    have cO3 := cO _ B3
    go_wp2_with fail
    refine cO3.mono ?_
    rintro e' w4 ⟨⟨q4, c4, rfl, hs4⟩, b4⟩
    have B4 := B3.trans (b4.mono (E0.out _ B3).2.1)
    clear cO3 b4
    go_wp2_with fail
    refine (refOps_any w4).mono ?_
    rintro e' w5 ⟨⟨q5, c5, rfl, hs5⟩, b5⟩
    have B5 := B4.trans (b5.mono (E0.out _ B4).2.1)
    have cT := texts_same q4 q5 c4 c5 17 opsS w5 rfl (by decide) (hs4.out.on b5) hs5.out
    clear b5 hs4 hs5
    go_wp2_with fail
    refine cT.mono ?_
    rintro e' w6 ⟨rfl, b6⟩
    have B6 := B5.trans (b6.mono (E0.out _ B5).2.1)
    obtain ⟨hB, hl6, bw6⟩ := E0.out w6 B6
    have g0 : w6.cell? ⟨w.heap.size, 0, none⟩ = some (.string o1) := hB 0
    have g1 : w6.cell? ⟨w.heap.size, 1, none⟩ = some (.string n1) := hB 1
    have g2 : w6.cell? ⟨w.heap.size, 2, none⟩ = some (.int .i64 t1) := hB 2
    have g3 : w6.cell? ⟨w.heap.size, 3, none⟩ = some (.int .i64 k1) := hB 3
    have g4 : w6.cell? ⟨w.heap.size, 4, none⟩ = some (.string s1) := hB 4
    have g5 : w6.cell? ⟨w.heap.size, 5, none⟩ = some (.slice p1 m1 c1) := hB 5
    have g6 : w6.cell? ⟨w.heap.size, 6, none⟩ = some (.int .i64 a1) := hB 6
    have cF6 := cF w6 bw6
    clear cT b6 hB cO
    go_wp2_with fail
    refine cF6.mono ?_
    rintro e' w7 ⟨rfl, b7⟩
    have B7 := B6.trans (b7.mono hl6)
    obtain ⟨hB, hl7, bw7⟩ := E0.out w7 B7
    have j0 : w7.cell? ⟨w.heap.size, 0, none⟩ = some (.string o1) := hB 0
    have j1 : w7.cell? ⟨w.heap.size, 1, none⟩ = some (.string n1) := hB 1
    have j2 : w7.cell? ⟨w.heap.size, 2, none⟩ = some (.int .i64 t1) := hB 2
    have j3 : w7.cell? ⟨w.heap.size, 3, none⟩ = some (.int .i64 k1) := hB 3
    have j4 : w7.cell? ⟨w.heap.size, 4, none⟩ = some (.string s1) := hB 4
    have j5 : w7.cell? ⟨w.heap.size, 5, none⟩ = some (.slice p1 m1 c1) := hB 5
    have j6 : w7.cell? ⟨w.heap.size, 6, none⟩ = some (.int .i64 a1) := hB 6
    have cG7 := cG w7 bw7
    clear cF6 cF cG b7 hB g0 g1 g2 g3 g4 g5 g6
    go_wp2_with fail
    refine cG7.mono ?_
    rintro e' w8 ⟨rfl, b8⟩
    have bw8 : Below w.heap.size w w8 := bw7.trans (b8.mono bw7.size)
    clear cG7 b8 j0 j1 j2 j3 j4 j5 j6
    go_wp2
    go_ret
    exact ⟨rfl, bw8.alloc bw8.size _⟩
end Go.Proofs.YtomakklbfjkdpaaDoor
