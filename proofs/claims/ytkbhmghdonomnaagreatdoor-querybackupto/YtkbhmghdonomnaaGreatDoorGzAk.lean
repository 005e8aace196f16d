/-
  KdOf, ColV, KdOfB, WdP, QyP, TreePl, in one text.
-/
import Derived.Test.YtkbhmghdonomnaaGreatDoorZKdTy
import Derived.Test.YtkbhmghdonomnaaGreatDoorGzAh
import Derived.Test.YtkbhmghdonomnaaGreatDoorGzAa
import Derived.Test.YtkbhmghdonomnaaGreatDoorProg
import Derived.RowKit
import Derived.Test.YtkbhmghdonomnaaGreatDoorGzAg
import Derived.Test.YtkbhmghdonomnaaGreatDoorGzAd
namespace Go.Proofs.YtkbhmghdonomnaaGreatDoor
open Go.RowKit Go.BigFrame
set_option linter.unusedVariables false
theorem fold_ck : ∀ (l : List (Ex × Nat)) (s : Int), s = 0 → (foldP fck s l).1 = 0 → ∀ q ∈ l, nodeE q.1 = 0
 | [], _, _, _, q, hq => absurd hq (by simp)
 | p :: r, s, hs, h, q, hq => by
  rw [foldP] at h
  by_cases h0 : nodeE p.1 = 0
  ·have h1 : (fck s p.1 p.2).2 = true := by rw [fck]; simpa using h0
   rw [if_pos h1] at h
   rcases List.mem_cons.1 hq with rfl | hq
   ·exact h0
   ·exact fold_ck r _ (by rw [fck]; exact h0) h q hq
  ·have h1 : ¬ (fck s p.1 p.2).2 = true := by rw [fck]; simpa using h0
   rw [if_neg h1] at h
   exact absurd h h0
theorem fold_ck' : ∀ (l : List (Ex × Nat)) (s : Int), s = 0 → (∀ q ∈ l, nodeE q.1 = 0) → (foldP fck s l).1 = 0
 | [], s, hs, _ => hs
 | p :: r, s, hs, h => by
  have h0 := h p (List.mem_cons_self ..)
  have h1 : (fck s p.1 p.2).2 = true := by rw [fck]; simpa using h0
  rw [foldP, if_pos h1]
  exact fold_ck' r _ (by rw [fck]; exact h0) fun q hq => h q (List.mem_cons_of_mem _ hq)
theorem fold_tg : ∀ (l : List (Ex × Nat)) (s : Nat), (foldP ftg s l).2 = true ↔ (l = [] ∨ s + l.length ≤ 200) ∧ ∀ q ∈ l, q.2 ≤ 30
 | [], s => by simp [foldP]
 | p :: r, s => by
  rw [foldP]
  by_cases h : (ftg s p.1 p.2).2 = true
  ·rw [if_pos h, fold_tg r]
   rw [ftg] at h ⊢
   simp at h ⊢
   constructor
   ·rintro ⟨h1, h2⟩
    refine ⟨?_, h.2, h2⟩
    rcases h1 with rfl | h1
    ·simp; omega
    ·omega
   ·rintro ⟨h1, h2, h3⟩
    exact ⟨.inr (by omega), h3⟩
  ·rw [if_neg h]
   rw [ftg] at h
   simp at h ⊢
   intro h1 h2
   have := h (by omega)
   omega
theorem pre_shift : ∀ (x : Ex) (d : Nat), x.pre (d + 1) = (x.pre d).map fun q => (q.1, q.2 + 1) := by
 refine Ex.ind fun op nm vt vn vs pos l ih d => ?_
 rw [Ex.pre, Ex.pre, List.map_cons]
 congr 1
 induction l with
 | nil => rfl
 | cons y ys ihl =>
  rw [Ex.pres, Ex.pres, List.map_append, ih y (List.mem_cons_self ..) (d + 1), ihl fun z hz => ih z (List.mem_cons_of_mem _ hz)]
theorem ckP_zero {x : Ex} (h : ckP x = 0) : tgB x = false ∧ ∀ q ∈ x.pre 1, nodeE q.1 = 0 := by
 rw [ckP] at h
 cases ht : tgB x
 ·rw [ht, if_neg (by simp)] at h
  exact ⟨rfl, fold_ck _ 0 rfl h⟩
 ·rw [ht, if_pos rfl] at h
  exact absurd h (by decide)
theorem apL_le (x : List UInt8) : (apL x opsL).2 = true → (apL x opsL).1 ≤ 3 ∧ 0 ≤ (apL x opsL).1 := by
 have h : ∀ l : List (List UInt8 × Int), (∀ o ∈ l, o.2 ≤ 3 ∧ 0 ≤ o.2) → (apL x l).2 = true → (apL x l).1 ≤ 3 ∧ 0 ≤ (apL x l).1 := fun l => by
  induction l with
  | nil => intro _ h; simp [apL] at h
  | cons o os ih =>
   intro ho
   rw [apL]
   split
   ·exact fun _ => ho o (List.mem_cons_self ..)
   ·exact ih fun q hq => ho q (List.mem_cons_of_mem _ hq)
 exact h opsL (by decide)
theorem node_ok {x : Ex} (h : nodeE x = 0) : (apL x.op.data.toList opsL).2 = true ∧ (x.args.length : Int) = (apL x.op.data.toList opsL).1 ∧ ((x.op.toList == [118, 97, 108]) = true → ckV x.vt x.vn x.vs.data.toList = 0) := by
 rw [nodeE, nodeB] at h
 split at h
 ·exact absurd h (by decide)
 ·rename_i h1
  split at h
  ·exact absurd h (by decide)
  ·rename_i h2
   simp at h1 h2
   refine ⟨h1.1, ?_, fun hv => ?_⟩
   ·have := h2.1
    simpa using this
   ·rwa [if_pos hv] at h
theorem ck_small {x : Ex} (h : ckP x = 0) : ∀ q ∈ x.pre 1, q.1.args.length ≤ 3 := fun q hq => by
 obtain ⟨h1, h2, _⟩ := node_ok ((ckP_zero h).2 q hq)
 have := apL_le _ h1
 omega
end Go.Proofs.YtkbhmghdonomnaaGreatDoor
namespace Go.Proofs.YtkbhmghdonomnaaGreatDoor
open Go.RowKit
set_option linter.unusedVariables false
def ColsV (w : World) (v : Value) (zs : List (ByteArray × Int)) : Prop := ∃ q c, v = .slice q zs.length c ∧ (zs.length = 0 ∨ ∃ b off, q = some ⟨b, off, none⟩ ∧ zs.length ≤ c ∧ (∀ z ∈ zs, z.1.size ≤ maxLen) ∧ ColsIn w b off zs)
theorem ColsV.on {w w' : World} {v : Value} {zs : List (ByteArray × Int)} (h : ColsV w v zs) (hb : Below w.heap.size w w') : ColsV w' v zs := by
 obtain ⟨q, c, e, h⟩ := h
 refine ⟨q, c, e, ?_⟩
 rcases h with h | ⟨b, off, e2, h1, h2, h3⟩
 ·exact .inl h
 ·exact .inr ⟨b, off, e2, h1, h2, h3.on hb⟩
theorem schemaV (v : Value) (zs : List (ByteArray × Int)) (w : World) (hw : TW w) (h : ColsV w v zs) : Calls Tryz.prog 9 #[v] w fun e w' => e = .returned (errV (schE zs)) ∧ Below w.heap.size w w' := by
 obtain ⟨q, c, rfl, h⟩ := h
 rcases h with h | ⟨b, off, rfl, h1, h2, h3⟩
 ·rw [h, schE, if_pos h]
  exact (schema_none q c w).mono fun e w' hh => ⟨hh.1, by rw [hh.2]; exact Below.refl _ _⟩
 ·exact schema_any b off c zs w hw h1 h2 h3
end Go.Proofs.YtkbhmghdonomnaaGreatDoor
namespace Go.Proofs.YtkbhmghdonomnaaGreatDoor
open Go.RowKit Go.BigFrame
set_option linter.unusedVariables false
def ofP (zs : List (ByteArray × Int)) (x : Ex) : Int × Int × Int := if ckP x ≠ 0 then (0, ckP x, 0) else if schE zs ≠ 0 then (0, schE zs, 0) else tyP zs x
set_option maxHeartbeats 4000000 in
set_option maxRecDepth 20000 in
theorem of_any (x : Ex) (lo : Nat → Prop) (v vl : Value) (zs : List (ByteArray × Int)) (w : World) (henv : KEnv w) (hx : ExIn w lo v x) (hsz : (x.pre 1).length ≤ 1048576) (hcv : ColsV w vl zs) (T H P : Int) (hR : ofP zs x = (T, H, P)) :
  Calls Tryz.prog 89 #[v, vl] w fun e w' => e = .returned (.tuple #[.int .i64 T, .agg #[.int .i64 H, .int .i64 P]]) ∧ Below w.heap.size w w' := by
 obtain ⟨o1, n1, t1, k1, s1, p1, m1, c1, a1, rfl⟩ := hx.agg
 obtain ⟨q, c, hvl, hcols⟩ := id hcv
 have b1 : Below w.heap.size w ((w.alloc (.cells #[.string o1, .string n1, .int .i64 t1, .int .i64 k1, .string s1, .slice p1 m1 c1, .int .i64 a1] 26)).alloc (.cells #[.int .i64 0, .int .i64 0] 34)) := ((Below.refl _ w).alloc (Nat.le_refl _) _).alloc (by simp) _
 have key : ∀ w1, Below ((w.alloc (.cells #[.string o1, .string n1, .int .i64 t1, .int .i64 k1, .string s1, .slice p1 m1 c1, .int .i64 a1] 26)).alloc (.cells #[.int .i64 0, .int .i64 0] 34)).heap.size ((w.alloc (.cells #[.string o1, .string n1, .int .i64 t1, .int .i64 k1, .string s1, .slice p1 m1 c1, .int .i64 a1] 26)).alloc (.cells #[.int .i64 0, .int .i64 0] 34)) w1 → (∀ i, w1.cell? ⟨w.heap.size, i, none⟩ = (#[.string o1, .string n1, .int .i64 t1, .int .i64 k1, .string s1, .slice p1 m1 c1, .int .i64 a1] : Array Value)[i]?) ∧ w1.cell? ⟨w.heap.size + 1, 0, none⟩ = some (.int .i64 0) ∧ w1.cell? ⟨w.heap.size + 1, 1, none⟩ = some (.int .i64 0) ∧ (∀ o, w1.frozen? ⟨w.heap.size + 1, o, none⟩ = false) ∧ w.heap.size + 1 < w1.heap.size := fun w1 b2 => by
  have hz := b2.size
  simp at hz
  refine ⟨fun i => ?_, ?_, ?_, fun o => ?_, by omega⟩
  ·rw [b2.cell (p := ⟨w.heap.size, i, none⟩) (by simp; omega), World.cell?_alloc_lt _ _ _ (by simp), World.cell?_alloc_at _ _ _ _ rfl]
  ·rw [b2.cell (p := ⟨w.heap.size + 1, 0, none⟩) (by simp), World.cell?_alloc_at _ _ _ _ (by simp)]; rfl
  ·rw [b2.cell (p := ⟨w.heap.size + 1, 1, none⟩) (by simp), World.cell?_alloc_at _ _ _ _ (by simp)]; rfl
  ·rw [b2.frozen (p := ⟨w.heap.size + 1, o, none⟩) (by simp), World.frozen?_alloc_at _ _ _ _ (by simp)]
 have cC := check_tree x lo _ _ (henv.on b1).tenv (hx.on b1) hsz
 have HEN : Aside (KEnv w) := henv
 rw [ofP] at hR
 by_cases hck : ckP x = 0
 ·rw [if_neg (fun h => h hck)] at hR
  rw [hck, show errV 0 = .nilIface from rfl] at cC
  have cS := fun W (hb : Below w.heap.size w W) => schemaV vl zs W (henv.on hb).tw (hcv.on hb)
  by_cases hsc : schE zs = 0
  ·rw [if_neg (fun h => h hsc)] at hR
   rw [hsc, show errV 0 = .nilIface from rfl] at cS
   obtain ⟨hz1, hz2, _⟩ := schE_zero hsc
   rcases hcols with h | ⟨b, off, rfl, _, _, hco⟩
   ·exact absurd h hz1
   subst hvl
   have cT := fun W (hb : Below w.heap.size w W) => typeOf_any zs b off c hz2 x 1 lo _ W T H P (ck_small hck) (henv.on hb) (hx.on hb) (hco.on hb) hR
   clear hck hR hsc hz1 henv hx hcv hco hsz HEN
   go_enter Tryz.func89, Tryz.ntmps89
   go_wp2_with fail
   refine cC.mono ?_
   rintro e w1 ⟨rfl, b2⟩
   have b3 : Below w.heap.size w w1 := b1.trans (b2.mono b1.size)
   go_wp2_with fail
   refine (cS _ b3).mono ?_
   rintro e w2 ⟨rfl, b4⟩
   have b5 : Below w.heap.size w w2 := b3.trans (b4.mono b3.size)
   obtain ⟨gB, _, _, _, hlX⟩ := key w2 (b2.trans (b4.mono b2.size))
   have g0 : w2.cell? ⟨w.heap.size, 0, none⟩ = some (.string o1) := gB 0
   have g1 : w2.cell? ⟨w.heap.size, 1, none⟩ = some (.string n1) := gB 1
   have g2 : w2.cell? ⟨w.heap.size, 2, none⟩ = some (.int .i64 t1) := gB 2
   have g3 : w2.cell? ⟨w.heap.size, 3, none⟩ = some (.int .i64 k1) := gB 3
   have g4 : w2.cell? ⟨w.heap.size, 4, none⟩ = some (.string s1) := gB 4
   have g5 : w2.cell? ⟨w.heap.size, 5, none⟩ = some (.slice p1 m1 c1) := gB 5
   have g6 : w2.cell? ⟨w.heap.size, 6, none⟩ = some (.int .i64 a1) := gB 6
   have hl0 : w.heap.size < w2.heap.size := by omega
   clear gB
   go_wp2_with fail
   refine (cT _ b5).mono ?_
   rintro e w3 ⟨rfl, b6⟩
   obtain ⟨_, f0, f1, ff, hl⟩ := key w3 ((b2.trans (b4.mono b2.size)).trans (b6.mono (Nat.le_trans b2.size b4.size)))
   have b7 : Below w.heap.size w w3 := b5.trans (b6.mono b5.size)
   clear key cC cS cT b1 b2 b3 b4 b5 b6
   go_wp2
   refine bodyPost_ret (v := .tuple #[.int .i64 T, .agg #[.int .i64 H, .int .i64 P]]) (by simp [results, Tryz.results89, go_sem, World.cell?_setCell_other, World.cell?_setCell_same, f0, f1]) rfl ⟨rfl, ?_⟩
   exact (b7.setCell (p := ⟨w.heap.size + 1, 0, none⟩) (Nat.le_succ _) _).setCell (p := ⟨w.heap.size + 1, 1, none⟩) (Nat.le_succ _) _
  ·rw [if_pos hsc] at hR
   simp only [Prod.mk.injEq] at hR
   obtain ⟨rfl, rfl, rfl⟩ := hR
   have hU : errV (schE zs) = .iface 32 (.int .i64 (schE zs)) := if_neg hsc
   rw [hU] at cS
   subst hvl
   clear hck hsc henv hx hcv hcols hsz hU
   generalize schE zs = SC at *
   go_enter Tryz.func89, Tryz.ntmps89
   go_wp2_with fail
   refine cC.mono ?_
   rintro e w1 ⟨rfl, b2⟩
   have b3 : Below w.heap.size w w1 := b1.trans (b2.mono b1.size)
   go_wp2_with fail
   refine (cS _ b3).mono ?_
   rintro e w2 ⟨rfl, b4⟩
   have b5 : Below w.heap.size w w2 := b3.trans (b4.mono b3.size)
   have cP := faultOf_any SC 0 w2 (HEN.out.on b5)
   go_wp2_with fail
   refine cP.mono ?_
   rintro e w3 ⟨rfl, b6⟩
   obtain ⟨_, f0, f1, ff, hl⟩ := key w3 ((b2.trans (b4.mono b2.size)).trans (b6.mono (Nat.le_trans b2.size b4.size)))
   have b7 : Below w.heap.size w w3 := b5.trans (b6.mono b5.size)
   clear key cC cS cP b1 b2 b3 b4 b5 b6
   go_wp2
   refine bodyPost_ret (v := .tuple #[.int .i64 0, .agg #[.int .i64 SC, .int .i64 0]]) (by simp [results, Tryz.results89, go_sem, World.cell?_setCell_other, World.cell?_setCell_same, f0, f1]) rfl ⟨rfl, ?_⟩
   exact (b7.setCell (p := ⟨w.heap.size + 1, 0, none⟩) (Nat.le_succ _) _).setCell (p := ⟨w.heap.size + 1, 1, none⟩) (Nat.le_succ _) _
 ·rw [if_pos hck] at hR
  simp only [Prod.mk.injEq] at hR
  obtain ⟨rfl, rfl, rfl⟩ := hR
  have hU : errV (ckP x) = .iface 32 (.int .i64 (ckP x)) := if_neg hck
  rw [hU] at cC
  subst hvl
  clear hck henv hx hcv hcols hsz hU
  generalize ckP x = SC at *
  go_enter Tryz.func89, Tryz.ntmps89
  go_wp2_with fail
  refine cC.mono ?_
  rintro e w1 ⟨rfl, b2⟩
  have b3 : Below w.heap.size w w1 := b1.trans (b2.mono b1.size)
  have cP := faultOf_any SC 0 w1 (HEN.out.on b3)
  go_wp2_with fail
  refine cP.mono ?_
  rintro e w3 ⟨rfl, b6⟩
  obtain ⟨_, f0, f1, ff, hl⟩ := key w3 (b2.trans (b6.mono b2.size))
  have b7 : Below w.heap.size w w3 := b3.trans (b6.mono b3.size)
  clear key cC cP b1 b2 b3 b6
  go_wp2
  refine bodyPost_ret (v := .tuple #[.int .i64 0, .agg #[.int .i64 SC, .int .i64 0]]) (by simp [results, Tryz.results89, go_sem, World.cell?_setCell_other, World.cell?_setCell_same, f0, f1]) rfl ⟨rfl, ?_⟩
  exact (b7.setCell (p := ⟨w.heap.size + 1, 0, none⟩) (Nat.le_succ _) _).setCell (p := ⟨w.heap.size + 1, 1, none⟩) (Nat.le_succ _) _
end Go.Proofs.YtkbhmghdonomnaaGreatDoor
namespace Go.Proofs.YtkbhmghdonomnaaGreatDoor
open Go.RowKit
set_option linter.unusedVariables false
def wdB (size slide : Int) : Prop := 1 ≤ size ∧ size ≤ 1000 ∧ 1 ≤ slide ∧ slide ≤ size ∧ size ≤ 10 * slide
instance (size slide : Int) : Decidable (wdB size slide) := by unfold wdB; infer_instance
def wdE (size slide : Int) : Int := if wdB size slide then 0 else 1
def dnR (a b : Int) : Prop := -1 ≤ a ∧ a ≤ 1000000 ∧ a ≤ b ∧ b ≤ 1001000
instance (a b : Int) : Decidable (dnR a b) := by unfold dnR; infer_instance
structure Ag where
 what : ByteArray
 arg : Ex
 name : ByteArray
structure Qy where
 frm : ByteArray
 whr : Ex
 cols : List Ex
 names : List ByteArray
 group : List ByteArray
 size : Int
 slide : Int
 aggs : List Ag
abbrev Cl := ByteArray × Int
def isAg (s : List UInt8) : Bool := decide (s = [99, 111, 117, 110, 116]) || (decide (s = [115, 117, 109]) || (decide (s = [108, 101, 97, 115, 116]) || decide (s = [109, 111, 115, 116])))
end Go.Proofs.YtkbhmghdonomnaaGreatDoor
namespace Go.Proofs.YtkbhmghdonomnaaGreatDoor
set_option linter.unusedVariables false
def readE (ts : List Tok) : Option Ex × List Tok := uE (ts.length * 8 + 8) 0 ts
def placeT (ts : List Tok) (en : Nat) : Nat := match ts with
 | [] => en
 | t :: _ => t.2.2
end Go.Proofs.YtkbhmghdonomnaaGreatDoor
