/-
  KdOf, ColV, KdOfB, WdP, QyP, in one text.
-/
import Derived.Test.YtkbhmghdonomnaaGreatDoorQKdTy
import Derived.Test.YtkbhmghdonomnaaGreatDoorGrAj
import Derived.Test.YtkbhmghdonomnaaGreatDoorGrAa
import Derived.Test.YtkbhmghdonomnaaGreatDoorProg
import Derived.RowKit
import Derived.Test.YtkbhmghdonomnaaGreatDoorGrAh
namespace Go.Proofs.YtkbhmghdonomnaaGreatDoor
open Go.RowKit Go.BigFrame
set_option linter.unusedVariables false

theorem fold_ck : ∀ (l : List (Ex × Nat)) (s : Int), s = 0 → (foldP fck s l).1 = 0 → ∀ q ∈ l, nodeE q.1 = 0
  | [], _, _, _, q, hq => absurd hq (by simp)
  | p :: r, s, hs, h, q, hq => by
    rw [foldP] at h
    by_cases h0 : nodeE p.1 = 0
    · have h1 : (fck s p.1 p.2).2 = true := by rw [fck]; simpa using h0
      rw [if_pos h1] at h
      rcases List.mem_cons.1 hq with rfl | hq
      · exact h0
      · exact fold_ck r _ (by rw [fck]; exact h0) h q hq
    · have h1 : ¬ (fck s p.1 p.2).2 = true := by rw [fck]; simpa using h0
      rw [if_neg h1] at h
      exact absurd h h0
theorem fold_ck' : ∀ (l : List (Ex × Nat)) (s : Int), s = 0 → (∀ q ∈ l, nodeE q.1 = 0) → (foldP fck s l).1 = 0
  | [], s, hs, _ => hs
  | p :: r, s, hs, h => by
    have h0 := h p (List.mem_cons_self ..)
    have h1 : (fck s p.1 p.2).2 = true := by rw [fck]; simpa using h0
    rw [foldP, if_pos h1]
    exact fold_ck' r _ (by rw [fck]; exact h0) fun q hq => h q (List.mem_cons_of_mem _ hq)
theorem fold_tg : ∀ (l : List (Ex × Nat)) (s : Nat), (foldP ftg s l).2 = true ↔ (l = [] ∨ s + l.length ≤ 200) ∧ ∀ q ∈ l, q.2 ≤ 30
  | [], s => by simp [foldP]
  | p :: r, s => by
    rw [foldP]
    by_cases h : (ftg s p.1 p.2).2 = true
    · rw [if_pos h, fold_tg r]
      rw [ftg] at h ⊢
      simp at h ⊢
      constructor
      · rintro ⟨h1, h2⟩
        refine ⟨?_, h.2, h2⟩
        rcases h1 with rfl | h1
        · simp; omega
        · omega
      · rintro ⟨h1, h2, h3⟩
        exact ⟨.inr (by omega), h3⟩
    · rw [if_neg h]
      rw [ftg] at h
      simp at h ⊢
      intro h1 h2
      have := h (by omega)
      omega
theorem pre_shift : ∀ (x : Ex) (d : Nat), x.pre (d + 1) = (x.pre d).map fun q => (q.1, q.2 + 1) := by
  refine Ex.ind fun op nm vt vn vs pos l ih d => ?_
  rw [Ex.pre, Ex.pre, List.map_cons]
  congr 1
  induction l with
  | nil => rfl
  | cons y ys ihl =>
    rw [Ex.pres, Ex.pres, List.map_append, ih y (List.mem_cons_self ..) (d + 1), ihl fun z hz => ih z (List.mem_cons_of_mem _ hz)]
theorem pres_len {d : Nat} {y : Ex} : ∀ {l : List Ex}, y ∈ l → (y.pre d).length ≤ (Ex.pres d l).length
  | [], h => absurd h (by simp)
  | x :: xs, h => by
    rw [Ex.pres, List.length_append]
    rcases List.mem_cons.1 h with rfl | h
    · omega
    · have := pres_len (d := d) h; omega
theorem ckP_zero {x : Ex} (h : ckP x = 0) : tgB x = false ∧ ∀ q ∈ x.pre 1, nodeE q.1 = 0 := by
  rw [ckP] at h
  cases ht : tgB x
  · rw [ht, if_neg (by simp)] at h
    exact ⟨rfl, fold_ck _ 0 rfl h⟩
  · rw [ht, if_pos rfl] at h
    exact absurd h (by decide)
/-- A part of what is right is right. -/
theorem ckP_part {x y : Ex} (h : ckP x = 0) (hy : y ∈ x.args) : ckP y = 0 := by
  obtain ⟨h1, h2⟩ := ckP_zero h
  have hsub : ∀ q ∈ y.pre 2, q ∈ x.pre 1 := fun q hq => by rw [pre_eq]; exact List.mem_cons_of_mem _ (pres_mem hy q hq)
  have hlen : (y.pre 2).length ≤ (x.pre 1).length := by rw [pre_eq 1 x, List.length_cons]; have h := pres_len (d := 1 + 1) hy; exact Nat.le_succ_of_le h
  have hs := pre_shift y 1
  have hin : ∀ q ∈ y.pre 1, ((q.1, q.2 + 1) : Ex × Nat) ∈ x.pre 1 := fun q hq => hsub _ (by rw [hs]; exact List.mem_map.2 ⟨q, hq, rfl⟩)
  have ht : (foldP ftg 0 (x.pre 1)).2 = true := by rw [tgB] at h1; simpa using h1
  obtain ⟨g1, g2⟩ := (fold_tg _ 0).1 ht
  have hty : tgB y = false := by
    rw [tgB, (fold_tg (y.pre 1) 0).2 ⟨?_, fun q hq => by have := g2 _ (hin q hq); simp at this; omega⟩]
    · rfl
    · right
      have e1 : (y.pre 1).length = (y.pre 2).length := by rw [hs]; simp
      rcases g1 with g1 | g1
      · rw [pre_eq] at g1; simp at g1
      · omega
  rw [ckP, hty, if_neg (by simp)]
  exact fold_ck' (y.pre 1) 0 rfl (fun q hq => h2 (q.1, q.2 + 1) (hin q hq))
theorem apL_le (x : List UInt8) : (apL x opsL).2 = true → (apL x opsL).1 ≤ 3 ∧ 0 ≤ (apL x opsL).1 := by
  have h : ∀ l : List (List UInt8 × Int), (∀ o ∈ l, o.2 ≤ 3 ∧ 0 ≤ o.2) → (apL x l).2 = true → (apL x l).1 ≤ 3 ∧ 0 ≤ (apL x l).1 := fun l => by
    induction l with
    | nil => intro _ h; simp [apL] at h
    | cons o os ih =>
      intro ho
      rw [apL]
      split
      · exact fun _ => ho o (List.mem_cons_self ..)
      · exact ih fun q hq => ho q (List.mem_cons_of_mem _ hq)
  exact h opsL (by decide)
theorem node_ok {x : Ex} (h : nodeE x = 0) : (apL x.op.data.toList opsL).2 = true ∧ (x.args.length : Int) = (apL x.op.data.toList opsL).1 ∧ ((x.op.toList == [118, 97, 108]) = true → ckV x.vt x.vn x.vs.data.toList = 0) := by
  rw [nodeE, nodeB] at h
  split at h
  · exact absurd h (by decide)
  · rename_i h1
    split at h
    · exact absurd h (by decide)
    · rename_i h2
      simp at h1 h2
      refine ⟨h1.1, ?_, fun hv => ?_⟩
      · have := h2.1
        simpa using this
      · rwa [if_pos hv] at h
theorem ck_small {x : Ex} (h : ckP x = 0) : ∀ q ∈ x.pre 1, q.1.args.length ≤ 3 := fun q hq => by
  obtain ⟨h1, h2, _⟩ := node_ok ((ckP_zero h).2 q hq)
  have := apL_le _ h1
  omega
end Go.Proofs.YtkbhmghdonomnaaGreatDoor
namespace Go.Proofs.YtkbhmghdonomnaaGreatDoor
open Go.RowKit
set_option linter.unusedVariables false

/-- A slice of columns. -/
def ColsV (w : World) (v : Value) (zs : List (ByteArray × Int)) : Prop := ∃ q c, v = .slice q zs.length c ∧ (zs.length = 0 ∨ ∃ b off, q = some ⟨b, off, none⟩ ∧ zs.length ≤ c ∧ (∀ z ∈ zs, z.1.size ≤ maxLen) ∧ ColsIn w b off zs)
theorem ColsV.on {w w' : World} {v : Value} {zs : List (ByteArray × Int)} (h : ColsV w v zs) (hb : Below w.heap.size w w') : ColsV w' v zs := by
  obtain ⟨q, c, e, h⟩ := h
  refine ⟨q, c, e, ?_⟩
  rcases h with h | ⟨b, off, e2, h1, h2, h3⟩
  · exact .inl h
  · exact .inr ⟨b, off, e2, h1, h2, h3.on hb⟩
theorem schemaV (v : Value) (zs : List (ByteArray × Int)) (w : World) (hw : TW w) (h : ColsV w v zs) : Calls Tryz.prog 9 #[v] w fun e w' => e = .returned (errV (schE zs)) ∧ Below w.heap.size w w' := by
  obtain ⟨q, c, rfl, h⟩ := h
  rcases h with h | ⟨b, off, rfl, h1, h2, h3⟩
  · rw [h, schE, if_pos h]
    exact (schema_none q c w).mono fun e w' hh => ⟨hh.1, by rw [hh.2]; exact Below.refl _ _⟩
  · exact schema_any b off c zs w hw h1 h2 h3
end Go.Proofs.YtkbhmghdonomnaaGreatDoor
namespace Go.Proofs.YtkbhmghdonomnaaGreatDoor
open Go.RowKit Go.BigFrame
set_option linter.unusedVariables false

/-- What Of says. -/
def ofP (zs : List (ByteArray × Int)) (x : Ex) : Int × Int × Int := if ckP x ≠ 0 then (0, ckP x, 0) else if schE zs ≠ 0 then (0, schE zs, 0) else tyP zs x
set_option maxHeartbeats 4000000 in
set_option maxRecDepth 20000 in
theorem of_any (x : Ex) (lo : Nat → Prop) (v vl : Value) (zs : List (ByteArray × Int)) (w : World) (henv : KEnv w) (hx : ExIn w lo v x) (hsz : (x.pre 1).length ≤ 1048576) (hcv : ColsV w vl zs) (T H P : Int) (hR : ofP zs x = (T, H, P)) :
    Calls Tryz.prog 89 #[v, vl] w fun e w' => e = .returned (.tuple #[.int .i64 T, .agg #[.int .i64 H, .int .i64 P]]) ∧ Below w.heap.size w w' := by
  obtain ⟨o1, n1, t1, k1, s1, p1, m1, c1, a1, rfl⟩ := hx.agg
  obtain ⟨q, c, hvl, hcols⟩ := id hcv
  have b1 : Below w.heap.size w ((w.alloc (.cells #[.string o1, .string n1, .int .i64 t1, .int .i64 k1, .string s1, .slice p1 m1 c1, .int .i64 a1] 26)).alloc (.cells #[.int .i64 0, .int .i64 0] 34)) := ((Below.refl _ w).alloc (Nat.le_refl _) _).alloc (by simp) _
  have key : ∀ w1, Below ((w.alloc (.cells #[.string o1, .string n1, .int .i64 t1, .int .i64 k1, .string s1, .slice p1 m1 c1, .int .i64 a1] 26)).alloc (.cells #[.int .i64 0, .int .i64 0] 34)).heap.size ((w.alloc (.cells #[.string o1, .string n1, .int .i64 t1, .int .i64 k1, .string s1, .slice p1 m1 c1, .int .i64 a1] 26)).alloc (.cells #[.int .i64 0, .int .i64 0] 34)) w1 → (∀ i, w1.cell? ⟨w.heap.size, i, none⟩ = (#[.string o1, .string n1, .int .i64 t1, .int .i64 k1, .string s1, .slice p1 m1 c1, .int .i64 a1] : Array Value)[i]?) ∧ w1.cell? ⟨w.heap.size + 1, 0, none⟩ = some (.int .i64 0) ∧ w1.cell? ⟨w.heap.size + 1, 1, none⟩ = some (.int .i64 0) ∧ (∀ o, w1.frozen? ⟨w.heap.size + 1, o, none⟩ = false) ∧ w.heap.size + 1 < w1.heap.size := fun w1 b2 => by
    have hz := b2.size
    simp at hz
    refine ⟨fun i => ?_, ?_, ?_, fun o => ?_, by omega⟩
    · rw [b2.cell (p := ⟨w.heap.size, i, none⟩) (by simp; omega), World.cell?_alloc_lt _ _ _ (by simp), World.cell?_alloc_at _ _ _ _ rfl]
    · rw [b2.cell (p := ⟨w.heap.size + 1, 0, none⟩) (by simp), World.cell?_alloc_at _ _ _ _ (by simp)]; rfl
    · rw [b2.cell (p := ⟨w.heap.size + 1, 1, none⟩) (by simp), World.cell?_alloc_at _ _ _ _ (by simp)]; rfl
    · rw [b2.frozen (p := ⟨w.heap.size + 1, o, none⟩) (by simp), World.frozen?_alloc_at _ _ _ _ (by simp)]
  have cC := check_tree x lo _ _ (henv.on b1).tenv (hx.on b1) hsz
  have HEN : Aside (KEnv w) := henv
  rw [ofP] at hR
  by_cases hck : ckP x = 0
  · rw [if_neg (fun h => h hck)] at hR
    rw [hck, show errV 0 = .nilIface from rfl] at cC
    have cS := fun W (hb : Below w.heap.size w W) => schemaV vl zs W (henv.on hb).tw (hcv.on hb)
    by_cases hsc : schE zs = 0
    · rw [if_neg (fun h => h hsc)] at hR
      rw [hsc, show errV 0 = .nilIface from rfl] at cS
      obtain ⟨hz1, hz2, _⟩ := schE_zero hsc
      rcases hcols with h | ⟨b, off, rfl, _, _, hco⟩
      · exact absurd h hz1
      subst hvl
      have cT := fun W (hb : Below w.heap.size w W) => typeOf_any zs b off c hz2 x 1 lo _ W T H P (ck_small hck) (henv.on hb) (hx.on hb) (hco.on hb) hR
      clear hck hR hsc hz1 henv hx hcv hco hsz HEN
      go_enter Tryz.func89, Tryz.ntmps89
      go_wp2_with fail
      refine cC.mono ?_
      rintro e w1 ⟨rfl, b2⟩
      have b3 : Below w.heap.size w w1 := b1.trans (b2.mono b1.size)
      go_wp2_with fail
      refine (cS _ b3).mono ?_
      rintro e w2 ⟨rfl, b4⟩
      have b5 : Below w.heap.size w w2 := b3.trans (b4.mono b3.size)
      obtain ⟨gB, _, _, _, hlX⟩ := key w2 (b2.trans (b4.mono b2.size))
      have g0 : w2.cell? ⟨w.heap.size, 0, none⟩ = some (.string o1) := gB 0
      have g1 : w2.cell? ⟨w.heap.size, 1, none⟩ = some (.string n1) := gB 1
      have g2 : w2.cell? ⟨w.heap.size, 2, none⟩ = some (.int .i64 t1) := gB 2
      have g3 : w2.cell? ⟨w.heap.size, 3, none⟩ = some (.int .i64 k1) := gB 3
      have g4 : w2.cell? ⟨w.heap.size, 4, none⟩ = some (.string s1) := gB 4
      have g5 : w2.cell? ⟨w.heap.size, 5, none⟩ = some (.slice p1 m1 c1) := gB 5
      have g6 : w2.cell? ⟨w.heap.size, 6, none⟩ = some (.int .i64 a1) := gB 6
      have hl0 : w.heap.size < w2.heap.size := by omega
      clear gB
      go_wp2_with fail
      refine (cT _ b5).mono ?_
      rintro e w3 ⟨rfl, b6⟩
      obtain ⟨_, f0, f1, ff, hl⟩ := key w3 ((b2.trans (b4.mono b2.size)).trans (b6.mono (Nat.le_trans b2.size b4.size)))
      have b7 : Below w.heap.size w w3 := b5.trans (b6.mono b5.size)
      clear key cC cS cT b1 b2 b3 b4 b5 b6
      go_wp2
      refine bodyPost_ret (v := .tuple #[.int .i64 T, .agg #[.int .i64 H, .int .i64 P]]) (by simp [results, Tryz.results89, go_sem, World.cell?_setCell_other, World.cell?_setCell_same, f0, f1]) rfl ⟨rfl, ?_⟩
      exact (b7.setCell (p := ⟨w.heap.size + 1, 0, none⟩) (Nat.le_succ _) _).setCell (p := ⟨w.heap.size + 1, 1, none⟩) (Nat.le_succ _) _
    · rw [if_pos hsc] at hR
      simp only [Prod.mk.injEq] at hR
      obtain ⟨rfl, rfl, rfl⟩ := hR
      have hU : errV (schE zs) = .iface 32 (.int .i64 (schE zs)) := if_neg hsc
      rw [hU] at cS
      subst hvl
      clear hck hsc henv hx hcv hcols hsz hU
      generalize schE zs = SC at *
      go_enter Tryz.func89, Tryz.ntmps89
      go_wp2_with fail
      refine cC.mono ?_
      rintro e w1 ⟨rfl, b2⟩
      have b3 : Below w.heap.size w w1 := b1.trans (b2.mono b1.size)
      go_wp2_with fail
      refine (cS _ b3).mono ?_
      rintro e w2 ⟨rfl, b4⟩
      have b5 : Below w.heap.size w w2 := b3.trans (b4.mono b3.size)
      have cP := faultOf_any SC 0 w2 (HEN.out.on b5)
      go_wp2_with fail
      refine cP.mono ?_
      rintro e w3 ⟨rfl, b6⟩
      obtain ⟨_, f0, f1, ff, hl⟩ := key w3 ((b2.trans (b4.mono b2.size)).trans (b6.mono (Nat.le_trans b2.size b4.size)))
      have b7 : Below w.heap.size w w3 := b5.trans (b6.mono b5.size)
      clear key cC cS cP b1 b2 b3 b4 b5 b6
      go_wp2
      refine bodyPost_ret (v := .tuple #[.int .i64 0, .agg #[.int .i64 SC, .int .i64 0]]) (by simp [results, Tryz.results89, go_sem, World.cell?_setCell_other, World.cell?_setCell_same, f0, f1]) rfl ⟨rfl, ?_⟩
      exact (b7.setCell (p := ⟨w.heap.size + 1, 0, none⟩) (Nat.le_succ _) _).setCell (p := ⟨w.heap.size + 1, 1, none⟩) (Nat.le_succ _) _
  · rw [if_pos hck] at hR
    simp only [Prod.mk.injEq] at hR
    obtain ⟨rfl, rfl, rfl⟩ := hR
    have hU : errV (ckP x) = .iface 32 (.int .i64 (ckP x)) := if_neg hck
    rw [hU] at cC
    subst hvl
    clear hck henv hx hcv hcols hsz hU
    generalize ckP x = SC at *
    go_enter Tryz.func89, Tryz.ntmps89
    go_wp2_with fail
    refine cC.mono ?_
    rintro e w1 ⟨rfl, b2⟩
    have b3 : Below w.heap.size w w1 := b1.trans (b2.mono b1.size)
    have cP := faultOf_any SC 0 w1 (HEN.out.on b3)
    go_wp2_with fail
    refine cP.mono ?_
    rintro e w3 ⟨rfl, b6⟩
    obtain ⟨_, f0, f1, ff, hl⟩ := key w3 (b2.trans (b6.mono b2.size))
    have b7 : Below w.heap.size w w3 := b3.trans (b6.mono b3.size)
    clear key cC cP b1 b2 b3 b6
    go_wp2
    refine bodyPost_ret (v := .tuple #[.int .i64 0, .agg #[.int .i64 SC, .int .i64 0]]) (by simp [results, Tryz.results89, go_sem, World.cell?_setCell_other, World.cell?_setCell_same, f0, f1]) rfl ⟨rfl, ?_⟩
    exact (b7.setCell (p := ⟨w.heap.size + 1, 0, none⟩) (Nat.le_succ _) _).setCell (p := ⟨w.heap.size + 1, 1, none⟩) (Nat.le_succ _) _
end Go.Proofs.YtkbhmghdonomnaaGreatDoor
namespace Go.Proofs.YtkbhmghdonomnaaGreatDoor
open Go.RowKit
set_option linter.unusedVariables false

/-- Numbers that rise by d, from s on, n of them. -/
def prg (s d : Int) (n : Nat) : List Int := (List.range n).map fun (i : Nat) => s + (i : Int) * d
theorem prg_len (s d : Int) (n : Nat) : (prg s d n).length = n := by simp [prg]
theorem prg_at {s d : Int} {n i : Nat} (h : i < (prg s d n).length) : (prg s d n)[i] = s + (i : Int) * d := by simp [prg]
theorem prg_zero (s d : Int) : prg s d 0 = [] := rfl
theorem prg_snoc (s d : Int) (n : Nat) : prg s d (n + 1) = prg s d n ++ [s + (n : Int) * d] := by simp [prg, List.range_succ]
theorem prg_cons (s d : Int) (n : Nat) : prg s d (n + 1) = s :: prg (s + d) d n := by
  apply List.ext_getElem
  · simp [prg]
  · intro i h1 h2
    cases i with
    | zero => simp [prg]
    | succ i =>
      simp only [prg, List.getElem_map, List.getElem_range, List.getElem_cons_succ]
      have : ((i + 1 : Nat) : Int) * d = (i : Int) * d + d := by
        rw [Int.natCast_add, Int.add_mul]; simp
      rw [this]; omega
theorem prg_app (s d : Int) (n m : Nat) : prg s d n ++ prg (s + (n : Int) * d) d m = prg s d (n + m) := by
  induction m with
  | zero => simp [prg_zero]
  | succ m ih =>
    rw [prg_snoc, ← List.append_assoc, ih, ← Nat.add_assoc, prg_snoc]
    congr 2
    rw [Int.natCast_add, Int.add_mul]; omega
/-- May a size and a slide be so? -/
def wdB (size slide : Int) : Prop := 1 ≤ size ∧ size ≤ 1000 ∧ 1 ≤ slide ∧ slide ≤ size ∧ size ≤ 10 * slide
instance (size slide : Int) : Decidable (wdB size slide) := by unfold wdB; infer_instance
def wdE (size slide : Int) : Int := if wdB size slide then 0 else 1
/-- How many windows hold a time; where the first one begins. -/
def stN (at_ size slide : Int) : Nat := min (at_ / slide + 1).toNat ((size - 1 - at_ % slide) / slide + 1).toNat
def stS (at_ size slide : Int) : Int := (at_ / slide + 1 - (stN at_ size slide : Int)) * slide
def stP (at_ size slide : Int) : List Int := prg (stS at_ size slide) slide (stN at_ size slide)
/-- The error of Starts. -/
def stE (at_ size slide : Int) : Int := if wdB size slide ∧ 0 ≤ at_ ∧ at_ ≤ 1000000 then 0 else 1
/-- The number of the first window that ends above a; how many of these end at most at b. -/
def dnK (a size slide : Int) : Int := if a < size then 0 else (a - size) / slide + 1
def dnN (a b size slide : Int) : Nat := if b < size then 0 else ((b - size) / slide + 1 - dnK a size slide).toNat
def dnP (a b size slide : Int) : List Int := prg (dnK a size slide * slide) slide (dnN a b size slide)
def dnR (a b : Int) : Prop := -1 ≤ a ∧ a ≤ 1000000 ∧ a ≤ b ∧ b ≤ 1001000
instance (a b : Int) : Decidable (dnR a b) := by unfold dnR; infer_instance
/-- The error of Done. -/
def dnE (a b size slide : Int) : Int := if wdB size slide ∧ dnR a b then (if 300 < dnN a b size slide then 4 else 0) else 1
theorem div_mul_le {a d : Int} (hd : 0 < d) : a / d * d ≤ a ∧ a < a / d * d + d := by
  have h1 := Int.emod_add_mul_ediv a d
  have h2 := Int.emod_nonneg a (by omega : d ≠ 0)
  have h3 := Int.emod_lt_of_pos a hd
  rw [Int.mul_comm] at h1
  omega
/-- Which numbers of windows hold a time. -/
theorem st_iff {at_ size slide : Int} (hw : wdB size slide) (h0 : 0 ≤ at_) (k : Int) :
    (at_ / slide + 1 - (stN at_ size slide : Int) ≤ k ∧ k ≤ at_ / slide) ↔ (0 ≤ k ∧ k * slide ≤ at_ ∧ at_ < k * slide + size) := by
  obtain ⟨s1, s2, s3, s4, s5⟩ := hw
  have hd : 0 < slide := by omega
  obtain ⟨d1, d2⟩ := div_mul_le (a := at_) hd
  have q0 : 0 ≤ at_ / slide := Int.ediv_nonneg h0 (by omega)
  have hr : at_ % slide = at_ - at_ / slide * slide := by
    have := Int.emod_add_mul_ediv at_ slide
    rw [Int.mul_comm] at this
    omega
  obtain ⟨r1, r2⟩ := div_mul_le (a := size - 1 - at_ % slide) hd
  have rq : 0 ≤ (size - 1 - at_ % slide) / slide := Int.ediv_nonneg (by omega) (by omega)
  have hN : (stN at_ size slide : Int) = min (at_ / slide + 1) ((size - 1 - at_ % slide) / slide + 1) := by
    rw [stN]; omega
  generalize hQ : at_ / slide = Q at *
  generalize hV : (size - 1 - at_ % slide) / slide = V at *
  rw [hN]
  have up : k ≤ Q ↔ k * slide ≤ at_ := by
    constructor
    · intro h
      have := Int.mul_le_mul_of_nonneg_right h (by omega : 0 ≤ slide)
      omega
    · intro h
      by_cases hk : k ≤ Q
      · exact hk
      · have := Int.mul_le_mul_of_nonneg_right (show Q + 1 ≤ k by omega) (by omega : 0 ≤ slide)
        rw [Int.add_mul] at this
        omega
  have dn : Q - V ≤ k ↔ at_ < k * slide + size := by
    have key : (Q - V) * slide = Q * slide - V * slide := Int.sub_mul ..
    constructor
    · intro h
      have := Int.mul_le_mul_of_nonneg_right h (by omega : 0 ≤ slide)
      rw [key] at this
      omega
    · intro h
      by_cases hk : Q - V ≤ k
      · exact hk
      · have := Int.mul_le_mul_of_nonneg_right (show k ≤ Q - V - 1 by omega) (by omega : 0 ≤ slide)
        rw [Int.sub_mul, key] at this
        omega
  constructor
  · rintro ⟨h1, h2⟩
    exact ⟨by omega, up.1 h2, dn.1 (by omega)⟩
  · rintro ⟨h1, h2, h3⟩
    have hu := up.2 h2
    have hd' := dn.2 h3
    exact ⟨by omega, hu⟩
theorem st_pos {at_ size slide : Int} (hw : wdB size slide) (h0 : 0 ≤ at_) : 1 ≤ stN at_ size slide := by
  have hd : 0 < slide := by have := hw.2.2.1; omega
  obtain ⟨d1, d2⟩ := div_mul_le (a := at_) hd
  have q0 : 0 ≤ at_ / slide := Int.ediv_nonneg h0 (by omega)
  have := (st_iff hw h0 (at_ / slide)).2 ⟨q0, d1, by have := hw.2.2.2.1; omega⟩
  omega
/-- Numbers that rise by the slide, and are just those of the windows that hold a time. -/
theorem st_unique {at_ size slide : Int} (hw : wdB size slide) (h0 : 0 ≤ at_) {k : Int} {n : Nat} (hn : 1 ≤ n) (hl : k + (n : Int) = at_ / slide + 1) (hk : 0 ≤ k) (hin : at_ < k * slide + size) (hout : k = 0 ∨ (k - 1) * slide + size ≤ at_) : prg (k * slide) slide n = stP at_ size slide := by
  have hd : 0 < slide := by have := hw.2.2.1; omega
  obtain ⟨d1, d2⟩ := div_mul_le (a := at_) hd
  have hm : k * slide ≤ at_ := by
    have := Int.mul_le_mul_of_nonneg_right (show k ≤ at_ / slide by omega) (by omega : 0 ≤ slide)
    omega
  have h1 := (st_iff hw h0 k).2 ⟨hk, hm, hin⟩
  have h2 := st_pos hw h0
  have h3 : (stN at_ size slide : Int) ≤ (n : Int) := by
    rcases hout with h | h
    · have := (st_iff hw h0 (at_ / slide + 1 - (stN at_ size slide : Int))).1 ⟨by omega, by omega⟩
      omega
    · by_cases hc : (stN at_ size slide : Int) ≤ (n : Int)
      · exact hc
      · have := (st_iff hw h0 (k - 1)).1 ⟨by omega, by omega⟩
        omega
  have hN : stN at_ size slide = n := by omega
  rw [stP, stS, hN]
  congr 1
  congr 1
  omega
/-- Which numbers of windows end above a, and at most at b. -/
theorem dn_iff {a b size slide : Int} (hw : wdB size slide) (k : Int) : (dnK a size slide ≤ k ∧ k < dnK a size slide + (dnN a b size slide : Int)) ↔ (0 ≤ k ∧ a < k * slide + size ∧ k * slide + size ≤ b ∧ dnK a size slide ≤ k) := by
  obtain ⟨s1, s2, s3, s4, s5⟩ := hw
  have hd : 0 < slide := by omega
  have k0 : 0 ≤ dnK a size slide := by
    rw [dnK]
    split
    · omega
    · have : 0 ≤ (a - size) / slide := Int.ediv_nonneg (by omega) (by omega)
      omega
  have lo : dnK a size slide ≤ k → a < k * slide + size := fun h => by
    rw [dnK] at h
    split at h
    · have := Int.mul_le_mul_of_nonneg_right h (by omega : 0 ≤ slide)
      omega
    · obtain ⟨e1, e2⟩ := div_mul_le (a := a - size) hd
      have := Int.mul_le_mul_of_nonneg_right h (by omega : 0 ≤ slide)
      rw [Int.add_mul] at this
      omega
  constructor
  · rintro ⟨h1, h2⟩
    refine ⟨by omega, lo h1, ?_, h1⟩
    rw [dnN] at h2
    split at h2
    · omega
    · obtain ⟨e1, e2⟩ := div_mul_le (a := b - size) hd
      have := Int.mul_le_mul_of_nonneg_right (show k ≤ (b - size) / slide by omega) (by omega : 0 ≤ slide)
      omega
  · rintro ⟨h1, h2, h3, h4⟩
    refine ⟨h4, ?_⟩
    have hk0 := Int.mul_nonneg h1 (by omega : 0 ≤ slide)
    rw [dnN, if_neg (by omega)]
    obtain ⟨e1, e2⟩ := div_mul_le (a := b - size) hd
    have : k ≤ (b - size) / slide := by
      by_cases hc : k ≤ (b - size) / slide
      · exact hc
      · have := Int.mul_le_mul_of_nonneg_right (show (b - size) / slide + 1 ≤ k by omega) (by omega : 0 ≤ slide)
        rw [Int.add_mul] at this
        omega
    omega
theorem dn_low {a size slide : Int} (hw : wdB size slide) (k : Int) : dnK a size slide ≤ k ↔ (0 ≤ k ∧ a < k * slide + size) := by
  obtain ⟨s1, s2, s3, s4, s5⟩ := hw
  have hd : 0 < slide := by omega
  constructor
  · intro h
    rw [dnK] at h
    split at h
    · have := Int.mul_le_mul_of_nonneg_right h (by omega : 0 ≤ slide)
      omega
    · obtain ⟨e1, e2⟩ := div_mul_le (a := a - size) hd
      have : 0 ≤ (a - size) / slide := Int.ediv_nonneg (by omega) (by omega)
      have := Int.mul_le_mul_of_nonneg_right h (by omega : 0 ≤ slide)
      rw [Int.add_mul] at this
      omega
  · rintro ⟨h1, h2⟩
    rw [dnK]
    split
    · exact h1
    · obtain ⟨e1, e2⟩ := div_mul_le (a := a - size) hd
      by_cases hc : (a - size) / slide + 1 ≤ k
      · exact hc
      · have := Int.mul_le_mul_of_nonneg_right (show k ≤ (a - size) / slide by omega) (by omega : 0 ≤ slide)
        omega
theorem dn_count {a b size slide : Int} (hw : wdB size slide) (n : Nat) (h1 : n = 0 ∨ (dnK a size slide + (n : Int) - 1) * slide + size ≤ b) (h2 : b < (dnK a size slide + (n : Int)) * slide + size) : dnN a b size slide = n := by
  have k0 := ((dn_low hw (dnK a size slide)).1 (Int.le_refl _)).1
  have key := fun k => dn_iff (a := a) (b := b) hw k
  have hlo := fun k => dn_low (a := a) hw k
  by_cases hc : dnN a b size slide = n
  · exact hc
  · exfalso
    rcases Nat.lt_or_gt_of_ne hc with h | h
    · rcases h1 with h1 | h1
      · omega
      · have hk := (hlo (dnK a size slide + (n : Int) - 1)).1 (by omega)
        have := (key (dnK a size slide + (n : Int) - 1)).2 ⟨hk.1, hk.2, h1, by omega⟩
        omega
    · have := (key (dnK a size slide + (n : Int))).1 ⟨by omega, by omega⟩
      omega
theorem dnN_eq (a b size slide : Int) (hw : wdB size slide) : dnN a b size slide = (dnK b size slide - dnK a size slide).toNat := by
  have k0 := ((dn_low (a := a) hw (dnK a size slide)).1 (Int.le_refl _)).1
  rw [dnN]
  split
  · rename_i h
    rw [dnK.eq_def b, if_pos h]
    omega
  · rename_i h
    rw [dnK.eq_def b, if_neg h]
theorem dnK_mono {a b size slide : Int} (hw : wdB size slide) (h : a ≤ b) : dnK a size slide ≤ dnK b size slide := by
  have h1 := (dn_low (a := b) hw (dnK b size slide)).1 (Int.le_refl _)
  exact (dn_low hw _).2 ⟨h1.1, by omega⟩
/-- Each window is done at one time. -/
theorem dn_join {a m b size slide : Int} (hw : wdB size slide) (h1 : a ≤ m) (h2 : m ≤ b) : dnP a m size slide ++ dnP m b size slide = dnP a b size slide := by
  have g1 := dnK_mono hw h1
  have g2 := dnK_mono hw h2
  have e1 := dnN_eq a m size slide hw
  have e2 := dnN_eq m b size slide hw
  have e3 := dnN_eq a b size slide hw
  have hk : dnK m size slide * slide = dnK a size slide * slide + (dnN a m size slide : Int) * slide := by
    rw [← Int.add_mul]
    congr 1
    omega
  rw [dnP, dnP, dnP, hk, prg_app]
  congr 1
  omega
theorem stK_eq {at_ size slide : Int} (hw : wdB size slide) (h0 : 0 ≤ at_) : dnK at_ size slide = at_ / slide + 1 - (stN at_ size slide : Int) := by
  have hp := st_pos hw h0
  have h1 := (st_iff hw h0 (at_ / slide + 1 - (stN at_ size slide : Int))).1 ⟨by omega, by omega⟩
  have h2 := (dn_low (a := at_) hw _).2 ⟨h1.1, h1.2.2⟩
  have h3 := (dn_low (a := at_) hw _).1 (Int.le_refl _)
  have hm : dnK at_ size slide * slide ≤ at_ := by
    have := Int.mul_le_mul_of_nonneg_right h2 (show 0 ≤ slide by have := hw.2.2.1; omega)
    omega
  have h4 := (st_iff hw h0 _).2 ⟨h3.1, hm, h3.2⟩
  omega
theorem stN_le {at_ size slide : Int} (hw : wdB size slide) (h0 : 0 ≤ at_) : stN at_ size slide ≤ 10 := by
  obtain ⟨s1, s2, s3, s4, s5⟩ := hw
  have hd : 0 < slide := by omega
  have hr := Int.emod_nonneg at_ (by omega : slide ≠ 0)
  have hq : (size - 1 - at_ % slide) / slide < 10 := Int.ediv_lt_of_lt_mul hd (by omega)
  rw [stN]
  omega
/-- What is done from a time on, and in a size more, is what holds it. -/
theorem dn_st {at_ size slide : Int} (hw : wdB size slide) (h0 : 0 ≤ at_) : dnP at_ (at_ + size) size slide = stP at_ size slide := by
  have hk := stK_eq hw h0
  have hn : dnN at_ (at_ + size) size slide = stN at_ size slide := by
    rw [dnN, if_neg (by omega), hk, show at_ + size - size = at_ by omega]
    omega
  rw [dnP, stP, stS, hn, hk]
/-- What holds a time: of each, and of the ends. -/
theorem st_each {at_ size slide : Int} (hw : wdB size slide) (h0 : 0 ≤ at_) {i : Nat} (h : i < stN at_ size slide) : 0 ≤ stS at_ size slide + (i : Int) * slide ∧ stS at_ size slide + (i : Int) * slide ≤ at_ ∧ at_ < stS at_ size slide + (i : Int) * slide + size := by
  have := (st_iff hw h0 (at_ / slide + 1 - (stN at_ size slide : Int) + (i : Int))).1 ⟨by omega, by omega⟩
  rw [Int.add_mul] at this
  have hnn := Int.mul_nonneg this.1 (show 0 ≤ slide by have := hw.2.2.1; omega)
  rw [Int.add_mul] at hnn
  rw [stS]
  exact ⟨hnn, this.2.1, this.2.2⟩
theorem st_first {at_ size slide : Int} (hw : wdB size slide) (h0 : 0 ≤ at_) (h : slide ≤ stS at_ size slide) : stS at_ size slide - slide + size ≤ at_ := by
  have hd : 0 < slide := by have := hw.2.2.1; omega
  have hp := st_pos hw h0
  have hk : 1 ≤ at_ / slide + 1 - (stN at_ size slide : Int) := by
    rw [stS] at h
    by_cases hc : 1 ≤ at_ / slide + 1 - (stN at_ size slide : Int)
    · exact hc
    · have := Int.mul_le_mul_of_nonneg_right (show at_ / slide + 1 - (stN at_ size slide : Int) ≤ 0 by omega) (by omega : 0 ≤ slide)
      omega
  by_cases hc : stS at_ size slide - slide + size ≤ at_
  · exact hc
  · exfalso
    have h1 := (st_iff hw h0 (at_ / slide + 1 - (stN at_ size slide : Int))).1 ⟨by omega, by omega⟩
    have e : (at_ / slide + 1 - (stN at_ size slide : Int) - 1) * slide = stS at_ size slide - slide := by rw [Int.sub_mul, stS]; omega
    have := (st_iff hw h0 (at_ / slide + 1 - (stN at_ size slide : Int) - 1)).2 ⟨by omega, by rw [e]; rw [stS]; omega, by rw [e]; omega⟩
    omega
theorem st_last {at_ size slide : Int} (hw : wdB size slide) : at_ < stS at_ size slide + ((stN at_ size slide : Int) - 1) * slide + slide := by
  have hd : 0 < slide := by have := hw.2.2.1; omega
  obtain ⟨d1, d2⟩ := div_mul_le (a := at_) hd
  have e : stS at_ size slide + ((stN at_ size slide : Int) - 1) * slide = at_ / slide * slide := by
    rw [stS, ← Int.add_mul]
    congr 1
    omega
  rw [e]
  exact d2
/-- What is done ends at most at the time. -/
theorem dn_each {a b size slide : Int} (hw : wdB size slide) {i : Nat} (h : i < dnN a b size slide) : dnK a size slide * slide + (i : Int) * slide + size ≤ b := by
  have := ((dn_iff (a := a) (b := b) hw (dnK a size slide + (i : Int))).1 ⟨by omega, by omega⟩).2.2.1
  rw [Int.add_mul] at this
  exact this
/-- Of a size that is so many slides. -/
theorem st_many {at_ slide many : Int} (hs : 1 ≤ slide) (h0 : 0 ≤ at_) (hm : 1 ≤ many) : (stN at_ (slide * many) slide : Int) = min (at_ / slide + 1) many := by
  have hd : 0 < slide := by omega
  have hr0 := Int.emod_nonneg at_ (by omega : slide ≠ 0)
  have hr1 := Int.emod_lt_of_pos at_ hd
  have q0 : 0 ≤ at_ / slide := Int.ediv_nonneg h0 (by omega)
  have e : (slide * many - 1 - at_ % slide) / slide = many - 1 := by
    obtain ⟨e1, e2⟩ := div_mul_le (a := slide * many - 1 - at_ % slide) hd
    generalize (slide * many - 1 - at_ % slide) / slide = V at *
    have hc : slide * many = many * slide := Int.mul_comm ..
    rw [hc] at e1 e2
    have u1 : V < many := by
      by_cases hh : V < many
      · exact hh
      · have := Int.mul_le_mul_of_nonneg_right (show many ≤ V by omega) (by omega : 0 ≤ slide)
        omega
    have u2 : many - 2 < V := by
      by_cases hh : many - 2 < V
      · exact hh
      · have := Int.mul_le_mul_of_nonneg_right (show V ≤ many - 2 by omega) (by omega : 0 ≤ slide)
        rw [Int.sub_mul] at this
        omega
    omega
  rw [stN, e]
  omega
end Go.Proofs.YtkbhmghdonomnaaGreatDoor
namespace Go.Proofs.YtkbhmghdonomnaaGreatDoor
open Go.RowKit
set_option linter.unusedVariables false

/-- An aggregate as plain data. -/
structure Ag where
  what : ByteArray
  arg : Ex
  name : ByteArray
/-- A query as plain data. -/
structure Qy where
  frm : ByteArray
  whr : Ex
  cols : List Ex
  names : List ByteArray
  group : List ByteArray
  size : Int
  slide : Int
  aggs : List Ag
abbrev Cl := ByteArray × Int
/-- Is an expression nothing? -/
def noE : Ex → Bool
  | .node op nm vt vn vs _ l => decide (op.data.toList = []) && (decide (nm.data.toList = []) && (decide (vt = 0) && (decide (vn = 0) && (decide (vs.data.toList = []) && decide (l.length = 0)))))
/-- Is a word one of an aggregate? -/
def isAg (s : List UInt8) : Bool := decide (s = [99, 111, 117, 110, 116]) || (decide (s = [115, 117, 109]) || (decide (s = [108, 101, 97, 115, 116]) || decide (s = [109, 111, 115, 116])))
/-- One by one: the columns of expressions. -/
def plCols (zs : List Cl) : List Cl → List Ex → List ByteArray → List Cl × Int
  | out, [], _ => (out, 0)
  | out, x :: xs, ns => if (ofP zs x).2.1 ≠ 0 then ([], (ofP zs x).2.1) else plCols zs (out ++ [(ns.headD ⟨#[]⟩, (ofP zs x).1)]) xs ns.tail
/-- One by one: the columns of a group. -/
def plGroup (zs : List Cl) : List Cl → List ByteArray → List Cl × Int
  | out, [] => (out, 0)
  | out, g :: gs => if findN g.data.toList zs < 0 then ([], 5) else if 0 ≤ findN g.data.toList out then ([], 7) else plGroup zs (out ++ [zs[(findN g.data.toList zs).toNat]?.getD (⟨#[]⟩, 0)]) gs
/-- What is wrong with an aggregate, and its type. -/
def agT (zs : List Cl) (a : Ag) : Int × Int :=
  if isAg a.what.data.toList = false then (0, 2)
  else if a.what.data.toList = [99, 111, 117, 110, 116] then (if noE a.arg = true then (1, 0) else (0, 3))
  else if (ofP zs a.arg).2.1 ≠ 0 then (0, (ofP zs a.arg).2.1)
  else if a.what.data.toList = [115, 117, 109] ∧ (ofP zs a.arg).1 ≠ 1 then (0, 8)
  else ((ofP zs a.arg).1, 0)
def plAggs (zs : List Cl) : List Cl → List Ag → List Cl × Int
  | out, [] => (out, 0)
  | out, a :: l => if (agT zs a).2 ≠ 0 then ([], (agT zs a).2) else plAggs zs (out ++ [(a.name, (agT zs a).1)]) l
/-- What is wrong ahead of the expressions. -/
def plHead (zs : List Cl) (q : Qy) : Int :=
  if schE zs ≠ 0 then schE zs
  else if q.size = 0 ∧ (q.slide ≠ 0 ∨ q.aggs.length ≠ 0 ∨ q.group.length ≠ 0 ∨ q.names.length ≠ q.cols.length) then 3
  else if q.size ≠ 0 ∧ (q.cols.length ≠ 0 ∨ q.names.length ≠ 0) then 3
  else if q.size ≠ 0 ∧ ¬ wdB q.size q.slide then 1
  else if q.cols.length + q.group.length + q.aggs.length = 0 then 5
  else if 6 < q.cols.length + q.group.length + q.aggs.length then 4
  else 0
def plWhere (zs : List Cl) (x : Ex) : Int := if noE x = true then 0 else if (ofP zs x).2.1 ≠ 0 then (ofP zs x).2.1 else if (ofP zs x).1 ≠ 2 then 8 else 0
/-- The columns of what comes of a query; the fault. -/
def planP (zs : List Cl) (q : Qy) : List Cl × Int :=
  if plHead zs q ≠ 0 then ([], plHead zs q)
  else if plWhere zs q.whr ≠ 0 then ([], plWhere zs q.whr)
  else
    let a := plCols zs [] q.cols q.names
    if a.2 ≠ 0 then ([], a.2) else
    let b := plGroup zs a.1 q.group
    if b.2 ≠ 0 then ([], b.2) else
    let c := plAggs zs b.1 q.aggs
    if c.2 ≠ 0 then ([], c.2) else
    if schE c.1 ≠ 0 then ([], schE c.1) else (c.1, 0)
end Go.Proofs.YtkbhmghdonomnaaGreatDoor
