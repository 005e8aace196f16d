/-
  KdOf, ColV, KdOfB, KdPf, EvP, in one text.
-/
import Derived.Test.YtkoejkpjkcejcabDoorYKdTy
import Derived.Test.YtkoejkpjkcejcabDoorGyAg
import Derived.Test.YtkoejkpjkcejcabDoorGyAa
import Derived.Test.YtkoejkpjkcejcabDoorGyAi
namespace Go.Proofs.YtkoejkpjkcejcabDoor
open Go.RowKit Go.BigFrame
set_option linter.unusedVariables false

theorem fold_ck : ∀ (l : List (Ex × Nat)) (s : Int), s = 0 → (foldP fck s l).1 = 0 → ∀ q ∈ l, nodeE q.1 = 0
  | [], _, _, _, q, hq => absurd hq (by simp)
  | p :: r, s, hs, h, q, hq => by
    rw [foldP] at h
    by_cases h0 : nodeE p.1 = 0
    · have h1 : (fck s p.1 p.2).2 = true := by rw [fck]; simpa using h0
      rw [if_pos h1] at h
      rcases List.mem_cons.1 hq with rfl | hq
      · exact h0
      · exact fold_ck r _ (by rw [fck]; exact h0) h q hq
    · have h1 : ¬ (fck s p.1 p.2).2 = true := by rw [fck]; simpa using h0
      rw [if_neg h1] at h
      exact absurd h h0
theorem fold_ck' : ∀ (l : List (Ex × Nat)) (s : Int), s = 0 → (∀ q ∈ l, nodeE q.1 = 0) → (foldP fck s l).1 = 0
  | [], s, hs, _ => hs
  | p :: r, s, hs, h => by
    have h0 := h p (List.mem_cons_self ..)
    have h1 : (fck s p.1 p.2).2 = true := by rw [fck]; simpa using h0
    rw [foldP, if_pos h1]
    exact fold_ck' r _ (by rw [fck]; exact h0) fun q hq => h q (List.mem_cons_of_mem _ hq)
theorem fold_tg : ∀ (l : List (Ex × Nat)) (s : Nat), (foldP ftg s l).2 = true ↔ (l = [] ∨ s + l.length ≤ 200) ∧ ∀ q ∈ l, q.2 ≤ 30
  | [], s => by simp [foldP]
  | p :: r, s => by
    rw [foldP]
    by_cases h : (ftg s p.1 p.2).2 = true
    · rw [if_pos h, fold_tg r]
      rw [ftg] at h ⊢
      simp at h ⊢
      constructor
      · rintro ⟨h1, h2⟩
        refine ⟨?_, h.2, h2⟩
        rcases h1 with rfl | h1
        · simp; omega
        · omega
      · rintro ⟨h1, h2, h3⟩
        exact ⟨.inr (by omega), h3⟩
    · rw [if_neg h]
      rw [ftg] at h
      simp at h ⊢
      intro h1 h2
      have := h (by omega)
      omega
theorem pre_shift : ∀ (x : Ex) (d : Nat), x.pre (d + 1) = (x.pre d).map fun q => (q.1, q.2 + 1) := by
  refine Ex.ind fun op nm vt vn vs pos l ih d => ?_
  rw [Ex.pre, Ex.pre, List.map_cons]
  congr 1
  induction l with
  | nil => rfl
  | cons y ys ihl =>
    rw [Ex.pres, Ex.pres, List.map_append, ih y (List.mem_cons_self ..) (d + 1), ihl fun z hz => ih z (List.mem_cons_of_mem _ hz)]
theorem pres_len {d : Nat} {y : Ex} : ∀ {l : List Ex}, y ∈ l → (y.pre d).length ≤ (Ex.pres d l).length
  | [], h => absurd h (by simp)
  | x :: xs, h => by
    rw [Ex.pres, List.length_append]
    rcases List.mem_cons.1 h with rfl | h
    · omega
    · have := pres_len (d := d) h; omega
theorem ckP_zero {x : Ex} (h : ckP x = 0) : tgB x = false ∧ ∀ q ∈ x.pre 1, nodeE q.1 = 0 := by
  rw [ckP] at h
  cases ht : tgB x
  · rw [ht, if_neg (by simp)] at h
    exact ⟨rfl, fold_ck _ 0 rfl h⟩
  · rw [ht, if_pos rfl] at h
    exact absurd h (by decide)
/-- A part of what is right is right. -/
theorem ckP_part {x y : Ex} (h : ckP x = 0) (hy : y ∈ x.args) : ckP y = 0 := by
  obtain ⟨h1, h2⟩ := ckP_zero h
  have hsub : ∀ q ∈ y.pre 2, q ∈ x.pre 1 := fun q hq => by rw [pre_eq]; exact List.mem_cons_of_mem _ (pres_mem hy q hq)
  have hlen : (y.pre 2).length ≤ (x.pre 1).length := by rw [pre_eq 1 x, List.length_cons]; have h := pres_len (d := 1 + 1) hy; exact Nat.le_succ_of_le h
  have hs := pre_shift y 1
  have hin : ∀ q ∈ y.pre 1, ((q.1, q.2 + 1) : Ex × Nat) ∈ x.pre 1 := fun q hq => hsub _ (by rw [hs]; exact List.mem_map.2 ⟨q, hq, rfl⟩)
  have ht : (foldP ftg 0 (x.pre 1)).2 = true := by rw [tgB] at h1; simpa using h1
  obtain ⟨g1, g2⟩ := (fold_tg _ 0).1 ht
  have hty : tgB y = false := by
    rw [tgB, (fold_tg (y.pre 1) 0).2 ⟨?_, fun q hq => by have := g2 _ (hin q hq); simp at this; omega⟩]
    · rfl
    · right
      have e1 : (y.pre 1).length = (y.pre 2).length := by rw [hs]; simp
      rcases g1 with g1 | g1
      · rw [pre_eq] at g1; simp at g1
      · omega
  rw [ckP, hty, if_neg (by simp)]
  exact fold_ck' (y.pre 1) 0 rfl (fun q hq => h2 (q.1, q.2 + 1) (hin q hq))
theorem apL_le (x : List UInt8) : (apL x opsL).2 = true → (apL x opsL).1 ≤ 3 ∧ 0 ≤ (apL x opsL).1 := by
  have h : ∀ l : List (List UInt8 × Int), (∀ o ∈ l, o.2 ≤ 3 ∧ 0 ≤ o.2) → (apL x l).2 = true → (apL x l).1 ≤ 3 ∧ 0 ≤ (apL x l).1 := fun l => by
    induction l with
    | nil => intro _ h; simp [apL] at h
    | cons o os ih =>
      intro ho
      rw [apL]
      split
      · exact fun _ => ho o (List.mem_cons_self ..)
      · exact ih fun q hq => ho q (List.mem_cons_of_mem _ hq)
  exact h opsL (by decide)
theorem node_ok {x : Ex} (h : nodeE x = 0) : (apL x.op.data.toList opsL).2 = true ∧ (x.args.length : Int) = (apL x.op.data.toList opsL).1 ∧ ((x.op.toList == [118, 97, 108]) = true → ckV x.vt x.vn x.vs.data.toList = 0) := by
  rw [nodeE, nodeB] at h
  split at h
  · exact absurd h (by decide)
  · rename_i h1
    split at h
    · exact absurd h (by decide)
    · rename_i h2
      simp at h1 h2
      refine ⟨h1.1, ?_, fun hv => ?_⟩
      · have := h2.1
        simpa using this
      · rwa [if_pos hv] at h
theorem ck_small {x : Ex} (h : ckP x = 0) : ∀ q ∈ x.pre 1, q.1.args.length ≤ 3 := fun q hq => by
  obtain ⟨h1, h2, _⟩ := node_ok ((ckP_zero h).2 q hq)
  have := apL_le _ h1
  omega
end Go.Proofs.YtkoejkpjkcejcabDoor
namespace Go.Proofs.YtkoejkpjkcejcabDoor
open Go.RowKit
set_option linter.unusedVariables false

/-- A slice of columns. -/
def ColsV (w : World) (v : Value) (zs : List (ByteArray × Int)) : Prop := ∃ q c, v = .slice q zs.length c ∧ (zs.length = 0 ∨ ∃ b off, q = some ⟨b, off, none⟩ ∧ zs.length ≤ c ∧ (∀ z ∈ zs, z.1.size ≤ maxLen) ∧ ColsIn w b off zs)
theorem ColsV.on {w w' : World} {v : Value} {zs : List (ByteArray × Int)} (h : ColsV w v zs) (hb : Below w.heap.size w w') : ColsV w' v zs := by
  obtain ⟨q, c, e, h⟩ := h
  refine ⟨q, c, e, ?_⟩
  rcases h with h | ⟨b, off, e2, h1, h2, h3⟩
  · exact .inl h
  · exact .inr ⟨b, off, e2, h1, h2, h3.on hb⟩
theorem schemaV (v : Value) (zs : List (ByteArray × Int)) (w : World) (hw : TW w) (h : ColsV w v zs) : Calls Tryd.prog 23 #[v] w fun e w' => e = .returned (errV (schE zs)) ∧ Below w.heap.size w w' := by
  obtain ⟨q, c, rfl, h⟩ := h
  rcases h with h | ⟨b, off, rfl, h1, h2, h3⟩
  · rw [h, schE, if_pos h]
    exact (schema_none q c w).mono fun e w' hh => ⟨hh.1, by rw [hh.2]; exact Below.refl _ _⟩
  · exact schema_any b off c zs w hw h1 h2 h3
end Go.Proofs.YtkoejkpjkcejcabDoor
namespace Go.Proofs.YtkoejkpjkcejcabDoor
open Go.RowKit Go.BigFrame
set_option linter.unusedVariables false

/-- What Of says. -/
def ofP (zs : List (ByteArray × Int)) (x : Ex) : Int × Int × Int := if ckP x ≠ 0 then (0, ckP x, 0) else if schE zs ≠ 0 then (0, schE zs, 0) else tyP zs x
set_option maxHeartbeats 4000000 in
set_option maxRecDepth 20000 in
theorem of_any (x : Ex) (lo : Nat → Prop) (v vl : Value) (zs : List (ByteArray × Int)) (w : World) (henv : KEnv w) (hx : ExIn w lo v x) (hsz : (x.pre 1).length ≤ 1048576) (hcv : ColsV w vl zs) (T H P : Int) (hR : ofP zs x = (T, H, P)) :
    Calls Tryd.prog 10 #[v, vl] w fun e w' => e = .returned (.tuple #[.int .i64 T, .agg #[.int .i64 H, .int .i64 P]]) ∧ Below w.heap.size w w' := by
  obtain ⟨o1, n1, t1, k1, s1, p1, m1, c1, a1, rfl⟩ := hx.agg
  obtain ⟨q, c, hvl, hcols⟩ := id hcv
  have b1 : Below w.heap.size w ((w.alloc (.cells #[.string o1, .string n1, .int .i64 t1, .int .i64 k1, .string s1, .slice p1 m1 c1, .int .i64 a1] 26)).alloc (.cells #[.int .i64 0, .int .i64 0] 39)) := ((Below.refl _ w).alloc (Nat.le_refl _) _).alloc (by simp) _
  have key : ∀ w1, Below ((w.alloc (.cells #[.string o1, .string n1, .int .i64 t1, .int .i64 k1, .string s1, .slice p1 m1 c1, .int .i64 a1] 26)).alloc (.cells #[.int .i64 0, .int .i64 0] 39)).heap.size ((w.alloc (.cells #[.string o1, .string n1, .int .i64 t1, .int .i64 k1, .string s1, .slice p1 m1 c1, .int .i64 a1] 26)).alloc (.cells #[.int .i64 0, .int .i64 0] 39)) w1 → (∀ i, w1.cell? ⟨w.heap.size, i, none⟩ = (#[.string o1, .string n1, .int .i64 t1, .int .i64 k1, .string s1, .slice p1 m1 c1, .int .i64 a1] : Array Value)[i]?) ∧ w1.cell? ⟨w.heap.size + 1, 0, none⟩ = some (.int .i64 0) ∧ w1.cell? ⟨w.heap.size + 1, 1, none⟩ = some (.int .i64 0) ∧ (∀ o, w1.frozen? ⟨w.heap.size + 1, o, none⟩ = false) ∧ w.heap.size + 1 < w1.heap.size := fun w1 b2 => by
    have hz := b2.size
    simp at hz
    refine ⟨fun i => ?_, ?_, ?_, fun o => ?_, by omega⟩
    · rw [b2.cell (p := ⟨w.heap.size, i, none⟩) (by simp; omega), World.cell?_alloc_lt _ _ _ (by simp), World.cell?_alloc_at _ _ _ _ rfl]
    · rw [b2.cell (p := ⟨w.heap.size + 1, 0, none⟩) (by simp), World.cell?_alloc_at _ _ _ _ (by simp)]; rfl
    · rw [b2.cell (p := ⟨w.heap.size + 1, 1, none⟩) (by simp), World.cell?_alloc_at _ _ _ _ (by simp)]; rfl
    · rw [b2.frozen (p := ⟨w.heap.size + 1, o, none⟩) (by simp), World.frozen?_alloc_at _ _ _ _ (by simp)]
  have cC := check_tree x lo _ _ (henv.on b1).tenv (hx.on b1) hsz
  have HEN : Aside (KEnv w) := henv
  rw [ofP] at hR
  by_cases hck : ckP x = 0
  · rw [if_neg (fun h => h hck)] at hR
    rw [hck, show errV 0 = .nilIface from rfl] at cC
    have cS := fun W (hb : Below w.heap.size w W) => schemaV vl zs W (henv.on hb).tw (hcv.on hb)
    by_cases hsc : schE zs = 0
    · rw [if_neg (fun h => h hsc)] at hR
      rw [hsc, show errV 0 = .nilIface from rfl] at cS
      obtain ⟨hz1, hz2, _⟩ := schE_zero hsc
      rcases hcols with h | ⟨b, off, rfl, _, _, hco⟩
      · exact absurd h hz1
      subst hvl
      have cT := fun W (hb : Below w.heap.size w W) => typeOf_any zs b off c hz2 x 1 lo _ W T H P (ck_small hck) (henv.on hb) (hx.on hb) (hco.on hb) hR
      clear hck hR hsc hz1 henv hx hcv hco hsz HEN
      go_enter Tryd.func10, Tryd.ntmps10
      go_wp2_with fail
      refine cC.mono ?_
      rintro e w1 ⟨rfl, b2⟩
      have b3 : Below w.heap.size w w1 := b1.trans (b2.mono b1.size)
      go_wp2_with fail
      refine (cS _ b3).mono ?_
      rintro e w2 ⟨rfl, b4⟩
      have b5 : Below w.heap.size w w2 := b3.trans (b4.mono b3.size)
      obtain ⟨gB, _, _, _, hlX⟩ := key w2 (b2.trans (b4.mono b2.size))
      have g0 : w2.cell? ⟨w.heap.size, 0, none⟩ = some (.string o1) := gB 0
      have g1 : w2.cell? ⟨w.heap.size, 1, none⟩ = some (.string n1) := gB 1
      have g2 : w2.cell? ⟨w.heap.size, 2, none⟩ = some (.int .i64 t1) := gB 2
      have g3 : w2.cell? ⟨w.heap.size, 3, none⟩ = some (.int .i64 k1) := gB 3
      have g4 : w2.cell? ⟨w.heap.size, 4, none⟩ = some (.string s1) := gB 4
      have g5 : w2.cell? ⟨w.heap.size, 5, none⟩ = some (.slice p1 m1 c1) := gB 5
      have g6 : w2.cell? ⟨w.heap.size, 6, none⟩ = some (.int .i64 a1) := gB 6
      have hl0 : w.heap.size < w2.heap.size := by omega
      clear gB
      go_wp2_with fail
      refine (cT _ b5).mono ?_
      rintro e w3 ⟨rfl, b6⟩
      obtain ⟨_, f0, f1, ff, hl⟩ := key w3 ((b2.trans (b4.mono b2.size)).trans (b6.mono (Nat.le_trans b2.size b4.size)))
      have b7 : Below w.heap.size w w3 := b5.trans (b6.mono b5.size)
      clear key cC cS cT b1 b2 b3 b4 b5 b6
      go_wp2
      refine bodyPost_ret (v := .tuple #[.int .i64 T, .agg #[.int .i64 H, .int .i64 P]]) (by simp [results, Tryd.results10, go_sem, World.cell?_setCell_other, World.cell?_setCell_same, f0, f1]) rfl ⟨rfl, ?_⟩
      exact (b7.setCell (p := ⟨w.heap.size + 1, 0, none⟩) (Nat.le_succ _) _).setCell (p := ⟨w.heap.size + 1, 1, none⟩) (Nat.le_succ _) _
    · rw [if_pos hsc] at hR
      simp only [Prod.mk.injEq] at hR
      obtain ⟨rfl, rfl, rfl⟩ := hR
      have hU : errV (schE zs) = .iface 37 (.int .i64 (schE zs)) := if_neg hsc
      rw [hU] at cS
      subst hvl
      clear hck hsc henv hx hcv hcols hsz hU
      generalize schE zs = SC at *
      go_enter Tryd.func10, Tryd.ntmps10
      go_wp2_with fail
      refine cC.mono ?_
      rintro e w1 ⟨rfl, b2⟩
      have b3 : Below w.heap.size w w1 := b1.trans (b2.mono b1.size)
      go_wp2_with fail
      refine (cS _ b3).mono ?_
      rintro e w2 ⟨rfl, b4⟩
      have b5 : Below w.heap.size w w2 := b3.trans (b4.mono b3.size)
      have cP := faultOf_any SC 0 w2 (HEN.out.on b5)
      go_wp2_with fail
      refine cP.mono ?_
      rintro e w3 ⟨rfl, b6⟩
      obtain ⟨_, f0, f1, ff, hl⟩ := key w3 ((b2.trans (b4.mono b2.size)).trans (b6.mono (Nat.le_trans b2.size b4.size)))
      have b7 : Below w.heap.size w w3 := b5.trans (b6.mono b5.size)
      clear key cC cS cP b1 b2 b3 b4 b5 b6
      go_wp2
      refine bodyPost_ret (v := .tuple #[.int .i64 0, .agg #[.int .i64 SC, .int .i64 0]]) (by simp [results, Tryd.results10, go_sem, World.cell?_setCell_other, World.cell?_setCell_same, f0, f1]) rfl ⟨rfl, ?_⟩
      exact (b7.setCell (p := ⟨w.heap.size + 1, 0, none⟩) (Nat.le_succ _) _).setCell (p := ⟨w.heap.size + 1, 1, none⟩) (Nat.le_succ _) _
  · rw [if_pos hck] at hR
    simp only [Prod.mk.injEq] at hR
    obtain ⟨rfl, rfl, rfl⟩ := hR
    have hU : errV (ckP x) = .iface 37 (.int .i64 (ckP x)) := if_neg hck
    rw [hU] at cC
    subst hvl
    clear hck henv hx hcv hcols hsz hU
    generalize ckP x = SC at *
    go_enter Tryd.func10, Tryd.ntmps10
    go_wp2_with fail
    refine cC.mono ?_
    rintro e w1 ⟨rfl, b2⟩
    have b3 : Below w.heap.size w w1 := b1.trans (b2.mono b1.size)
    have cP := faultOf_any SC 0 w1 (HEN.out.on b3)
    go_wp2_with fail
    refine cP.mono ?_
    rintro e w3 ⟨rfl, b6⟩
    obtain ⟨_, f0, f1, ff, hl⟩ := key w3 (b2.trans (b6.mono b2.size))
    have b7 : Below w.heap.size w w3 := b3.trans (b6.mono b3.size)
    clear key cC cP b1 b2 b3 b6
    go_wp2
    refine bodyPost_ret (v := .tuple #[.int .i64 0, .agg #[.int .i64 SC, .int .i64 0]]) (by simp [results, Tryd.results10, go_sem, World.cell?_setCell_other, World.cell?_setCell_same, f0, f1]) rfl ⟨rfl, ?_⟩
    exact (b7.setCell (p := ⟨w.heap.size + 1, 0, none⟩) (Nat.le_succ _) _).setCell (p := ⟨w.heap.size + 1, 1, none⟩) (Nat.le_succ _) _
end Go.Proofs.YtkoejkpjkcejcabDoor
namespace Go.Proofs.YtkoejkpjkcejcabDoor
open Go.RowKit Go.BigFrame
set_option linter.unusedVariables false

theorem apL_mem {x : List UInt8} : ∀ {l : List (List UInt8 × Int)}, (apL x l).2 = true → (x, (apL x l).1) ∈ l
  | [], h => by simp [apL] at h
  | o :: os, h => by
    rw [apL] at h ⊢
    split
    · rename_i he; subst he; exact List.mem_cons_self ..
    · rename_i he; rw [if_neg he] at h; exact List.mem_cons_of_mem _ (apL_mem h)
def ruleFits (o : List UInt8 × Int) : Bool := decide (o.2 < 1) || (match kdFind o.1 kdRules with | some r => decide ((kdCnt r : Int) = o.2) | none => false)
theorem rules_fit : ∀ o ∈ opsL, ruleFits o = true := by decide
theorem rule_of_op {x : List UInt8} (h : (apL x opsL).2 = true) (h1 : 1 ≤ (apL x opsL).1) : ∃ r, kdFind x kdRules = some r ∧ (kdCnt r : Int) = (apL x opsL).1 := by
  have hf := rules_fit _ (apL_mem h)
  rw [ruleFits] at hf
  simp only at hf
  have h2 : decide ((apL x opsL).1 < 1) = false := by simp; omega
  rw [h2, Bool.false_or] at hf
  split at hf
  · rename_i r hr
    exact ⟨r, hr, of_decide_eq_true hf⟩
  · exact absurd hf (by simp)
theorem rule_types : ∀ r ∈ kdRules, r.2.2.2.2 = -1 ∨ isTy r.2.2.2.2 = true := by decide
theorem ruleP_ty {x : List UInt8} {ts : List Int} (h : (ruleP x ts).2 = 0) : isTy (ruleP x ts).1 = true := by
  cases hf : kdFind x kdRules with
  | none => rw [ruleP_none hf] at h; exact absurd h (by decide)
  | some r =>
    cases ha : ts.all isTy with
    | false => rw [ruleP_bad hf ha] at h; exact absurd h (by decide)
    | true =>
      by_cases hl : ts.length = kdCnt r
      · rw [ruleP_rest hf ha hl] at h ⊢
        split at h
        · rename_i hk
          rw [if_pos hk]
          have hm := (kdFind_mem hf).1
          rw [kdMeant]
          rcases rule_types r hm with h1 | h1
          · rw [if_pos h1]
            obtain ⟨n, hn⟩ : ∃ n, ts.length = n + 1 := ⟨ts.length - 1, by have := (kdCnt_ok r hm).1; omega⟩
            rw [last_at hn]
            exact List.all_eq_true.1 ha _ (List.getElem_mem _)
          · split
            · rename_i h2; rw [h2] at h1; exact absurd h1 (by decide)
            · exact h1
        · exact absurd h (by decide)
      · rw [ruleP_len hf ha hl] at h; exact absurd h (by decide)
theorem ruleP_err {x : List UInt8} {ts : List Int} {r : KRule} (hf : kdFind x kdRules = some r) (ha : ts.all isTy = true) (hl : ts.length = kdCnt r) : (ruleP x ts).2 = 0 ∨ ruleP x ts = (0, 8) := by
  rw [ruleP_rest hf ha hl]
  split
  · exact .inl rfl
  · exact .inr rfl
theorem tyP_ty {zs : List (ByteArray × Int)} {y : Ex} (hn : nodeE y = 0) (hs : schE zs = 0) (h : (tyP zs y).2.1 = 0) : isTy (tyP zs y).1 = true := by
  cases y with
  | node op nm vt vn vs pos l =>
    by_cases h1 : op.data.toList = [118, 97, 108]
    · have hv : ckV vt vn vs.data.toList = 0 := (node_ok hn).2.2 (by show (op.toList == [118, 97, 108]) = true; rw [Lib.toList_data]; simpa using h1)
      rw [tyP, if_pos h1]
      rw [ckV] at hv
      split at hv
      · rename_i h2; exact absurd hv h2
      · rename_i h2
        have h3 : chk vt vn vs.data.toList = 0 := by simpa using h2
        rw [chk] at h3
        split at h3
        · exact absurd h3 (by decide)
        · rename_i h4
          rw [isTy]
          simp at h4 ⊢
          omega
    · by_cases h2 : op.data.toList = [99, 111, 108]
      · rw [tyP, if_neg h1, if_pos h2] at h ⊢
        split at h
        · exact absurd (show (5 : Int) = 0 from h) (by decide)
        · rename_i h3
          rw [if_neg h3]
          rcases findN_cases nm.data.toList zs with ⟨hh, _⟩ | ⟨k, hk, hkl, _⟩
          · exact absurd hh h3
          · have := (schE_zero hs).2.2 k hkl
            rw [hk]
            simp [hkl, isTy]
            omega
      · rw [tyP_op h1 h2] at h ⊢
        split at h
        · rename_i h3; exact absurd h h3
        · rename_i h3
          rw [if_neg h3]
          split at h
          · rename_i h4; exact absurd h h4
          · rename_i h4
            rw [if_neg h4]
            exact ruleP_ty (by simpa using h4)
/-- An operation with parts is no value and no column. -/
theorem op_parts {x : Ex} (h : ckP x = 0) (hl : x.args.length ≠ 0) : x.op.data.toList ≠ [118, 97, 108] ∧ x.op.data.toList ≠ [99, 111, 108] ∧ ∃ r, kdFind x.op.data.toList kdRules = some r ∧ kdCnt r = x.args.length := by
  have hn := (ckP_zero h).2 (x, 1) (by rw [pre_eq]; exact List.mem_cons_self ..)
  obtain ⟨h1, h2, _⟩ := node_ok hn
  simp only at h1 h2
  refine ⟨fun e => ?_, fun e => ?_, ?_⟩
  · rw [e] at h2; have : (apL [118, 97, 108] opsL).1 = 0 := by decide
    omega
  · rw [e] at h2; have : (apL [99, 111, 108] opsL).1 = 0 := by decide
    omega
  · obtain ⟨r, hr, hc⟩ := rule_of_op h1 (by omega)
    exact ⟨r, hr, by omega⟩
end Go.Proofs.YtkoejkpjkcejcabDoor
namespace Go.Proofs.YtkoejkpjkcejcabDoor
open Go.RowKit
set_option linter.unusedVariables false
--BEGIN
mutual
/-- What an expression that is right comes to, of a row that is right. -/
def cmP (zs : List (ByteArray × Int)) (rs : List V3) : Ex → V3 × Int
  | .node op nm vt vn vs _ l => if op.data.toList = [118, 97, 108] then ((vt, vn, vs), 0) else if op.data.toList = [99, 111, 108] then (rs[(findN nm.data.toList zs).toNat]?.getD noV, 0) else combP op.data.toList (cmsP zs rs l)
def cmsP (zs : List (ByteArray × Int)) (rs : List V3) : List Ex → List (V3 × Int)
  | [] => []
  | x :: xs => cmP zs rs x :: cmsP zs rs xs
end
theorem cmsP_map (zs : List (ByteArray × Int)) (rs : List V3) : ∀ l : List Ex, cmsP zs rs l = l.map (cmP zs rs)
  | [] => by rw [cmsP]; rfl
  | x :: xs => by rw [cmsP, cmsP_map zs rs xs]; rfl
theorem cmP_op {zs : List (ByteArray × Int)} {rs : List V3} {op nm vs : ByteArray} {vt vn pos : Int} {l : List Ex} (h1 : op.data.toList ≠ [118, 97, 108]) (h2 : op.data.toList ≠ [99, 111, 108]) : cmP zs rs (.node op nm vt vn vs pos l) = combP op.data.toList (l.map (cmP zs rs)) := by
  rw [cmP, if_neg h1, if_neg h2, cmsP_map]
theorem tysP_ok {zs : List (ByteArray × Int)} : ∀ {l : List Ex}, (tysP zs l).2.1 = 0 → (tysP zs l).1 = l.map (fun y => (tyP zs y).1) ∧ ∀ y ∈ l, (tyP zs y).2.1 = 0
  | [], _ => by rw [tysP]; simp
  | x :: xs, h => by
    rw [tysP] at h ⊢
    by_cases h1 : (tyP zs x).2.1 = 0
    · rw [if_neg (fun hh => hh h1)] at h ⊢
      by_cases h2 : (tysP zs xs).2.1 = 0
      · rw [if_neg (fun hh => hh h2)]
        obtain ⟨i1, i2⟩ := tysP_ok h2
        refine ⟨by rw [i1]; rfl, fun y hy => ?_⟩
        rcases List.mem_cons.1 hy with rfl | hy
        · exact h1
        · exact i2 y hy
      · rw [if_pos h2] at h
        exact absurd h h2
    · rw [if_pos h1] at h
      exact absurd h h1
/-- What has a type comes to it, or a number goes over. -/
theorem cm_comes {zs : List (ByteArray × Int)} {rs : List V3} (hrow : RowR zs rs) : ∀ (x : Ex) (d : Nat), (∀ q ∈ x.pre d, nodeE q.1 = 0) → (∀ q ∈ x.pre d, inB q.1.vn) → (tyP zs x).2.1 = 0 → comes (tyP zs x).1 (cmP zs rs x) := by
  refine Ex.ind fun op nm vt vn vs pos l ih d hpre hin ht => ?_
  have hself : ((.node op nm vt vn vs pos l : Ex), d) ∈ (Ex.node op nm vt vn vs pos l).pre d := by rw [Ex.pre]; exact List.mem_cons_self ..
  by_cases h1 : op.data.toList = [118, 97, 108]
  · rw [tyP, if_pos h1, cmP, if_pos h1]
    have hn := (node_ok (hpre _ hself)).2.2 (by simp [Ex.op, Lib.toList_data, h1])
    have hi := hin _ hself
    simp only [Ex.vt, Ex.vn, Ex.vs] at hn hi
    unfold ckV at hn
    by_cases hc : chk vt vn vs.data.toList = 0
    · exact .inl ⟨rfl, rfl, hc, hi⟩
    · rw [if_pos hc] at hn
      exact absurd hn hc
  · by_cases h2 : op.data.toList = [99, 111, 108]
    · rw [tyP, if_neg h1, if_pos h2] at ht ⊢
      rw [cmP, if_neg h1, if_pos h2]
      rcases findN_cases nm.data.toList zs with ⟨h, _⟩ | ⟨k, hk, hlt, _⟩
      · rw [if_pos h] at ht
        exact absurd ht (by simp)
      · rw [if_neg (by omega), hk]
        have hl := hrow.1
        have := hrow.2 k hlt (by omega)
        refine .inl ⟨rfl, ?_⟩
        rw [Int.toNat_natCast, List.getElem?_eq_getElem hlt, List.getElem?_eq_getElem (by omega)]
        exact this
    · rw [tyP_op h1 h2] at ht ⊢
      rw [cmP_op h1 h2]
      by_cases ht0 : (tysP zs l).2.1 = 0
      · rw [if_neg (fun hh => hh ht0)] at ht ⊢
        obtain ⟨hm, hall⟩ := tysP_ok ht0
        by_cases hr0 : (ruleP op.data.toList (tysP zs l).1).2 = 0
        · rw [if_neg (fun hh => hh hr0)]
          rw [hm] at hr0 ⊢
          refine comb_comes (f := fun y => (tyP zs y).1) (fun y hy => ?_) (Prod.ext rfl hr0)
          have hsub : ∀ q ∈ y.pre (d + 1), q ∈ (Ex.node op nm vt vn vs pos l).pre d := fun q hq => by
            rw [Ex.pre]; exact List.mem_cons_of_mem _ (pres_mem hy q hq)
          exact ih y hy (d + 1) (fun q hq => hpre q (hsub q hq)) (fun q hq => hin q (hsub q hq)) (hall y hy)
        · rw [if_pos hr0] at ht
          exact absurd ht hr0
      · rw [if_pos ht0] at ht
        exact absurd ht ht0
--END
end Go.Proofs.YtkoejkpjkcejcabDoor
