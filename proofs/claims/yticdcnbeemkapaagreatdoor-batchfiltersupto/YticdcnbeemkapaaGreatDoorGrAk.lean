/-
  KdOf, ColV, KdOfB, KdOpen, VlB, in one text.
-/
import Derived.Test.YticdcnbeemkapaaGreatDoorQKdTy
import Derived.Test.YticdcnbeemkapaaGreatDoorGrAg
import Derived.Test.YticdcnbeemkapaaGreatDoorGrAa
import Derived.Test.YticdcnbeemkapaaGreatDoorGrAh
import Derived.Deep.Strs
import Derived.OwnWalk
import Derived.Deep.Heap
namespace Go.Proofs.YticdcnbeemkapaaGreatDoor
open Go.RowKit Go.BigFrame
set_option linter.unusedVariables false

theorem fold_ck : ∀ (l : List (Ex × Nat)) (s : Int), s = 0 → (foldP fck s l).1 = 0 → ∀ q ∈ l, nodeE q.1 = 0
  | [], _, _, _, q, hq => absurd hq (by simp)
  | p :: r, s, hs, h, q, hq => by
    rw [foldP] at h
    by_cases h0 : nodeE p.1 = 0
    · have h1 : (fck s p.1 p.2).2 = true := by rw [fck]; simpa using h0
      rw [if_pos h1] at h
      rcases List.mem_cons.1 hq with rfl | hq
      · exact h0
      · exact fold_ck r _ (by rw [fck]; exact h0) h q hq
    · have h1 : ¬ (fck s p.1 p.2).2 = true := by rw [fck]; simpa using h0
      rw [if_neg h1] at h
      exact absurd h h0
theorem fold_ck' : ∀ (l : List (Ex × Nat)) (s : Int), s = 0 → (∀ q ∈ l, nodeE q.1 = 0) → (foldP fck s l).1 = 0
  | [], s, hs, _ => hs
  | p :: r, s, hs, h => by
    have h0 := h p (List.mem_cons_self ..)
    have h1 : (fck s p.1 p.2).2 = true := by rw [fck]; simpa using h0
    rw [foldP, if_pos h1]
    exact fold_ck' r _ (by rw [fck]; exact h0) fun q hq => h q (List.mem_cons_of_mem _ hq)
theorem fold_tg : ∀ (l : List (Ex × Nat)) (s : Nat), (foldP ftg s l).2 = true ↔ (l = [] ∨ s + l.length ≤ 200) ∧ ∀ q ∈ l, q.2 ≤ 30
  | [], s => by simp [foldP]
  | p :: r, s => by
    rw [foldP]
    by_cases h : (ftg s p.1 p.2).2 = true
    · rw [if_pos h, fold_tg r]
      rw [ftg] at h ⊢
      simp at h ⊢
      constructor
      · rintro ⟨h1, h2⟩
        refine ⟨?_, h.2, h2⟩
        rcases h1 with rfl | h1
        · simp; omega
        · omega
      · rintro ⟨h1, h2, h3⟩
        exact ⟨.inr (by omega), h3⟩
    · rw [if_neg h]
      rw [ftg] at h
      simp at h ⊢
      intro h1 h2
      have := h (by omega)
      omega
theorem pre_shift : ∀ (x : Ex) (d : Nat), x.pre (d + 1) = (x.pre d).map fun q => (q.1, q.2 + 1) := by
  refine Ex.ind fun op nm vt vn vs pos l ih d => ?_
  rw [Ex.pre, Ex.pre, List.map_cons]
  congr 1
  induction l with
  | nil => rfl
  | cons y ys ihl =>
    rw [Ex.pres, Ex.pres, List.map_append, ih y (List.mem_cons_self ..) (d + 1), ihl fun z hz => ih z (List.mem_cons_of_mem _ hz)]
theorem pres_len {d : Nat} {y : Ex} : ∀ {l : List Ex}, y ∈ l → (y.pre d).length ≤ (Ex.pres d l).length
  | [], h => absurd h (by simp)
  | x :: xs, h => by
    rw [Ex.pres, List.length_append]
    rcases List.mem_cons.1 h with rfl | h
    · omega
    · have := pres_len (d := d) h; omega
theorem ckP_zero {x : Ex} (h : ckP x = 0) : tgB x = false ∧ ∀ q ∈ x.pre 1, nodeE q.1 = 0 := by
  rw [ckP] at h
  cases ht : tgB x
  · rw [ht, if_neg (by simp)] at h
    exact ⟨rfl, fold_ck _ 0 rfl h⟩
  · rw [ht, if_pos rfl] at h
    exact absurd h (by decide)
/-- A part of what is right is right. -/
theorem ckP_part {x y : Ex} (h : ckP x = 0) (hy : y ∈ x.args) : ckP y = 0 := by
  obtain ⟨h1, h2⟩ := ckP_zero h
  have hsub : ∀ q ∈ y.pre 2, q ∈ x.pre 1 := fun q hq => by rw [pre_eq]; exact List.mem_cons_of_mem _ (pres_mem hy q hq)
  have hlen : (y.pre 2).length ≤ (x.pre 1).length := by rw [pre_eq 1 x, List.length_cons]; have h := pres_len (d := 1 + 1) hy; exact Nat.le_succ_of_le h
  have hs := pre_shift y 1
  have hin : ∀ q ∈ y.pre 1, ((q.1, q.2 + 1) : Ex × Nat) ∈ x.pre 1 := fun q hq => hsub _ (by rw [hs]; exact List.mem_map.2 ⟨q, hq, rfl⟩)
  have ht : (foldP ftg 0 (x.pre 1)).2 = true := by rw [tgB] at h1; simpa using h1
  obtain ⟨g1, g2⟩ := (fold_tg _ 0).1 ht
  have hty : tgB y = false := by
    rw [tgB, (fold_tg (y.pre 1) 0).2 ⟨?_, fun q hq => by have := g2 _ (hin q hq); simp at this; omega⟩]
    · rfl
    · right
      have e1 : (y.pre 1).length = (y.pre 2).length := by rw [hs]; simp
      rcases g1 with g1 | g1
      · rw [pre_eq] at g1; simp at g1
      · omega
  rw [ckP, hty, if_neg (by simp)]
  exact fold_ck' (y.pre 1) 0 rfl (fun q hq => h2 (q.1, q.2 + 1) (hin q hq))
theorem apL_le (x : List UInt8) : (apL x opsL).2 = true → (apL x opsL).1 ≤ 3 ∧ 0 ≤ (apL x opsL).1 := by
  have h : ∀ l : List (List UInt8 × Int), (∀ o ∈ l, o.2 ≤ 3 ∧ 0 ≤ o.2) → (apL x l).2 = true → (apL x l).1 ≤ 3 ∧ 0 ≤ (apL x l).1 := fun l => by
    induction l with
    | nil => intro _ h; simp [apL] at h
    | cons o os ih =>
      intro ho
      rw [apL]
      split
      · exact fun _ => ho o (List.mem_cons_self ..)
      · exact ih fun q hq => ho q (List.mem_cons_of_mem _ hq)
  exact h opsL (by decide)
theorem node_ok {x : Ex} (h : nodeE x = 0) : (apL x.op.data.toList opsL).2 = true ∧ (x.args.length : Int) = (apL x.op.data.toList opsL).1 ∧ ((x.op.toList == [118, 97, 108]) = true → ckV x.vt x.vn x.vs.data.toList = 0) := by
  rw [nodeE, nodeB] at h
  split at h
  · exact absurd h (by decide)
  · rename_i h1
    split at h
    · exact absurd h (by decide)
    · rename_i h2
      simp at h1 h2
      refine ⟨h1.1, ?_, fun hv => ?_⟩
      · have := h2.1
        simpa using this
      · rwa [if_pos hv] at h
theorem ck_small {x : Ex} (h : ckP x = 0) : ∀ q ∈ x.pre 1, q.1.args.length ≤ 3 := fun q hq => by
  obtain ⟨h1, h2, _⟩ := node_ok ((ckP_zero h).2 q hq)
  have := apL_le _ h1
  omega
end Go.Proofs.YticdcnbeemkapaaGreatDoor
namespace Go.Proofs.YticdcnbeemkapaaGreatDoor
open Go.RowKit
set_option linter.unusedVariables false

/-- A slice of columns. -/
def ColsV (w : World) (v : Value) (zs : List (ByteArray × Int)) : Prop := ∃ q c, v = .slice q zs.length c ∧ (zs.length = 0 ∨ ∃ b off, q = some ⟨b, off, none⟩ ∧ zs.length ≤ c ∧ (∀ z ∈ zs, z.1.size ≤ maxLen) ∧ ColsIn w b off zs)
theorem ColsV.on {w w' : World} {v : Value} {zs : List (ByteArray × Int)} (h : ColsV w v zs) (hb : Below w.heap.size w w') : ColsV w' v zs := by
  obtain ⟨q, c, e, h⟩ := h
  refine ⟨q, c, e, ?_⟩
  rcases h with h | ⟨b, off, e2, h1, h2, h3⟩
  · exact .inl h
  · exact .inr ⟨b, off, e2, h1, h2, h3.on hb⟩
theorem schemaV (v : Value) (zs : List (ByteArray × Int)) (w : World) (hw : TW w) (h : ColsV w v zs) : Calls Tryz.prog 12 #[v] w fun e w' => e = .returned (errV (schE zs)) ∧ Below w.heap.size w w' := by
  obtain ⟨q, c, rfl, h⟩ := h
  rcases h with h | ⟨b, off, rfl, h1, h2, h3⟩
  · rw [h, schE, if_pos h]
    exact (schema_none q c w).mono fun e w' hh => ⟨hh.1, by rw [hh.2]; exact Below.refl _ _⟩
  · exact schema_any b off c zs w hw h1 h2 h3
end Go.Proofs.YticdcnbeemkapaaGreatDoor
namespace Go.Proofs.YticdcnbeemkapaaGreatDoor
open Go.RowKit Go.BigFrame
set_option linter.unusedVariables false

/-- What Of says. -/
def ofP (zs : List (ByteArray × Int)) (x : Ex) : Int × Int × Int := if ckP x ≠ 0 then (0, ckP x, 0) else if schE zs ≠ 0 then (0, schE zs, 0) else tyP zs x
set_option maxHeartbeats 4000000 in
set_option maxRecDepth 20000 in
theorem of_any (x : Ex) (lo : Nat → Prop) (v vl : Value) (zs : List (ByteArray × Int)) (w : World) (henv : KEnv w) (hx : ExIn w lo v x) (hsz : (x.pre 1).length ≤ 1048576) (hcv : ColsV w vl zs) (T H P : Int) (hR : ofP zs x = (T, H, P)) :
    Calls Tryz.prog 6 #[v, vl] w fun e w' => e = .returned (.tuple #[.int .i64 T, .agg #[.int .i64 H, .int .i64 P]]) ∧ Below w.heap.size w w' := by
  obtain ⟨o1, n1, t1, k1, s1, p1, m1, c1, a1, rfl⟩ := hx.agg
  obtain ⟨q, c, hvl, hcols⟩ := id hcv
  have b1 : Below w.heap.size w ((w.alloc (.cells #[.string o1, .string n1, .int .i64 t1, .int .i64 k1, .string s1, .slice p1 m1 c1, .int .i64 a1] 26)).alloc (.cells #[.int .i64 0, .int .i64 0] 46)) := ((Below.refl _ w).alloc (Nat.le_refl _) _).alloc (by simp) _
  have key : ∀ w1, Below ((w.alloc (.cells #[.string o1, .string n1, .int .i64 t1, .int .i64 k1, .string s1, .slice p1 m1 c1, .int .i64 a1] 26)).alloc (.cells #[.int .i64 0, .int .i64 0] 46)).heap.size ((w.alloc (.cells #[.string o1, .string n1, .int .i64 t1, .int .i64 k1, .string s1, .slice p1 m1 c1, .int .i64 a1] 26)).alloc (.cells #[.int .i64 0, .int .i64 0] 46)) w1 → (∀ i, w1.cell? ⟨w.heap.size, i, none⟩ = (#[.string o1, .string n1, .int .i64 t1, .int .i64 k1, .string s1, .slice p1 m1 c1, .int .i64 a1] : Array Value)[i]?) ∧ w1.cell? ⟨w.heap.size + 1, 0, none⟩ = some (.int .i64 0) ∧ w1.cell? ⟨w.heap.size + 1, 1, none⟩ = some (.int .i64 0) ∧ (∀ o, w1.frozen? ⟨w.heap.size + 1, o, none⟩ = false) ∧ w.heap.size + 1 < w1.heap.size := fun w1 b2 => by
    have hz := b2.size
    simp at hz
    refine ⟨fun i => ?_, ?_, ?_, fun o => ?_, by omega⟩
    · rw [b2.cell (p := ⟨w.heap.size, i, none⟩) (by simp; omega), World.cell?_alloc_lt _ _ _ (by simp), World.cell?_alloc_at _ _ _ _ rfl]
    · rw [b2.cell (p := ⟨w.heap.size + 1, 0, none⟩) (by simp), World.cell?_alloc_at _ _ _ _ (by simp)]; rfl
    · rw [b2.cell (p := ⟨w.heap.size + 1, 1, none⟩) (by simp), World.cell?_alloc_at _ _ _ _ (by simp)]; rfl
    · rw [b2.frozen (p := ⟨w.heap.size + 1, o, none⟩) (by simp), World.frozen?_alloc_at _ _ _ _ (by simp)]
  have cC := check_tree x lo _ _ (henv.on b1).tenv (hx.on b1) hsz
  have HEN : Aside (KEnv w) := henv
  rw [ofP] at hR
  by_cases hck : ckP x = 0
  · rw [if_neg (fun h => h hck)] at hR
    rw [hck, show errV 0 = .nilIface from rfl] at cC
    have cS := fun W (hb : Below w.heap.size w W) => schemaV vl zs W (henv.on hb).tw (hcv.on hb)
    by_cases hsc : schE zs = 0
    · rw [if_neg (fun h => h hsc)] at hR
      rw [hsc, show errV 0 = .nilIface from rfl] at cS
      obtain ⟨hz1, hz2, _⟩ := schE_zero hsc
      rcases hcols with h | ⟨b, off, rfl, _, _, hco⟩
      · exact absurd h hz1
      subst hvl
      have cT := fun W (hb : Below w.heap.size w W) => typeOf_any zs b off c hz2 x 1 lo _ W T H P (ck_small hck) (henv.on hb) (hx.on hb) (hco.on hb) hR
      clear hck hR hsc hz1 henv hx hcv hco hsz HEN
      go_enter Tryz.func6, Tryz.ntmps6
      go_wp2_with fail
      refine cC.mono ?_
      rintro e w1 ⟨rfl, b2⟩
      have b3 : Below w.heap.size w w1 := b1.trans (b2.mono b1.size)
      go_wp2_with fail
      refine (cS _ b3).mono ?_
      rintro e w2 ⟨rfl, b4⟩
      have b5 : Below w.heap.size w w2 := b3.trans (b4.mono b3.size)
      obtain ⟨gB, _, _, _, hlX⟩ := key w2 (b2.trans (b4.mono b2.size))
      have g0 : w2.cell? ⟨w.heap.size, 0, none⟩ = some (.string o1) := gB 0
      have g1 : w2.cell? ⟨w.heap.size, 1, none⟩ = some (.string n1) := gB 1
      have g2 : w2.cell? ⟨w.heap.size, 2, none⟩ = some (.int .i64 t1) := gB 2
      have g3 : w2.cell? ⟨w.heap.size, 3, none⟩ = some (.int .i64 k1) := gB 3
      have g4 : w2.cell? ⟨w.heap.size, 4, none⟩ = some (.string s1) := gB 4
      have g5 : w2.cell? ⟨w.heap.size, 5, none⟩ = some (.slice p1 m1 c1) := gB 5
      have g6 : w2.cell? ⟨w.heap.size, 6, none⟩ = some (.int .i64 a1) := gB 6
      have hl0 : w.heap.size < w2.heap.size := by omega
      clear gB
      go_wp2_with fail
      refine (cT _ b5).mono ?_
      rintro e w3 ⟨rfl, b6⟩
      obtain ⟨_, f0, f1, ff, hl⟩ := key w3 ((b2.trans (b4.mono b2.size)).trans (b6.mono (Nat.le_trans b2.size b4.size)))
      have b7 : Below w.heap.size w w3 := b5.trans (b6.mono b5.size)
      clear key cC cS cT b1 b2 b3 b4 b5 b6
      go_wp2
      refine bodyPost_ret (v := .tuple #[.int .i64 T, .agg #[.int .i64 H, .int .i64 P]]) (by simp [results, Tryz.results6, go_sem, World.cell?_setCell_other, World.cell?_setCell_same, f0, f1]) rfl ⟨rfl, ?_⟩
      exact (b7.setCell (p := ⟨w.heap.size + 1, 0, none⟩) (Nat.le_succ _) _).setCell (p := ⟨w.heap.size + 1, 1, none⟩) (Nat.le_succ _) _
    · rw [if_pos hsc] at hR
      simp only [Prod.mk.injEq] at hR
      obtain ⟨rfl, rfl, rfl⟩ := hR
      have hU : errV (schE zs) = .iface 42 (.int .i64 (schE zs)) := if_neg hsc
      rw [hU] at cS
      subst hvl
      clear hck hsc henv hx hcv hcols hsz hU
      generalize schE zs = SC at *
      go_enter Tryz.func6, Tryz.ntmps6
      go_wp2_with fail
      refine cC.mono ?_
      rintro e w1 ⟨rfl, b2⟩
      have b3 : Below w.heap.size w w1 := b1.trans (b2.mono b1.size)
      go_wp2_with fail
      refine (cS _ b3).mono ?_
      rintro e w2 ⟨rfl, b4⟩
      have b5 : Below w.heap.size w w2 := b3.trans (b4.mono b3.size)
      have cP := faultOf_any SC 0 w2 (HEN.out.on b5)
      go_wp2_with fail
      refine cP.mono ?_
      rintro e w3 ⟨rfl, b6⟩
      obtain ⟨_, f0, f1, ff, hl⟩ := key w3 ((b2.trans (b4.mono b2.size)).trans (b6.mono (Nat.le_trans b2.size b4.size)))
      have b7 : Below w.heap.size w w3 := b5.trans (b6.mono b5.size)
      clear key cC cS cP b1 b2 b3 b4 b5 b6
      go_wp2
      refine bodyPost_ret (v := .tuple #[.int .i64 0, .agg #[.int .i64 SC, .int .i64 0]]) (by simp [results, Tryz.results6, go_sem, World.cell?_setCell_other, World.cell?_setCell_same, f0, f1]) rfl ⟨rfl, ?_⟩
      exact (b7.setCell (p := ⟨w.heap.size + 1, 0, none⟩) (Nat.le_succ _) _).setCell (p := ⟨w.heap.size + 1, 1, none⟩) (Nat.le_succ _) _
  · rw [if_pos hck] at hR
    simp only [Prod.mk.injEq] at hR
    obtain ⟨rfl, rfl, rfl⟩ := hR
    have hU : errV (ckP x) = .iface 42 (.int .i64 (ckP x)) := if_neg hck
    rw [hU] at cC
    subst hvl
    clear hck henv hx hcv hcols hsz hU
    generalize ckP x = SC at *
    go_enter Tryz.func6, Tryz.ntmps6
    go_wp2_with fail
    refine cC.mono ?_
    rintro e w1 ⟨rfl, b2⟩
    have b3 : Below w.heap.size w w1 := b1.trans (b2.mono b1.size)
    have cP := faultOf_any SC 0 w1 (HEN.out.on b3)
    go_wp2_with fail
    refine cP.mono ?_
    rintro e w3 ⟨rfl, b6⟩
    obtain ⟨_, f0, f1, ff, hl⟩ := key w3 (b2.trans (b6.mono b2.size))
    have b7 : Below w.heap.size w w3 := b3.trans (b6.mono b3.size)
    clear key cC cP b1 b2 b3 b6
    go_wp2
    refine bodyPost_ret (v := .tuple #[.int .i64 0, .agg #[.int .i64 SC, .int .i64 0]]) (by simp [results, Tryz.results6, go_sem, World.cell?_setCell_other, World.cell?_setCell_same, f0, f1]) rfl ⟨rfl, ?_⟩
    exact (b7.setCell (p := ⟨w.heap.size + 1, 0, none⟩) (Nat.le_succ _) _).setCell (p := ⟨w.heap.size + 1, 1, none⟩) (Nat.le_succ _) _
end Go.Proofs.YticdcnbeemkapaaGreatDoor
namespace Go.Proofs.YticdcnbeemkapaaGreatDoor
open Go.ChangeShapes Go.WideShapes Go.ChangeAt Go.RowKit Go.Deep
set_option linter.unusedVariables false

instance : Inhabited Ex := ⟨.node ⟨#[]⟩ ⟨#[]⟩ 0 0 ⟨#[]⟩ 0 []⟩
theorem pres_bulk {H : Type} : ∀ (l : List Ex) (es : List (DataW H)), l.length = es.length → (∀ i (h : i < l.length) (h2 : i < es.length), (l[i].pre 1).length ≤ Rows.uptoBulk es[i]) → (Ex.pres 2 l).length ≤ Rows.uptoBulkAll es
  | [], [], _, _ => by rw [Ex.pres]; simp
  | x :: xs, e :: es, hl, h => by
    rw [Ex.pres, List.length_append, Rows.uptoBulkAll]
    have h0 := h 0 (by simp) (by simp)
    have h1 : (x.pre 1).length = (x.pre 2).length := by rw [pre_shift x 1]; simp
    have h2 := pres_bulk xs es (by simpa using hl) fun i a b => by
      have := h (i + 1) (by simpa using a) (by simpa using b)
      simpa using this
    simp only [List.getElem_cons_zero] at h0
    omega
  | [], _ :: _, hl, _ => by simp at hl
  | _ :: _, [], hl, _ => by simp at hl
theorem cellsEx : Tryz.prog.cellsOf 26 = 7 := by kernel_rfl
theorem cellsVl : Tryz.prog.cellsOf 23 = 3 := by kernel_rfl
theorem cellsSx : Tryz.prog.cellsOf 24 = 1 := by kernel_rfl
/-- The numbers of an expression are a machine's. -/
def Ex.bd (x : Ex) : Prop := ∀ d, ∀ q ∈ x.pre d, -9223372036854775808 ≤ q.1.vn ∧ q.1.vn ≤ 9223372036854775807
theorem mem_presO {d : Nat} {q : Ex × Nat} : ∀ {l : List Ex}, q ∈ Ex.pres d l → ∃ y ∈ l, q ∈ y.pre d
  | [], h => by rw [Ex.pres] at h; cases h
  | x :: xs, h => by
    rw [Ex.pres] at h
    rcases List.mem_append.1 h with h | h
    · exact ⟨x, by simp, h⟩
    · obtain ⟨y, hy, h⟩ := mem_presO h
      exact ⟨y, by simp [hy], h⟩
theorem bd_node {op nm vs : ByteArray} {vt vn pos : Int} {l : List Ex} (h : -9223372036854775808 ≤ vn ∧ vn ≤ 9223372036854775807) (hl : ∀ y ∈ l, y.bd) : (Ex.node op nm vt vn vs pos l).bd := by
  intro d q hq
  rw [Ex.pre] at hq
  rcases List.mem_cons.1 hq with rfl | hq
  · exact h
  · obtain ⟨y, hy, hq⟩ := mem_presO hq
    exact hl y hy _ q hq
theorem int_bd {x : Int} (h : (Lit.int .i64 x).wf = true) : -9223372036854775808 ≤ x ∧ x ≤ 9223372036854775807 := by
  simpa [Lit.wf, IntKind.min, IntKind.max, IntKind.signed, IntKind.bits] using h
/-- Expressions one behind the other, each opened. -/
theorem exs_of {W : World} {a : Addr} {len : Nat} {B : Nat → Nat} (hel : ∀ i, i < len → ∃ x : Ex, ∃ ci : List Value, W.cells? 0 (a.add (i * 7)) 7 = some ci ∧ ExIn W (fun _ => True) (.agg ci.toArray) x ∧ ci.length = 7 ∧ (x.pre 1).length ≤ B i ∧ x.bd) :
    ∃ l : List Ex, l.length = len ∧ (len = 0 ∨ ∃ b off, some a = some (⟨b, off, none⟩ : Addr) ∧ b < W.heap.size ∧ True ∧ ExsIn W (fun _ => True) b off l) ∧ ∀ i (h : i < l.length), (l[i].pre 1).length ≤ B i ∧ l[i].bd := by
  obtain ⟨f, hF⟩ := choose_lt hel
  refine ⟨(List.range len).map f, by simp, ?_, fun i h => ?_⟩
  · by_cases h0 : len = 0
    · exact .inl h0
    · right
      obtain ⟨b, off, spot⟩ := a
      obtain ⟨c0, hc0, _, hl0, _⟩ := hF 0 (by omega)
      have he := (World.cells?_some hc0).2.2 0 (by omega)
      rw [List.getElem?_eq_getElem (by omega)] at he
      have hspot : spot = none := by simpa [Addr.add] using World.cell?_spot he
      subst hspot
      refine ⟨b, off, rfl, cell_lt' (o := off) (by simpa [Addr.add] using he), trivial, exsIn_mk _ _ _ _ _ fun j hj => ?_⟩
      have hj' : j < len := by simpa using hj
      obtain ⟨cj, hcj, hxj, hlj, _⟩ := hF j hj'
      have hc := (World.cells?_some hcj).2.2
      match cj, hlj with
      | [v0, v1, v2, v3, v4, v5, v6], _ =>
        refine ⟨v0, v1, v2, v3, v4, v5, v6, ?_, ?_, ?_, ?_, ?_, ?_, ?_, ?_⟩
        · simpa [add_plain] using hc 0 (by decide)
        · simpa [add_plain, Nat.add_assoc] using hc 1 (by decide)
        · simpa [add_plain, Nat.add_assoc] using hc 2 (by decide)
        · simpa [add_plain, Nat.add_assoc] using hc 3 (by decide)
        · simpa [add_plain, Nat.add_assoc] using hc 4 (by decide)
        · simpa [add_plain, Nat.add_assoc] using hc 5 (by decide)
        · simpa [add_plain, Nat.add_assoc] using hc 6 (by decide)
        · simp only [List.getElem_map, List.getElem_range]
          exact hxj
  · have hi : i < len := by simpa using h
    obtain ⟨_, _, _, _, hb, hd⟩ := hF i hi
    simp only [List.getElem_map, List.getElem_range]
    exact ⟨hb, hd⟩
set_option maxHeartbeats 1000000 in
set_option maxRecDepth 100000 in
theorem open_ex {H : Type} {enc : TypeId × Value → H} {W : World} : ∀ (fuel : Nat) (cs : List Value) (d : DataW H) (ps : List MemPlace), DataW.trod enc Tryz.prog W 0 (fun _ => true) true fuel 26 cs = some (d, ps) → ∃ x, ExIn W (fun _ => True) (.agg cs.toArray) x ∧ cs.length = 7 ∧ (x.pre 1).length ≤ Rows.uptoBulk d ∧ x.bd := by
  intro fuel
  induction fuel using Nat.strongRecOn with
  | ind fuel ih =>
    intro cs d ps h
    obtain ⟨xs, n, hfu, hx, hl, hlen, hf⟩ := DataW.trod_struct Tryz.underlying26 h
    rw [cellsEx] at hl
    match cs, hl, xs, hlen with
    | [c0, c1, c2, c3, c4, c5, c6], _, [y0, y1, y2, y3, y4], _ =>
      have t0 := hf 0 _ rfl
      have t1 := hf 1 _ rfl
      have t2 := hf 2 _ rfl
      have t3 := hf 3 _ rfl
      have t4 := hf 4 _ rfl
      simp [cellsStr, cellsInt, cellsVl, cellsSx] at t0 t1 t2 t3 t4
      obtain ⟨s0, e0, r0, z0⟩ := DataW.trod_string Tryz.underlying9 t0
      obtain ⟨s1, e1, r1, z1⟩ := DataW.trod_string Tryz.underlying9 t1
      obtain ⟨k6, e6, r6, z6⟩ := DataW.trod_int Tryz.underlying3 t4
      obtain ⟨w0, w1, w2, m2, r2, _, v0, v1, v2⟩ := trod_struct3 Tryz.underlying23 t2
      simp [cellsStr, cellsInt] at v0 v1 v2
      obtain ⟨k2, e2, q2, _⟩ := DataW.trod_int Tryz.underlying3 v0
      obtain ⟨k3, e3, q3, z3⟩ := DataW.trod_int Tryz.underlying3 v1
      obtain ⟨s4, e4, q4, z4⟩ := DataW.trod_string Tryz.underlying9 v2
      simp at e0 e1 e2 e3 e4 e6
      subst e0 e1 e2 e3 e4 e6
      obtain ⟨rfl, rfl⟩ := Prod.mk.inj hx
      rcases DataW.trod_slice Tryz.underlying24 t3 with ⟨hcs, hy⟩ | ⟨a, len, cap, elems, rest, m, hm, hcs, hy, _, hlc, hcm, hle, hel, _, _⟩
      · simp at hcs
        subst hcs
        refine ⟨.node s0 s1 k2 k3 s4 k6 [], ?_, rfl, ?_, bd_node (int_bd z3) (fun y hy => by cases hy)⟩
        · rw [ExIn]; exact ⟨none, 0, rfl, ⟨by simp, by simp⟩, z0, z1, z4, .inl rfl⟩
        · rw [Ex.pre, Ex.pres]
          simp [Rows.uptoBulk]
      · simp at hcs
        subst hcs
        rw [cellsEx] at hel
        have hel' : ∀ i, i < len → ∃ x : Ex, ∃ ci : List Value, W.cells? 0 (a.add (i * 7)) 7 = some ci ∧ ExIn W (fun _ => True) (.agg ci.toArray) x ∧ ci.length = 7 ∧ (x.pre 1).length ≤ Rows.uptoBulk ((elems[i]?.map (·.1)).getD .nil) ∧ x.bd := fun i hi => by
          have h1 := hel i hi
          have h2 : elems[i]? = some (elems[i]'(by omega)) := List.getElem?_eq_getElem (by omega)
          rw [h2, Option.bind_eq_some_iff] at h1
          obtain ⟨ci, hci, hti⟩ := h1
          obtain ⟨x, hx1, hx2, hx3, hx4⟩ := ih m (by omega) ci _ _ hti
          exact ⟨x, ci, hci, hx1, hx2, by rw [h2]; exact hx3, hx4⟩
        obtain ⟨l, rfl, hin, hbl⟩ := exs_of (B := fun i => Rows.uptoBulk ((elems[i]?.map (·.1)).getD .nil)) hel'
        refine ⟨.node s0 s1 k2 k3 s4 k6 l, ?_, rfl, ?_, bd_node (int_bd z3) (fun y hy => by
          obtain ⟨i, hi, rfl⟩ := List.mem_iff_getElem.1 hy
          exact (hbl i hi).2)⟩
        · rw [ExIn]
          exact ⟨some a, cap, rfl, ⟨by omega, hlc⟩, z0, z1, z4, hin⟩
        · rw [Ex.pre, List.length_cons]
          have hb : (Ex.pres 2 l).length ≤ Rows.uptoBulkAll (elems.map (·.1)) := by
            refine pres_bulk _ _ (by simp [hle]) fun i h1 h2 => ?_
            have hb := (hbl i h1).1
            rw [List.getElem?_eq_getElem (by omega)] at hb
            simpa using hb
          have hy1 := congrArg Prod.fst hy
          simp only at hy1
          simp only [List.map_cons, List.map_nil, Rows.uptoBulk, Rows.uptoBulkAll, hy1]
          have : (Ex.pres (1 + 1) l).length = (Ex.pres 2 l).length := rfl
          omega
set_option maxRecDepth 100000 in
theorem open_args {H : Type} {enc : TypeId × Value → H} {W : World} {base : Nat} {v : Value} {d : DataW H} {p : List MemPlace} (hv : Value.okWide Tryz.prog W .any base 24 v) (h : DataW.Trod enc Tryz.prog W 0 (fun _ => true) true 24 v d p) :
    ∃ l, ArgsIs W (fun _ => True) v l ∧ (Ex.pres 2 l).length ≤ Rows.uptoBulk d := by
  obtain ⟨a0, len0, cap0, rfl⟩ := okWide_slice Tryz.underlying24 hv
  obtain ⟨fuel, hf⟩ := h
  rcases DataW.trod_slice Tryz.underlying24 hf with ⟨hcs, hy⟩ | ⟨a, len, cap, elems, rest, m, hm, hcs, hy, _, hlc, hcm, hle, hel, _, _⟩
  · simp [Value.cells] at hcs
    obtain ⟨rfl, rfl, rfl⟩ := hcs
    exact ⟨[], ⟨_, _, rfl, ⟨by simp, by simp⟩, .inl rfl⟩, by rw [Ex.pres]; simp⟩
  · simp [Value.cells] at hcs
    obtain ⟨rfl, rfl, rfl⟩ := hcs
    rw [cellsEx] at hel
    have hel' : ∀ i, i < len0 → ∃ x : Ex, ∃ ci : List Value, W.cells? 0 (a.add (i * 7)) 7 = some ci ∧ ExIn W (fun _ => True) (.agg ci.toArray) x ∧ ci.length = 7 ∧ (x.pre 1).length ≤ Rows.uptoBulk ((elems[i]?.map (·.1)).getD .nil) ∧ x.bd := fun i hi => by
      have h1 := hel i hi
      have h2 : elems[i]? = some (elems[i]'(by omega)) := List.getElem?_eq_getElem (by omega)
      rw [h2, Option.bind_eq_some_iff] at h1
      obtain ⟨ci, hci, hti⟩ := h1
      obtain ⟨x, hx1, hx2, hx3, hx4⟩ := open_ex m ci _ _ hti
      exact ⟨x, ci, hci, hx1, hx2, by rw [h2]; exact hx3, hx4⟩
    obtain ⟨l, rfl, hin, hbl⟩ := exs_of (B := fun i => Rows.uptoBulk ((elems[i]?.map (·.1)).getD .nil)) hel'
    refine ⟨l, ⟨_, _, rfl, ⟨by omega, hlc⟩, hin⟩, ?_⟩
    have hb : (Ex.pres 2 l).length ≤ Rows.uptoBulkAll (elems.map (·.1)) := by
      refine pres_bulk _ _ (by simp [hle]) fun i h1 h2 => ?_
      have hb := (hbl i h1).1
      rw [List.getElem?_eq_getElem (by omega)] at hb
      simpa using hb
    have hy1 := congrArg Prod.fst hy
    simp only at hy1
    simp only [Rows.uptoBulk, hy1]
    omega
set_option maxRecDepth 100000 in
/-- An expression that is handed in. -/
theorem open_expr {H : Type} {enc : TypeId × Value → H} {W : World} {base : Nat} {v : Value} {d : DataW H} {p : List MemPlace} (hv : Value.okWide Tryz.prog W .any base 26 v) (h : DataW.Trod enc Tryz.prog W 0 (fun _ => true) true 26 v d p) :
    ∃ x, ExIn W (fun _ => True) v x ∧ (x.pre 1).length ≤ Rows.uptoBulk d ∧ x.bd := by
  obtain ⟨cs, rfl, _⟩ := okWide_struct Tryz.underlying26 hv
  obtain ⟨fuel, hf⟩ := h
  obtain ⟨x, h1, _, h3, h4⟩ := open_ex fuel _ _ _ hf
  exact ⟨x, by simpa [Value.cells] using h1, h3, h4⟩
set_option maxRecDepth 100000 in
/-- Columns that are handed in. -/
theorem open_colsV {H : Type} {enc : TypeId × Value → H} {W : World} {base : Nat} {v : Value} {d : DataW H} {p : List MemPlace} (hv : Value.okWide Tryz.prog W .any base 27 v) (h : DataW.Trod enc Tryz.prog W 0 (fun _ => true) true 27 v d p) : ∃ zs, ColsV W v zs := by
  rcases open_cols hv h with ⟨q, c, rfl⟩ | ⟨b, off, c, zs, rfl, h0, h1, h2, h3, h4⟩
  · exact ⟨[], q, c, rfl, .inl rfl⟩
  · exact ⟨zs, _, c, rfl, .inr ⟨b, off, rfl, h1, h3, h4⟩⟩
end Go.Proofs.YticdcnbeemkapaaGreatDoor
namespace Go.Proofs.YticdcnbeemkapaaGreatDoor
open Go.RowKit
set_option linter.unusedVariables false

/-- A value: its type, number and text. -/
abbrev V3 := Int × Int × ByteArray
def inB (n : Int) : Prop := -9223372036854775808 ≤ n ∧ n ≤ 9223372036854775807
def noV : V3 := (0, 0, ⟨#[]⟩)
/-- A value that is right. -/
def okV (t : Int) (v : V3) : Prop := v.1 = t ∧ chk v.1 v.2.1 v.2.2.data.toList = 0 ∧ inB v.2.1
theorem chk_two {n : Int} {l : List UInt8} (h : chk 2 n l = 0) : (n = 0 ∨ n = 1) ∧ l = [] := by
  unfold chk at h
  by_cases h0 : n = 0 ∨ n = 1
  · refine ⟨h0, ?_⟩
    by_cases hl : l = []
    · exact hl
    · simp [hl] at h
      split at h <;> omega
  · rw [if_pos (by right; simp at h0; exact ⟨rfl, h0⟩)] at h
    omega
theorem chk_one {n : Int} {l : List UInt8} (h : chk 1 n l = 0) : l = [] := by
  unfold chk at h
  by_cases hl : l = []
  · exact hl
  · simp [hl] at h
theorem chk_three {n : Int} {l : List UInt8} (h : chk 3 n l = 0) : l.length ≤ 40 ∧ n = 0 := by
  rw [chk_text, chkT] at h
  split at h
  · omega
  · split at h
    · omega
    · split at h
      · omega
      · rename_i h1 _ h3
        exact ⟨by omega, by simpa using h3⟩
theorem chk_size {t n : Int} {l : List UInt8} (h : chk t n l = 0) : l.length ≤ 40 := by
  by_cases h1 : t = 1
  · subst h1; rw [chk_one h]; simp
  · by_cases h2 : t = 2
    · subst h2; rw [(chk_two h).2]; simp
    · by_cases h3 : t = 3
      · subst h3; exact (chk_three h).1
      · unfold chk at h
        rw [if_pos (by left; omega)] at h
        omega
/-- What lies in a block that was made stays, where only later blocks turn. -/
theorem box_at (w : World) (cs : Array Value) (t : TypeId) {W : World} {n : Nat} (hb : Below n (w.alloc (.cells cs t)) W) (hn : w.heap.size < n) : (∀ i, W.cell? ⟨w.heap.size, i, none⟩ = cs[i]?) ∧ (∀ o, W.frozen? ⟨w.heap.size, o, none⟩ = false) ∧ w.heap.size < W.heap.size := by
  have hz := hb.size
  simp at hz
  exact ⟨fun i => by rw [hb.cell (p := ⟨w.heap.size, i, none⟩) hn, World.cell?_alloc_at _ _ _ _ rfl], fun o => by rw [hb.frozen (p := ⟨w.heap.size, o, none⟩) hn, World.frozen?_alloc_at _ _ _ _ rfl], by omega⟩
theorem alB (w : World) (o : Obj) : Below w.heap.size w (w.alloc o) := (Below.refl _ _).alloc (Nat.le_refl _) o
/-- Values one behind the other. -/
def ValsAt (w : World) (p : Option Addr) (vs : List V3) : Prop := vs.length = 0 ∨ ∃ b off, p = some ⟨b, off, none⟩ ∧ b < w.heap.size ∧ ∀ j (h : j < vs.length), w.cell? ⟨b, off + j * 3, none⟩ = some (.int .i64 vs[j].1) ∧ w.cell? ⟨b, off + j * 3 + 1, none⟩ = some (.int .i64 vs[j].2.1) ∧ w.cell? ⟨b, off + j * 3 + 2, none⟩ = some (.string vs[j].2.2)
theorem ValsAt.on {w w' : World} {p : Option Addr} {vs : List V3} (h : ValsAt w p vs) (hb : Below w.heap.size w w') : ValsAt w' p vs := by
  rcases h with h | ⟨b, off, e, hl, h⟩
  · exact .inl h
  · refine .inr ⟨b, off, e, by have := hb.size; omega, fun j hj => ?_⟩
    obtain ⟨h1, h2, h3⟩ := h j hj
    exact ⟨by rw [hb.cell (p := ⟨b, _, none⟩) hl]; exact h1, by rw [hb.cell (p := ⟨b, _, none⟩) hl]; exact h2, by rw [hb.cell (p := ⟨b, _, none⟩) hl]; exact h3⟩
/-- One value at a place. -/
def One (w : World) (b o : Nat) (t n : Int) (s : ByteArray) : Prop := w.cell? ⟨b, o, none⟩ = some (.int .i64 t) ∧ w.cell? ⟨b, o + 1, none⟩ = some (.int .i64 n) ∧ w.cell? ⟨b, o + 2, none⟩ = some (.string s)
theorem One.on {w w' : World} {b o : Nat} {t n : Int} {s : ByteArray} (h : One w b o t n s) (hl : b < w.heap.size) (hb : Below w.heap.size w w') : One w' b o t n s :=
  ⟨by rw [hb.cell (p := ⟨b, _, none⟩) hl]; exact h.1, by rw [hb.cell (p := ⟨b, _, none⟩) hl]; exact h.2.1, by rw [hb.cell (p := ⟨b, _, none⟩) hl]; exact h.2.2⟩
/-- A slice of values. -/
def ValsV (w : World) (v : Value) (rs : List V3) : Prop := ∃ q c, v = .slice q rs.length c ∧ rs.length ≤ maxLen ∧ ValsAt w q rs
theorem ValsV.on {w w' : World} {v : Value} {rs : List V3} (h : ValsV w v rs) (hb : Below w.heap.size w w') : ValsV w' v rs := by
  obtain ⟨q, c, e, h1, h2⟩ := h
  exact ⟨q, c, e, h1, h2.on hb⟩
/-- Texts and numbers as a machine has them. -/
def SizedV (rs : List V3) : Prop := ∀ r ∈ rs, r.2.2.size ≤ maxLen ∧ inB r.2.1
def vcells : List V3 → List Value
  | [] => []
  | v :: vs => .int .i64 v.1 :: .int .i64 v.2.1 :: .string v.2.2 :: vcells vs
theorem vcells_at : ∀ {vs : List V3} {j : Nat} (h : j < vs.length), (vcells vs)[j * 3]? = some (.int .i64 vs[j].1) ∧ (vcells vs)[j * 3 + 1]? = some (.int .i64 vs[j].2.1) ∧ (vcells vs)[j * 3 + 2]? = some (.string vs[j].2.2)
  | v :: vs, 0, _ => ⟨rfl, rfl, rfl⟩
  | v :: vs, j + 1, h => by
    have := vcells_at (vs := vs) (j := j) (by simpa using h)
    rw [vcells, show (j + 1) * 3 = j * 3 + 3 by omega]
    simpa using this
  | [], _, h => absurd h (by simp)
theorem vcells_len : ∀ vs : List V3, (vcells vs).length = vs.length * 3
  | [] => rfl
  | v :: vs => by rw [vcells]; simp [vcells_len vs]; omega
theorem vcells_append : ∀ (a b : List V3), vcells (a ++ b) = vcells a ++ vcells b
  | [], b => rfl
  | v :: vs, b => by rw [List.cons_append, vcells, vcells, vcells_append vs b]; rfl
theorem ownVals {W : World} {B : Nat} {q : Option Addr} {c n : Nat} {vs : List V3} (hn : vs.length = n) (h : W.ownsRow B 23 3 (.slice q n c) n (vcells vs)) : ValsAt W q vs := by
  by_cases h0 : vs.length = 0
  · exact .inl h0
  · refine .inr ?_
    rcases h.2 with ⟨e1, _⟩ | ⟨g, cap, cur, e1, hb, hg, hm, hx, hs, ht⟩
    · injection e1 with e1 e2; omega
    · injection e1 with e1 e2 e3
      subst e1
      refine ⟨g, 0, rfl, (Array.getElem?_eq_some_iff.1 hg).1, fun j hj => ?_⟩
      obtain ⟨a0, a1, a2⟩ := vcells_at hj
      have h1 := h.cells (g := g) rfl _ _ a0
      have h2 := h.cells (g := g) rfl _ _ a1
      have h3 := h.cells (g := g) rfl _ _ a2
      rw [Go.WideShapes.add_plain] at h1 h2 h3
      exact ⟨by simpa using h1, by simpa [Nat.add_assoc] using h2, by simpa [Nat.add_assoc] using h3⟩
theorem info_val : (Tryz.prog.info? 23).map (fun i => (i.zero, i.size, i.bytes)) = some (some (.agg #[.int .i64 0, .int .i64 0, .string ⟨#[]⟩]), 3, 32) := by kernel_rfl
end Go.Proofs.YticdcnbeemkapaaGreatDoor
