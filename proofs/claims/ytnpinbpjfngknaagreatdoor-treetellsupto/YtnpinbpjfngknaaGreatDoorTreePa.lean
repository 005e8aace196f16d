/-
  Parse of package tree, at any text.
-/
import Derived.Test.YtnpinbpjfngknaaGreatDoorLo6
import Derived.Test.YtnpinbpjfngknaaGreatDoorLoQ
import Derived.Test.YtnpinbpjfngknaaGreatDoorLoL
import Derived.Laws.StructEq
namespace Go.Proofs.YtnpinbpjfngknaaGreatDoor
open Go.RowKit Go.BigFrame
set_option linter.unusedVariables false

theorem lexAll_fit {s : List UInt8} {R : List Tok} {E : Int} {P : Nat} (h : lexAll s = (R, E, P)) : R.length ≤ 400 ∧ Fit R := by
  by_cases he : E = 0
  · subst he
    obtain ⟨h1, _, h3, _⟩ := lexAll_ok h
    obtain ⟨h4, h5⟩ := stand_small s R 0 (Nat.zero_le _) h3
    exact ⟨by omega, fun t ht => by have := (h5 t ht).1; omega⟩
  · obtain ⟨rfl, _⟩ := lexAll_bad h he
    exact ⟨by simp, fun t ht => absurd ht (by simp)⟩
set_option maxHeartbeats 1000000 in
set_option maxRecDepth 20000 in
theorem place_tree (w : World) (r en : Nat) (ts : List Tok) (h : RdAt w r ts) : Calls Tryz.prog 21 #[.pointer (some ⟨r, 0, none⟩), .int .i64 (en : Int)] w fun e w' => e = .returned (.int .i64 (placeT ts en : Nat)) ∧ w' = w := by
  obtain ⟨⟨p, c, h1, h2, h3⟩, hfz, hl⟩ := h
  cases ts with
  | nil =>
    simp only [List.length_nil] at h1
    rw [placeT]
    go_enter Tryz.func21, Tryz.ntmps21
    go_wp2
    go_ret
    exact ⟨rfl, rfl⟩
  | cons t ts =>
    rcases h3 with h3 | ⟨b, off, rfl, hbr, h4⟩
    · simp at h3
    obtain ⟨d0, d1, d2⟩ := h4.2 0 (by simp)
    have hbl := h4.1
    have hlen : ((t :: ts).length : Int) = (ts.length : Int) + 1 := by simp
    have hnb : (((t :: ts).length : Int) == 0) = false := by simp; omega
    obtain ⟨tk, tx, ta⟩ := t
    simp only [List.getElem_cons_zero, Nat.zero_mul, Nat.add_zero] at d0 d1 d2
    rw [placeT]
    simp only
    go_enter Tryz.func21, Tryz.ntmps21
    go_wp2
    go_ret
    exact ⟨rfl, rfl⟩
theorem fault_eqIn (a b : Int) (W : World) : (Op.equalIn 10000 31 (.agg #[.int .i64 a, .int .i64 b]) (.agg #[.int .i64 0, .int .i64 0])).run Tryz.prog W = .ok ((a == 0) && (b == 0)) W := by
  rw [show (10000 : Nat) = 9999 + 1 from rfl, run_equalIn_agg W 9999 31 _ _ (by kernel_rfl) (by kernel_rfl)]
  simp only [Program.fieldsOf, Tryz.underlying31]
  go_simp
  by_cases h1 : a = 0 <;> by_cases h2 : b = 0 <;> simp [h1, h2]
theorem fault_neq (a b : Int) (W : World) : Sem.run Tryz.prog (binOp .neq 31 (.agg #[.int .i64 a, .int .i64 b]) (.agg #[.int .i64 0, .int .i64 0])) W = .ok (.bool !((a == 0) && (b == 0))) W := by
  rw [run_neq_struct, fault_eqIn]; rfl
/-- Two cells that may be written, in a block. -/
structure Box2 (w : World) (b : Nat) (a0 a1 : Value) : Prop where
  c0 : w.cell? ⟨b, 0, none⟩ = some a0
  c1 : w.cell? ⟨b, 1, none⟩ = some a1
  fz : ∀ o, w.frozen? ⟨b, o, none⟩ = false
  lt : b < w.heap.size
theorem Box2.on {w w' : World} {b : Nat} {a0 a1 : Value} (h : Box2 w b a0 a1) (hb : Below w.heap.size w w') : Box2 w' b a0 a1 := by
  obtain ⟨c0, c1, fz, lt⟩ := h
  exact ⟨by rw [hb.cell (p := ⟨b, 0, none⟩) lt]; exact c0, by rw [hb.cell (p := ⟨b, 1, none⟩) lt]; exact c1, fun o => by rw [hb.frozen (p := ⟨b, o, none⟩) lt]; exact fz o, by have := hb.size; omega⟩
theorem Box2.but {w w' : World} {r b : Nat} {a0 a1 : Value} (h : Box2 w b a0 a1) (hb : But r w w') (hr : b ≠ r) : Box2 w' b a0 a1 := by
  obtain ⟨c0, c1, fz, lt⟩ := h
  exact ⟨by rw [hb.cell _ lt hr]; exact c0, by rw [hb.cell _ lt hr]; exact c1, fun o => by rw [but_frozen hb o lt hr]; exact fz o, by have := hb.size; omega⟩
theorem ExIn.set1 {w : World} {lo : Nat → Prop} {v : Value} {x : Ex} (h : ExIn w lo v x) {z : Nat} (hz : ∀ b, lo b → b ≠ z) (o : Nat) (v0 : Value) : ExIn (w.setCell ⟨z, o, none⟩ v0) lo v x :=
  ExIn.keep (by simp [World.setCell]) (fun b o h1 h2 => by have := hz b h1; simp [World.cell?_setCell_other]) x v h
theorem below_set7 {n z : Nat} {w w1 : World} (h : Below n w w1) (hz : n ≤ z) (v0 v1 v2 v3 v4 v5 v6 : Value) : Below n w (((((((w1.setCell ⟨z, 0, none⟩ v0).setCell ⟨z, 1, none⟩ v1).setCell ⟨z, 2, none⟩ v2).setCell ⟨z, 3, none⟩ v3).setCell ⟨z, 4, none⟩ v4).setCell ⟨z, 5, none⟩ v5).setCell ⟨z, 6, none⟩ v6) :=
  ((((((h.setCell (p := ⟨z, 0, none⟩) hz v0).setCell (p := ⟨z, 1, none⟩) hz v1).setCell (p := ⟨z, 2, none⟩) hz v2).setCell (p := ⟨z, 3, none⟩) hz v3).setCell (p := ⟨z, 4, none⟩) hz v4).setCell (p := ⟨z, 5, none⟩) hz v5).setCell (p := ⟨z, 6, none⟩) hz v6
set_option maxHeartbeats 2000000 in
set_option maxRecDepth 20000 in
theorem parse_bad (s : ByteArray) (w : World) (henv : TEnv w) (hw : SG w) (R : List Tok) (E : Int) (P : Nat) (hL : lexAll s.data.toList = (R, E, P)) (hE : E ≠ 0) (hs : s.size ≤ maxLen) :
    Calls Tryz.prog 5 #[.string s] w fun e w' => (∃ v, e = .returned (.tuple #[v, .agg #[.int .i64 E, .int .i64 (P : Nat)]]) ∧ Aside (ExIn w' (w.heap.size ≤ ·) v ex0)) ∧ Below w.heap.size w w' := by
  have HE : Aside (TEnv w) := henv
  have HW : Aside (SG w) := hw
  have hG := henv.big
  have b1 : Below w.heap.size w ((w.alloc (.cells #[.string ⟨#[]⟩, .string ⟨#[]⟩, .int .i64 0, .int .i64 0, .string ⟨#[]⟩, .slice none 0 0, .int .i64 0] 26)).alloc (.cells #[.int .i64 0, .int .i64 0] 31)) := (al w _).trans ((al _ _).mono (by simp))
  have X0 := (box7_alloc w (.string ⟨#[]⟩) (.string ⟨#[]⟩) (.int .i64 0) (.int .i64 0) (.string ⟨#[]⟩) (.slice none 0 0) (.int .i64 0) 26).on (al _ (.cells #[.int .i64 0, .int .i64 0] 31))
  have Y0 : Box2 ((w.alloc (.cells #[.string ⟨#[]⟩, .string ⟨#[]⟩, .int .i64 0, .int .i64 0, .string ⟨#[]⟩, .slice none 0 0, .int .i64 0] 26)).alloc (.cells #[.int .i64 0, .int .i64 0] 31)) (w.heap.size + 1) (.int .i64 0) (.int .i64 0) := ⟨by rw [World.cell?_alloc_at _ _ _ _ (by simp)]; rfl, by rw [World.cell?_alloc_at _ _ _ _ (by simp)]; rfl, fun o => World.frozen?_alloc_at _ _ _ _ (by simp), by simp⟩
  have cT := tokens_cap s R E P _ ((HE.out.on b1).env) (HW.out.on b1) hL
  have hneq := fault_neq E (P : Int)
  have hb0 : (E == 0) = false := by simpa using hE
  rw [hb0, Bool.false_and] at hneq
  unfold maxLen at hs
  clear henv hw
  go_enter Tryz.func5, Tryz.ntmps5
  go_wp2_with fail
  refine cT.mono ?_
  rintro e w2 ⟨⟨vl, rfl, hT, hcap⟩, b2⟩
  have X2 := X0.on b2
  have Y2 := Y0.on b2
  have B2 := b1.trans (b2.mono (by simp; omega))
  have hz2 : w.heap.size + 2 ≤ w2.heap.size := by have := b2.size; simpa using this
  obtain ⟨lp, lc, rfl, hlm, hT⟩ := hT
  have hcap : R.length ≤ lc := hcap
  clear cT X0 Y0 b1 b2
  obtain ⟨c0, c1, c2, c3, c4, c5, c6, cf, cl⟩ := X2
  have rf0 := cf 0
  have rf1 := cf 1
  have rf2 := cf 2
  have rf3 := cf 3
  have rf4 := cf 4
  have rf5 := cf 5
  have rf6 := cf 6
  obtain ⟨y0, y1, yf, yl⟩ := Y2
  have yf0 := yf 0
  have yf1 := yf 1
  clear cf yf
  go_wp2
  go_region
  all_goals
    go_wp2
    refine bodyPost_ret (v := .tuple #[.agg #[.string ⟨#[]⟩, .string ⟨#[]⟩, .int .i64 0, .int .i64 0, .string ⟨#[]⟩, .slice none 0 0, .int .i64 0], .agg #[.int .i64 E, .int .i64 (P : Nat)]]) (by simp [results, Tryz.results5, go_sem, c0, c1, c2, c3, c4, c5, c6, y0, y1, cl, yl]) rfl ⟨⟨_, rfl, ex_zero _ _⟩, ?_⟩
    exact Below.drew ((((below_set7 B2 (Nat.le_refl _) _ _ _ _ _ _ _).setCell (p := ⟨w.heap.size + 1, 0, none⟩) (by simp) _).setCell (p := ⟨w.heap.size + 1, 1, none⟩) (by simp) _).alloc (by simp [World.setCell]; omega) _)
set_option maxHeartbeats 4000000 in
set_option maxRecDepth 20000 in
theorem parse_good (s : ByteArray) (w : World) (henv : TEnv w) (hw : SG w) (R : List Tok) (hL : lexAll s.data.toList = (R, 0, 0)) (x : Ex) (E : Int) (P : Nat) (hp : (match readE R with
    | (some x, []) => if tgB x = true then (ex0, 4, 0) else (x, 0, 0)
    | (_, r) => (ex0, 2, placeT r s.size)) = (x, E, P)) (hs : s.size ≤ maxLen) :
    Calls Tryz.prog 5 #[.string s] w fun e w' => (∃ v, e = .returned (.tuple #[v, .agg #[.int .i64 E, .int .i64 (P : Nat)]]) ∧ Aside (ExIn w' (w.heap.size ≤ ·) v x)) ∧ Below w.heap.size w w' := by
  obtain ⟨hR, hFit⟩ := lexAll_fit hL
  have HP : Hid ((match readE R with
    | (some x, []) => if tgB x = true then (ex0, 4, 0) else (x, 0, 0)
    | (_, r) => (ex0, 2, placeT r s.size)) = (x, E, P)) := hp
  clear hp
  have HE : Aside (TEnv w) := henv
  have HW : Aside (SG w) := hw
  have hG := henv.big
  have b1 : Below w.heap.size w ((w.alloc (.cells #[.string ⟨#[]⟩, .string ⟨#[]⟩, .int .i64 0, .int .i64 0, .string ⟨#[]⟩, .slice none 0 0, .int .i64 0] 26)).alloc (.cells #[.int .i64 0, .int .i64 0] 31)) := (al w _).trans ((al _ _).mono (by simp))
  have X0 := (box7_alloc w (.string ⟨#[]⟩) (.string ⟨#[]⟩) (.int .i64 0) (.int .i64 0) (.string ⟨#[]⟩) (.slice none 0 0) (.int .i64 0) 26).on (al _ (.cells #[.int .i64 0, .int .i64 0] 31))
  have Y0 : Box2 ((w.alloc (.cells #[.string ⟨#[]⟩, .string ⟨#[]⟩, .int .i64 0, .int .i64 0, .string ⟨#[]⟩, .slice none 0 0, .int .i64 0] 26)).alloc (.cells #[.int .i64 0, .int .i64 0] 31)) (w.heap.size + 1) (.int .i64 0) (.int .i64 0) := ⟨by rw [World.cell?_alloc_at _ _ _ _ (by simp)]; rfl, by rw [World.cell?_alloc_at _ _ _ _ (by simp)]; rfl, fun o => World.frozen?_alloc_at _ _ _ _ (by simp), by simp⟩
  have cT := tokens_cap s R 0 0 _ ((HE.out.on b1).env) (HW.out.on b1) hL
  rw [show ((0 : Nat) : Int) = 0 from rfl] at cT
  have hneq := fault_neq 0 0
  rw [show (!((0 : Int) == 0 && (0 : Int) == 0)) = false from rfl] at hneq
  unfold maxLen at hs
  clear henv hw
  go_enter Tryz.func5, Tryz.ntmps5
  go_wp2_with fail
  refine cT.mono ?_
  rintro e w2 ⟨⟨vl, rfl, hT, hcap⟩, b2⟩
  have X2 := X0.on b2
  have Y2 := Y0.on b2
  have B2 := b1.trans (b2.mono (by simp; omega))
  have hz2 : w.heap.size + 2 ≤ w2.heap.size := by have := b2.size; simpa using this
  obtain ⟨lp, lc, rfl, hlm, hT⟩ := hT
  have hcap : R.length ≤ lc := hcap
  clear cT X0 Y0 b1 b2
  have bF := (al w2 (.cells #[.int .i64 0, .int .i64 0] 31)).trans ((al _ (.cells #[.slice lp R.length lc] 56)).mono (by simp))
  have rd : RdAt ((w2.alloc (.cells #[.int .i64 0, .int .i64 0] 31)).alloc (.cells #[.slice lp R.length lc] 56)) (w2.heap.size + 1) R := by
    refine ⟨⟨lp, lc, by rw [World.cell?_alloc_at _ _ _ _ (by simp)]; rfl, hcap, ?_⟩, World.frozen?_alloc_at _ _ _ _ (by simp), by simp⟩
    rcases hT with h0 | ⟨b, off, e1, h3⟩
    · exact .inl h0
    · exact .inr ⟨b, off, e1, by have := h3.1; omega, h3.on bF⟩
  have cE := expression_reads R hFit _ (w2.heap.size + 1) rd ((HE.out.on B2).on bF) (by omega)
  clear rd
  go_wp2_with fail
  refine cE.mono ?_
  rintro e w3 ⟨v, ok, y, rfl, hx, hrd, hbt, hres⟩
  obtain ⟨u0, u1, u2, u3, u4, u5, u6, u7, u8, rfl⟩ := hx.out.agg
  have hz3 : w2.heap.size + 2 ≤ w3.heap.size := by have := hbt.out.size; simpa using this
  have hrl : w2.heap.size + 1 < w3.heap.size := by omega
  have X3 := (X2.on bF).but hbt.out (by omega)
  have Y3 := (Y2.on bF).but hbt.out (by omega)
  have B3 : Below w.heap.size w w3 := (B2.trans (bF.mono (by omega))).trans (hbt.out.below.mono (by omega))
  have bE := al w3 (.cells #[.string u0, .string u1, .int .i64 u2, .int .i64 u3, .string u4, .slice u5 u6 u7, .int .i64 u8] 26)
  have hrd2 := hrd.out
  obtain ⟨rest, hrest⟩ : ∃ rest, (uE (R.length * 8 + 8) 0 R).2 = rest := ⟨_, rfl⟩
  have HRE : Hid (readE R = (if ok = true then some y else none, rest)) := by
    show _ = _
    rw [readE]
    exact Prod.ext hres.out hrest
  rw [hrest] at hrd2
  have cPl := fun W (hb : Below w3.heap.size w3 W) => place_tree W (w2.heap.size + 1) s.size rest (hrd2.on hb)
  have hrd3 := hrd2
  obtain ⟨⟨rp, rc, r1, r2, r3⟩, rfz, rl⟩ := hrd3
  have XA : Aside (Box7 w3 w.heap.size (.string ⟨#[]⟩) (.string ⟨#[]⟩) (.int .i64 0) (.int .i64 0) (.string ⟨#[]⟩) (.slice none 0 0) (.int .i64 0)) := X3
  have YA : Aside (Box2 w3 (w.heap.size + 1) (.int .i64 0) (.int .i64 0)) := Y3
  clear X2 Y2 cE hrest hrd hres r3 hT
  obtain ⟨c0, c1, c2, c3, c4, c5, c6, cf, cl⟩ := X3
  have rf0 := cf 0
  have rf1 := cf 1
  have rf2 := cf 2
  have rf3 := cf 3
  have rf4 := cf 4
  have rf5 := cf 5
  have rf6 := cf 6
  obtain ⟨y0, y1, yf, yl⟩ := Y3
  have yf0 := yf 0
  have yf1 := yf 1
  clear cf yf
  cases ok
  · have HP2 : Hid ((ex0, 2, placeT rest s.size) = (x, E, P)) := by
      show _ = _
      rw [← HP.out, HRE.out]; rfl
    generalize placeT rest s.size = Q at cPl HP2
    go_wp2_with fail
    refine (cPl _ bE).mono ?_
    rintro e w4 ⟨rfl, hq4⟩
    obtain rfl := hq4
    go_wp2
    refine bodyPost_ret (v := .tuple #[.agg #[.string ⟨#[]⟩, .string ⟨#[]⟩, .int .i64 0, .int .i64 0, .string ⟨#[]⟩, .slice none 0 0, .int .i64 0], .agg #[.int .i64 2, .int .i64 ((Q : Nat) : Int)]]) (by simp [results, Tryz.results5, go_sem, c0, c1, c2, c3, c4, c5, c6, y0, y1, cl, yl]) rfl ?_
    have he := HP2.out
    obtain ⟨rfl, he2⟩ := Prod.mk.inj he
    obtain ⟨rfl, rfl⟩ := Prod.mk.inj he2
    refine ⟨⟨_, rfl, ex_zero _ _⟩, ?_⟩
    exact ((((below_set7 B3 (Nat.le_refl _) _ _ _ _ _ _ _).setCell (p := ⟨w.heap.size + 1, 0, none⟩) (by simp) _).setCell (p := ⟨w.heap.size + 1, 1, none⟩) (by simp) _).alloc (by simp [World.setCell]; omega) _)
  · cases rest with
    | cons t0 rest0 =>
      have HP2 : Hid ((ex0, 2, placeT (t0 :: rest0) s.size) = (x, E, P)) := by
        show _ = _
        rw [← HP.out, HRE.out]; rfl
      have hlz : (((t0 :: rest0).length : Nat) : Int) = (rest0.length : Int) + 1 := by simp
      have hlp : (0 : Int) < (((t0 :: rest0).length : Nat) : Int) := by omega
      generalize placeT (t0 :: rest0) s.size = Q at cPl HP2
      go_wp2_with fail
      refine (cPl _ bE).mono ?_
      rintro e w4 ⟨rfl, hq4⟩
      obtain rfl := hq4
      go_wp2
      refine bodyPost_ret (v := .tuple #[.agg #[.string ⟨#[]⟩, .string ⟨#[]⟩, .int .i64 0, .int .i64 0, .string ⟨#[]⟩, .slice none 0 0, .int .i64 0], .agg #[.int .i64 2, .int .i64 ((Q : Nat) : Int)]]) (by simp [results, Tryz.results5, go_sem, c0, c1, c2, c3, c4, c5, c6, y0, y1, cl, yl]) rfl ?_
      have he := HP2.out
      obtain ⟨rfl, he2⟩ := Prod.mk.inj he
      obtain ⟨rfl, rfl⟩ := Prod.mk.inj he2
      refine ⟨⟨_, rfl, ex_zero _ _⟩, ?_⟩
      exact ((((below_set7 B3 (Nat.le_refl _) _ _ _ _ _ _ _).setCell (p := ⟨w.heap.size + 1, 0, none⟩) (by simp) _).setCell (p := ⟨w.heap.size + 1, 1, none⟩) (by simp) _).alloc (by simp [World.setCell]; omega) _)
    | nil =>
      simp only [List.length_nil] at r1
      have hsz : (y.pre 1).length ≤ 1048576 := by
        have h1 := HRE.out
        rw [readE] at h1
        have h2 := uE_szd (R.length * 8 + 8) 0 R y (by rw [h1]; rfl)
        rw [pre_len]
        omega
      have xE := hx.out.on bE
      have cG := tooGreat_any y _ _ _ xE hsz
      have HP2 : Hid ((if tgB y = true then (ex0, 4, 0) else (y, 0, 0)) = (x, E, P)) := by
        show _ = _
        rw [← HP.out, HRE.out]; rfl
      cases hg : tgB y
      · rw [hg] at cG
        rw [hg, if_neg (by decide)] at HP2
        clear c0 c1 c2 c3 c4 c5 c6 rf0 rf1 rf2 rf3 rf4 rf5 rf6 cl y0 y1 yf0 yf1 yl cPl
        go_wp2_with fail
        refine cG.mono ?_
        rintro e w4 ⟨rfl, b4⟩
        have b5 := bE.trans (b4.mono (by simp))
        have B4 := B3.trans (b5.mono (by omega))
        have hz4 : w3.heap.size + 1 ≤ w4.heap.size := by have := b4.size; simpa using this
        obtain ⟨c0, c1, c2, c3, c4, c5, c6, cf, cl⟩ := XA.out.on b5
        have rf0 := cf 0
        have rf1 := cf 1
        have rf2 := cf 2
        have rf3 := cf 3
        have rf4 := cf 4
        have rf5 := cf 5
        have rf6 := cf 6
        obtain ⟨y0, y1, yf, yl⟩ := YA.out.on b5
        have yf0 := yf 0
        have yf1 := yf 1
        clear cf yf
        obtain ⟨e0, e1, e2, e3, e4, e5, e6, ef, el⟩ := (box7_alloc w3 (.string u0) (.string u1) (.int .i64 u2) (.int .i64 u3) (.string u4) (.slice u5 u6 u7) (.int .i64 u8) 26).on b4
        have hxy := xE.on b4
        clear ef cG xE
        go_wp2
        refine bodyPost_ret (v := .tuple #[.agg #[.string u0, .string u1, .int .i64 u2, .int .i64 u3, .string u4, .slice u5 u6 u7, .int .i64 u8], .agg #[.int .i64 0, .int .i64 0]]) (by simp [results, Tryz.results5, go_sem, c0, c1, c2, c3, c4, c5, c6, y0, y1]) rfl ?_
        have he := HP2.out
        obtain ⟨rfl, he2⟩ := Prod.mk.inj he
        obtain ⟨rfl, rfl⟩ := Prod.mk.inj he2
        refine ⟨⟨_, rfl, ?_⟩, ?_⟩
        · have h2 := ExIn.low (lo' := (w.heap.size + 2 ≤ ·)) (fun b _ hb => (show w.heap.size + 2 ≤ b by simp at hb; omega)) _ _ hxy
          exact ExIn.low (fun b _ (hb : w.heap.size + 2 ≤ b) => (show w.heap.size ≤ b by omega)) _ _ (((h2.set7 (z := w.heap.size) (fun b (hb : w.heap.size + 2 ≤ b) => by omega) _ _ _ _ _ _ _).set1 (z := w.heap.size + 1) (fun b (hb : w.heap.size + 2 ≤ b) => by omega) 0 _).set1 (z := w.heap.size + 1) (fun b (hb : w.heap.size + 2 ≤ b) => by omega) 1 _)
        · exact ((below_set7 B4 (Nat.le_refl _) _ _ _ _ _ _ _).setCell (p := ⟨w.heap.size + 1, 0, none⟩) (by simp) _).setCell (p := ⟨w.heap.size + 1, 1, none⟩) (by simp) _
      · rw [hg] at cG
        rw [hg, if_pos rfl] at HP2
        clear c0 c1 c2 c3 c4 c5 c6 rf0 rf1 rf2 rf3 rf4 rf5 rf6 cl y0 y1 yf0 yf1 yl cPl
        go_wp2_with fail
        refine cG.mono ?_
        rintro e w4 ⟨rfl, b4⟩
        have b5 := bE.trans (b4.mono (by simp))
        have B4 := B3.trans (b5.mono (by omega))
        have hz4 : w3.heap.size + 1 ≤ w4.heap.size := by have := b4.size; simpa using this
        obtain ⟨c0, c1, c2, c3, c4, c5, c6, cf, cl⟩ := XA.out.on b5
        have rf0 := cf 0
        have rf1 := cf 1
        have rf2 := cf 2
        have rf3 := cf 3
        have rf4 := cf 4
        have rf5 := cf 5
        have rf6 := cf 6
        obtain ⟨y0, y1, yf, yl⟩ := YA.out.on b5
        have yf0 := yf 0
        have yf1 := yf 1
        clear cf yf
        go_wp2
        refine bodyPost_ret (v := .tuple #[.agg #[.string ⟨#[]⟩, .string ⟨#[]⟩, .int .i64 0, .int .i64 0, .string ⟨#[]⟩, .slice none 0 0, .int .i64 0], .agg #[.int .i64 4, .int .i64 0]]) (by simp [results, Tryz.results5, go_sem, c0, c1, c2, c3, c4, c5, c6, y0, y1]) rfl ?_
        have he := HP2.out
        obtain ⟨rfl, he2⟩ := Prod.mk.inj he
        obtain ⟨rfl, rfl⟩ := Prod.mk.inj he2
        refine ⟨⟨_, rfl, ex_zero _ _⟩, ?_⟩
        exact (((below_set7 B4 (Nat.le_refl _) _ _ _ _ _ _ _).setCell (p := ⟨w.heap.size + 1, 0, none⟩) (by simp) _).setCell (p := ⟨w.heap.size + 1, 1, none⟩) (by simp) _)
theorem parse_tree (s : ByteArray) (w : World) (henv : TEnv w) (hw : SG w) (x : Ex) (E : Int) (P : Nat) (hp : parseP s.data.toList = (x, E, P)) (hs : s.size ≤ maxLen) :
    Calls Tryz.prog 5 #[.string s] w fun e w' => (∃ v, e = .returned (.tuple #[v, .agg #[.int .i64 E, .int .i64 (P : Nat)]]) ∧ Aside (ExIn w' (w.heap.size ≤ ·) v x)) ∧ Below w.heap.size w w' := by
  obtain ⟨R, E0, P0, hL⟩ : ∃ R E0 P0, lexAll s.data.toList = (R, E0, P0) := ⟨_, _, _, rfl⟩
  rw [parseP, hL] at hp
  simp only at hp
  by_cases hE : E0 = 0
  · subst hE
    obtain rfl := (lexAll_ok hL).2.1
    rw [if_neg (by simp)] at hp
    have hl : s.data.toList.length = s.size := by simp
    rw [hl] at hp
    exact parse_good s w henv hw R hL x E P hp hs
  · rw [if_pos hE] at hp
    obtain ⟨rfl, hp2⟩ := Prod.mk.inj hp
    obtain ⟨rfl, rfl⟩ := Prod.mk.inj hp2
    exact parse_bad s w henv hw R _ _ hL hE hs
end Go.Proofs.YtnpinbpjfngknaaGreatDoor
