/-
  Package query: the type of what comes at a place.
-/
import Derived.Test.YticdcnbeemkapaaGreatDoorGrAr
import Derived.Deep.MidRow
import Derived.Deep.QuietTactic
import Derived.Deep.RegionHeld3
namespace Go.Proofs.YticdcnbeemkapaaGreatDoor
open Go.RowKit Go.BigFrame
set_option linter.unusedVariables false
set_option linter.unusedSimpArgs false

/-- An aggregate's cells, of a list that is handed in. -/
theorem agQ_at {w : World} {lo : Nat → Prop} {p : Option Addr} {l : List Ag} (h : AgsIs w lo p l) {j : Nat} (hj : j < l.length) : ∃ ba oa yp yc, p = some ⟨ba, oa, none⟩ ∧ ba < w.heap.size ∧ lo ba ∧ w.rangeAt ba (oa + j * 9) [.string l[j].what, .string l[j].arg.op, .string l[j].arg.nm, .int .i64 l[j].arg.vt, .int .i64 l[j].arg.vn, .string l[j].arg.vs, .slice yp l[j].arg.args.length yc, .int .i64 l[j].arg.pos, .string l[j].name] ∧ ExIn w lo (exV l[j].arg yp yc) l[j].arg := by
  obtain ⟨-, h⟩ := h
  rcases h with h0 | ⟨ba, oa, e, hbl, hlo, hE⟩
  · exact absurd h0 (by omega)
  · obtain ⟨yp, yc, c0, c1, c2, c3, c4, c5, c6, c7, c8, hx⟩ := hE j hj
    refine ⟨ba, oa, yp, yc, e, hbl, hlo, fun k v hv => ?_, hx⟩
    have hk : k < 9 := by have := (List.getElem?_eq_some_iff.1 hv).1; simpa using this
    have : k = 0 ∨ k = 1 ∨ k = 2 ∨ k = 3 ∨ k = 4 ∨ k = 5 ∨ k = 6 ∨ k = 7 ∨ k = 8 := by omega
    rcases this with rfl | rfl | rfl | rfl | rfl | rfl | rfl | rfl | rfl
    all_goals (simp at hv; subst hv; assumption)
theorem range_on {w w' : World} {b o : Nat} {cs : List Value} (h : w.rangeAt b o cs) (hb : b < w.heap.size) (hw : Below w.heap.size w w') : w'.rangeAt b o cs := fun j v hv => by
  rw [hw.cell (p := ⟨b, o + j, none⟩) hb]; exact h j v hv
set_option maxHeartbeats 4000000 in
set_option maxRecDepth 20000 in
theorem typeAt_col (q : Qy) (lo : Nat → Prop) (wp : Option Addr) (wc : Nat) (cp : Option Addr) (cc : Nat) (np : Option Addr) (nc : Nat) (gp : Option Addr) (gc : Nat) (ap : Option Addr) (ac : Nat) (QC : Array Value) (hQ : QV QC q cp cc np nc gp gc ap ac) (vl : Value) (zs : List Cl) (w : World) (henv : KEnv w) (hB : QyBe w lo q wp wc cp cc np nc gp gc ap ac) (hcv : ColsV w vl zs) (i : Nat) (hi : i < q.cols.length) (hsz : (q.cols[i].pre 1).length ≤ 1048576) (T E : Int) (hR : tyAt zs q i = (T, E)) :
    Calls Tryz.prog 76 #[.agg QC, .int .i64 (i : Int), vl] w fun e w' => e = .returned (.tuple #[.int .i64 T, errV E]) ∧ Below w.heap.size w w' := by
  have b1 := (Below.refl w.heap.size w).alloc (Nat.le_refl _) (.cells QC 39)
  obtain ⟨z1, z2, rfl⟩ := cols_form hcv
  obtain ⟨ba, oa, yp, yc, rfl, hbl, -, hrg, hx⟩ := partQ_at hB.cols hi
  have hR2 : ofT zs q.cols[i] = (T, E) := by
    rw [tyAt, if_pos hi, List.getElem?_eq_getElem hi] at hR
    exact hR
  have cT := typeOf_q _ lo _ _ zs _ (henv.on b1) (hx.on b1) hsz (hcv.on b1) T E hR2
  have hrg2 := range_on hrg hbl b1
  have hclen := hB.clen
  obtain ⟨hs, h8, -⟩ := hQ
  clear hs hR hR2 hx hrg hcv henv hB hsz
  generalize q.cols[i] = x at cT hrg2
  obtain ⟨op, nm, vt, vn, vs, pos, l⟩ := x
  simp only [exV, Ex.op, Ex.nm, Ex.vt, Ex.vn, Ex.vs, Ex.args, Ex.pos] at cT hrg2
  generalize l.length = NL at cT hrg2
  generalize q.cols.length = NC at h8 hi hclen
  generalize zs.length = NZ at cT ⊢
  have hld : ∀ {ops : Array Oper} {rest : List Oper} {op' : Oper} {a : Act} {Q : Exit → Act → World → Prop} (hgd : op'.guard = none) (x : Operand) (ho : op'.op = .load 26 x) (hx : a.eval x = .pointer (some ⟨ba, oa + i * 7, none⟩)), wpList Tryz.prog ops Q rest (a.put op'.dst (.agg #[.string op, .string nm, .int .i64 vt, .int .i64 vn, .string vs, .slice yp NL yc, .int .i64 pos])) (w.alloc (.cells QC 39)) → wpList Tryz.prog ops Q (op' :: rest) a (w.alloc (.cells QC 39)) := fun hgd x ho hx => wpList_load_mid hgd 26 x ho ba (oa + i * 7) hx _ _ hrg2 Tryz.underlying26 rfl size_exU
  have hiz : (i : Int) < (NC : Int) := by omega
  have h0z : (0 : Int) ≤ (i : Int) := by omega
  clear hrg2
  go_enter Tryz.func76, Tryz.ntmps76
  go_wp2_with (refine hld rfl _ rfl rfl ?_)
  go_wp2_with fail
  refine cT.mono ?_
  rintro e w1 ⟨rfl, b2⟩
  clear hld cT
  go_wp2
  go_ret2
  exact ⟨rfl, b1.trans (b2.mono (by simp))⟩
set_option maxHeartbeats 4000000 in
set_option maxRecDepth 20000 in
theorem typeAt_agg (q : Qy) (lo : Nat → Prop) (wp : Option Addr) (wc : Nat) (cp : Option Addr) (cc : Nat) (np : Option Addr) (nc : Nat) (gp : Option Addr) (gc : Nat) (ap : Option Addr) (ac : Nat) (QC : Array Value) (hQ : QV QC q cp cc np nc gp gc ap ac) (vl : Value) (zs : List Cl) (w : World) (henv : KEnv w) (haenv : AEnv w) (hB : QyBe w lo q wp wc cp cc np nc gp gc ap ac) (hcv : ColsV w vl zs) (k : Nat) (hk : k < q.aggs.length) (hc0 : q.cols.length = 0) (hg6 : q.group.length ≤ 6) (hsz : (q.aggs[k].arg.pre 1).length ≤ 1048576) (T E : Int) (hR : tyAt zs q (q.group.length + k) = (T, E)) :
    Calls Tryz.prog 76 #[.agg QC, .int .i64 ((q.group.length + k : Nat) : Int), vl] w fun e w' => e = .returned (.tuple #[.int .i64 T, errV E]) ∧ Below w.heap.size w w' := by
  have b1 := (Below.refl w.heap.size w).alloc (Nat.le_refl _) (.cells QC 39)
  obtain ⟨z1, z2, rfl⟩ := cols_form hcv
  obtain ⟨ba, oa, yp, yc, rfl, hbl, -, hrg, hx⟩ := agQ_at hB.aggs hk
  have hR2 : agQ zs q.aggs[k] = (T, E) := by
    rw [tyAt, if_neg (by omega), if_neg (by omega), Nat.add_sub_cancel_left, List.getElem?_eq_getElem hk] at hR
    exact hR
  have cT := typeOfAgg_q _ lo yp yc _ zs _ (henv.on b1) (haenv.on b1) (hx.on b1) hsz (hcv.on b1) T E hR2
  have hrg2 := range_on hrg hbl b1
  have halen := hB.aggs.1
  obtain ⟨hs, h8, -, h10, -, -, h13⟩ := hQ
  clear hs hR hR2 hx hrg hcv henv haenv hB hsz
  rw [hc0] at h8
  clear hc0
  generalize q.aggs[k] = x at cT hrg2
  obtain ⟨what, ⟨op, nm, vt, vn, vs, pos, l⟩, name⟩ := x
  simp only [agV, exV, Ex.op, Ex.nm, Ex.vt, Ex.vn, Ex.vs, Ex.args, Ex.pos] at cT hrg2
  generalize l.length = NL at cT hrg2
  generalize q.aggs.length = NA at h13 hk halen
  generalize q.group.length = NG at h10 hg6 ⊢
  generalize zs.length = NZ at cT ⊢
  have hld : ∀ {ops : Array Oper} {rest : List Oper} {op' : Oper} {a : Act} {Q : Exit → Act → World → Prop} (hgd : op'.guard = none) (x : Operand) (ho : op'.op = .load 101 x) (hx : a.eval x = .pointer (some ⟨ba, oa + k * 9, none⟩)), wpList Tryz.prog ops Q rest (a.put op'.dst (.agg #[.string what, .string op, .string nm, .int .i64 vt, .int .i64 vn, .string vs, .slice yp NL yc, .int .i64 pos, .string name])) (w.alloc (.cells QC 39)) → wpList Tryz.prog ops Q (op' :: rest) a (w.alloc (.cells QC 39)) := fun hgd x ho hx => wpList_load_mid hgd 101 x ho ba (oa + k * 9) hx _ _ hrg2 Tryz.underlying101 rfl size_agU
  have hiz : (k : Int) < (NA : Int) := by omega
  have h0z : (0 : Int) ≤ (k : Int) := by omega
  have e0 : ((NG + k : Nat) : Int) - (NG : Int) = (k : Int) := by omega
  obtain ⟨I, hI⟩ : ∃ I : Int, ((NG + k : Nat) : Int) = I := ⟨_, rfl⟩
  have hwr : IntKind.i64.wrap (I - (NG : Int)) = (k : Int) := by rw [← hI, e0, IntKind.wrap_i64]; omega
  have hi1 : ¬ I < 0 := by omega
  have hi2 : ¬ I < (NG : Int) := by omega
  rw [hI]
  clear hrg2 e0 hI
  go_enter Tryz.func76, Tryz.ntmps76
  go_wp2_with (refine hld rfl _ rfl rfl ?_)
  go_wp2_with fail
  refine cT.mono ?_
  rintro e w1 ⟨rfl, b2⟩
  clear hld cT
  go_wp2
  go_ret2
  exact ⟨rfl, b1.trans (b2.mono (by simp))⟩
set_option maxHeartbeats 4000000 in
set_option maxRecDepth 20000 in
theorem typeAt_group (q : Qy) (lo : Nat → Prop) (wp : Option Addr) (wc : Nat) (cp : Option Addr) (cc : Nat) (np : Option Addr) (nc : Nat) (gp : Option Addr) (gc : Nat) (ap : Option Addr) (ac : Nat) (QC : Array Value) (hQ : QV QC q cp cc np nc gp gc ap ac) (vl : Value) (zs : List Cl) (w : World) (hB : QyBe w lo q wp wc cp cc np nc gp gc ap ac) (hcv : ColsV w vl zs) (hz0 : zs.length ≠ 0) (hz6 : zs.length ≤ 6) (i : Nat) (hi : i < q.group.length) (hc0 : q.cols.length = 0) (hg6 : q.group.length ≤ 6) (T E : Int) (hR : tyAt zs q i = (T, E)) :
    Calls Tryz.prog 76 #[.agg QC, .int .i64 (i : Int), vl] w fun e w' => e = .returned (.tuple #[.int .i64 T, errV E]) ∧ Below w.heap.size w w' := by
  have b1 := (Below.refl w.heap.size w).alloc (Nat.le_refl _) (.cells QC 39)
  obtain ⟨z1, z2, rfl⟩ := cols_form hcv
  have hR2 : grT zs (q.group.take i) q.group[i] = (T, E) := by
    rw [tyAt, if_neg (by omega), if_pos hi, List.getElem?_eq_getElem hi] at hR
    exact hR
  have hst := hB.group
  obtain ⟨gb, go, rfl, hgl, hgc⟩ := sts_some hst hi
  have hcell := hgc i hi
  obtain ⟨p1, c1, hsl, hst1⟩ := sts_slice_h hst rfl (Nat.le_of_lt hi)
  have hlt : (q.group.take i).length = i := by rw [List.length_take]; omega
  have cT := fun W (hb : Below w.heap.size w W) => typeOfGroup_q q.group[i] p1 i c1 (q.group.take i) _ zs W hlt (hst1.on hb) (by omega) (hcv.on hb) hz0 hz6 T E hR2
  rw [← b1.cell (p := ⟨gb, go + i, none⟩) hgl] at hcell
  obtain ⟨hs, h8, -, h10, -⟩ := hQ
  clear hs hR hR2 hcv hB hgc hst hst1 hlt
  rw [hc0] at h8
  clear hc0
  generalize q.group[i] = x at cT hcell
  generalize q.group.length = NG at h10 hi hg6 hsl
  generalize zs.length = NZ at cT ⊢
  have hiz : (i : Int) < (NG : Int) := by omega
  have h0z : (0 : Int) ≤ (i : Int) := by omega
  have hgl1 : gb < w.heap.size + 1 := by omega
  go_enter Tryz.func76, Tryz.ntmps76
  go_wp2
  go_region_with (go_at_call 104; refine (cT _ (by repeat (first | exact b1 | apply below_drewN | refine Below.drew ?_))).mono ?_; rintro e' w1 ⟨rfl, b2⟩)
  all_goals
    go_wp2
    go_ret2
    exact ⟨rfl, (Below.drew b1).trans (b2.mono (by simp))⟩
end Go.Proofs.YticdcnbeemkapaaGreatDoor
