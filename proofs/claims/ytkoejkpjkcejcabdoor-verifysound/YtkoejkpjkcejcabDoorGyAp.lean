/-
  VfB, VfC, VfD, in one text.
-/
import Derived.Test.YtkoejkpjkcejcabDoorGyAo
import Derived.Laws.AppendOwnNone
import Derived.Lib.AppendZerosOnto
import Derived.BigQuiet
import Derived.Deep.QuietTactic
namespace Go.Proofs.YtkoejkpjkcejcabDoor
open Go.RowKit
set_option linter.unusedVariables false

theorem stk_lit1 (w : World) (B g : Nat) (hg : g = w.heap.size) (t : Int) (ty : TypeId) (hB : B < w.heap.size) : StkAt (w.alloc (.cells #[.int .i64 t] ty)) B (.slice (some ⟨g, 0, none⟩) 1 1) [t] := by
  subst hg
  refine ⟨_, 1, rfl, ⟨Nat.le_refl _, by simp⟩, (fun h => nomatch h), fun a ha => ?_⟩
  injection ha with ha
  subst ha
  refine ⟨w.heap.size, 0, rfl, hB, by simp, fun j hj => ?_⟩
  obtain rfl : j = 0 := by simp at hj; omega
  rw [World.cell?_alloc_at _ _ _ _ rfl]; rfl
theorem stk_lit2 (w : World) (B g : Nat) (hg : g = w.heap.size) (t u : Int) (ty : TypeId) (hB : B < w.heap.size) : StkAt (w.alloc (.cells #[.int .i64 t, .int .i64 u] ty)) B (.slice (some ⟨g, 0, none⟩) 2 2) [t, u] := by
  subst hg
  refine ⟨_, 2, rfl, ⟨Nat.le_refl _, by simp⟩, (fun h => nomatch h), fun a ha => ?_⟩
  injection ha with ha
  subst ha
  refine ⟨w.heap.size, 0, rfl, hB, by simp, fun j hj => ?_⟩
  have : j = 0 ∨ j = 1 := by simp at hj; omega
  rcases this with rfl | rfl
  · rw [World.cell?_alloc_at _ _ _ _ rfl]; rfl
  · rw [World.cell?_alloc_at _ _ _ _ rfl]; rfl
set_option maxHeartbeats 4000000 in
theorem leads_any (i : I5) (k bh : Nat) (nc : Int) (w : World) (hk : k ≤ 1000000) (hbh : bh ≤ 1000000) (hA : argE i nc bh = 0) (B : Nat) (hB : B < w.heap.size) (L : List Nat) (hL : leadP i k = L) :
    Calls Tryd.prog 99 #[insW i, .int .i64 k] w fun e w' => (∃ v, e = .returned v ∧ Aside (StkAt w' B v (L.map fun (x : Nat) => (x : Int)))) ∧ Below w.heap.size w w' := by
  obtain ⟨a, g, t, n, s⟩ := i
  show Calls Tryd.prog _ #[Value.agg #[.int .i64 a, .int .i64 g, .int .i64 t, .int .i64 n, .string s], _] w _
  have hB2 := fun o o2 => (alB w o).trans ((alB (w.alloc o) o2).mono (by simp))
  unfold argE at hA
  unfold leadP at hL
  simp only at hA hL
  by_cases a4 : a = 4
  · subst a4
    rw [if_neg (by decide), if_neg (by decide), if_neg (by decide), if_pos (by decide)] at hA
    have hg : 0 ≤ g ∧ g ≤ (bh : Int) := Classical.byContradiction fun h => by rw [if_neg h] at hA; exact absurd hA (by decide)
    obtain ⟨m, rfl⟩ : ∃ m : Nat, g = m := ⟨g.toNat, by omega⟩
    have hm : m ≤ 1000000 := by omega
    rw [if_pos rfl, Int.toNat_natCast] at hL
    subst hL
    have hw : wrap64 ((k : Int) + (m : Int)) = (k : Int) + (m : Int) := by unfold wrap64; omega
    clear hA hg
    go_enter Tryd.func99, Tryd.ntmps99
    go_wp2
    go_ret
    exact ⟨⟨_, rfl, (show Aside _ from stk_lit1 _ B _ (by simp) _ _ (by simp; omega))⟩, hB2 _ _⟩
  have b4 : (a == 4) = false := by simpa using a4
  rw [if_neg a4] at hL
  by_cases a5 : a = 5
  · subst a5
    rw [if_neg (by decide), if_neg (by decide), if_neg (by decide), if_pos (by decide)] at hA
    have hg : 0 ≤ g ∧ g ≤ (bh : Int) := Classical.byContradiction fun h => by rw [if_neg h] at hA; exact absurd hA (by decide)
    obtain ⟨m, rfl⟩ : ∃ m : Nat, g = m := ⟨g.toNat, by omega⟩
    have hm : m ≤ 1000000 := by omega
    rw [if_pos rfl, Int.toNat_natCast] at hL
    subst hL
    have hw : wrap64 ((k : Int) + (m : Int)) = (k : Int) + (m : Int) := by unfold wrap64; omega
    clear hA hg a4 b4
    go_enter Tryd.func99, Tryd.ntmps99
    go_wp2
    go_ret
    exact ⟨⟨_, rfl, (show Aside _ from stk_lit2 _ B _ (by simp) _ _ _ (by simp; omega))⟩, hB2 _ _⟩
  have b5 : (a == 5) = false := by simpa using a5
  rw [if_neg a5] at hL
  subst hL
  clear hA a4 a5
  go_enter Tryd.func99, Tryd.ntmps99
  go_wp2
  go_ret
  exact ⟨⟨_, rfl, (show Aside _ from stk_lit1 _ B _ (by simp) _ _ (by simp; omega))⟩, hB2 _ _⟩
theorem one_at {w : World} {p : Option Addr} {x : Int} (h : IntsAt w p [x]) : ∃ b o, p = some ⟨b, o, none⟩ ∧ b < w.heap.size ∧ w.cell? ⟨b, o, none⟩ = some (.int .i64 x) := by
  rcases h with h | ⟨b, o, e, hl, h⟩
  · exact absurd h (by simp)
  · exact ⟨b, o, e, hl, h 0 (by simp)⟩
theorem cntN_le (x : List UInt8) : cntN x ≤ 3 := by
  cases h : kdFind x kdRules with
  | none => rw [cntN_none h]; omega
  | some r => rw [cntN_some h]; exact (kdCnt_ok r (kdFind_mem h).1).2
set_option maxHeartbeats 4000000 in
theorem lays_any (i : I5) (off : List Int) (p : Option Addr) (n0 c : Nat) (zs : List (ByteArray × Int)) (cb co cc : Nat) (bh : Int) (w : World) (hr : REnv w) (ho : IntsAt w p off) (hN : off.length = n0) (hneed : off.length = needN i) (hA : argE i zs.length bh = 0) (hz6 : zs.length ≤ 6) (hc : ColsIn w cb co zs) (B : Nat) (hB : B < w.heap.size) (L : List Int) (E : Int) (hL : layP i off zs = (L, E)) :
    Calls Tryd.prog 124 #[insW i, .slice p n0 c, .slice (some ⟨cb, co, none⟩) zs.length cc] w fun e w' => (∃ v, e = .returned (.tuple #[v, errV E]) ∧ Aside (StkAt w' B v L)) ∧ Below w.heap.size w w' := by
  obtain ⟨a, g, t, n, s⟩ := i
  have cO := fun W hW => opOf_any (a, g, t, n, s) W hW
  simp only [insW] at cO
  show Calls Tryd.prog _ #[Value.agg #[.int .i64 a, .int .i64 g, .int .i64 t, .int .i64 n, .string s], _, _] w _
  have hB1 := fun o => alB w o
  have hB2 := fun o o2 => (alB w o).trans ((alB (w.alloc o) o2).mono (by simp))
  unfold argE at hA
  unfold layP at hL
  simp only at hA hL
  by_cases a1 : a = 1
  · subst a1
    rw [if_pos rfl] at hL
    obtain ⟨rfl, rfl⟩ := Prod.mk.inj hL
    clear hA hL hneed ho hc cO hr
    go_enter Tryd.func124, Tryd.ntmps124
    go_wp2
    go_ret2
    exact ⟨⟨_, rfl, (show Aside _ from stk_lit1 _ B _ (by simp) _ _ (by simp; omega))⟩, hB2 _ _⟩
  have b1 : (a == 1) = false := by simpa using a1
  rw [if_neg a1] at hL hA
  by_cases a2 : a = 2
  · subst a2
    rw [if_pos rfl] at hL hA
    have hg : 0 ≤ g ∧ g < (zs.length : Int) := Classical.byContradiction fun h => by rw [if_neg h] at hA; exact absurd hA (by decide)
    obtain ⟨m, rfl⟩ : ∃ m : Nat, g = m := ⟨g.toNat, by omega⟩
    have hm : m < zs.length := by omega
    obtain ⟨rfl, rfl⟩ := Prod.mk.inj hL
    rw [Int.toNat_natCast, List.getElem?_eq_getElem hm, Option.getD_some]
    have c1 := ((hc.on (hB1 (.cells #[.int .i64 2, .int .i64 m, .int .i64 t, .int .i64 n, .string s] 50))).2 m hm).2
    have hbl := hc.1
    generalize zs[m].2 = T at c1 ⊢
    have g0 : (0 : Int) ≤ (m : Int) := hg.1
    have g1 : (m : Int) < (zs.length : Int) := hg.2
    clear hA hL hneed ho hc cO hr hg
    go_enter Tryd.func124, Tryd.ntmps124
    go_wp2
    go_ret2
    exact ⟨⟨_, rfl, (show Aside _ from stk_lit1 _ B _ (by simp) _ _ (by simp; omega))⟩, hB2 _ _⟩
  have b2 : (a == 2) = false := by simpa using a2
  rw [if_neg a2] at hL hA
  by_cases a3 : a = 3
  · subst a3
    rw [if_pos rfl] at hL hA
    obtain ⟨T, hT⟩ : ∃ T, (ruleP (opN g) off).1 = T := ⟨_, rfl⟩
    rw [hT] at hL
    obtain ⟨rfl, hE⟩ := Prod.mk.inj hL
    have hR : ruleP (opN g) off = (T, E) := Prod.ext hT hE
    have HR : Hid (ruleP (opN g) off = (T, E)) := hR
    have hn3 : n0 ≤ 3 := by rw [← hN, hneed, needN, if_pos rfl]; exact cntN_le _
    clear hA hL hneed hc hT hE hR b1 b2
    go_enter Tryd.func124, Tryd.ntmps124
    go_wp2_with fail
    refine (cO _ (hr.on (hB1 _))).mono ?_
    rintro e w1 ⟨rfl, b1⟩
    have b2 := (hB1 _).trans (b1.mono (by simp))
    clear cO
    have cR := rule_any ⟨(opN g).toArray⟩ p c n0 off w1 (hr.on b2) hN (by omega) (ho.on b2) T E HR.out
    go_wp2_with fail
    refine cR.mono ?_
    rintro e w2 ⟨rfl, b3⟩
    have b4 := b2.trans (b3.mono b2.size)
    have hs2 := b4.size
    go_wp2
    go_ret2
    exact ⟨⟨_, rfl, (show Aside _ from stk_lit1 _ B _ rfl _ _ (by omega))⟩, b4.alloc hs2 _⟩
  have b3 : (a == 3) = false := by simpa using a3
  rw [if_neg a3] at hL
  clear cO hA
  unfold needN at hneed
  simp only at hneed
  rw [if_neg a3] at hneed
  by_cases a5 : a = 5
  · subst a5
    rw [if_pos rfl] at hL
    rw [if_pos (by decide)] at hneed
    match off, hneed with
    | [x], _ =>
      obtain ⟨b, o, rfl, hbl, cx⟩ := one_at (ho.on (hB1 (.cells #[.int .i64 5, .int .i64 g, .int .i64 t, .int .i64 n, .string s] 50)))
      obtain rfl : 1 = n0 := hN
      simp only [List.headD_cons] at hL
      by_cases hx : x = 2
      · subst hx
        have hL2 : (([] : List Int), (0 : Int)) = (L, E) := by simpa using hL
        obtain ⟨rfl, rfl⟩ := Prod.mk.inj hL2
        clear hL hL2 ho hc hr
        go_enter Tryd.func124, Tryd.ntmps124
        go_wp2
        go_ret2
        exact ⟨⟨_, rfl, (show Aside _ from StkAt.nil _ _)⟩, hB1 _⟩
      · have hL2 : (([] : List Int), (8 : Int)) = (L, E) := by simpa [hx] using hL
        obtain ⟨rfl, rfl⟩ := Prod.mk.inj hL2
        have hxb : (x != 2) = true := by simpa using hx
        clear hL hL2 ho hc hr hx
        go_enter Tryd.func124, Tryd.ntmps124
        go_wp2
        go_ret2
        exact ⟨⟨_, rfl, (show Aside _ from StkAt.nil _ _)⟩, hB1 _⟩
  have b5 : (a == 5) = false := by simpa using a5
  rw [if_neg a5] at hL
  by_cases a6 : a = 6
  · subst a6
    rw [if_pos rfl] at hL
    rw [if_pos (by decide)] at hneed
    match off, hneed with
    | [x], _ =>
      obtain ⟨b, o, rfl, hbl, cx⟩ := one_at (ho.on (hB1 (.cells #[.int .i64 6, .int .i64 g, .int .i64 t, .int .i64 n, .string s] 50)))
      obtain rfl : 1 = n0 := hN
      simp only [List.headD_cons] at hL
      obtain ⟨rfl, rfl⟩ := Prod.mk.inj hL
      clear hL ho hc hr
      go_enter Tryd.func124, Tryd.ntmps124
      go_wp2
      go_region
      go_wp2
      go_ret2
      exact ⟨⟨_, rfl, (show Aside _ from stk_lit2 _ B _ (by simp) _ _ _ (by simp; omega))⟩, ((hB1 _).drew).alloc (by simp) _⟩
  have b6 : (a == 6) = false := by simpa using a6
  rw [if_neg a6] at hL
  obtain ⟨rfl, rfl⟩ := Prod.mk.inj hL
  clear hL ho hc hr hN hneed a1 a2 a3 a5 a6
  go_enter Tryd.func124, Tryd.ntmps124
  go_wp2
  go_ret2
  exact ⟨⟨_, rfl, (show Aside _ from StkAt.nil _ _)⟩, hB1 _⟩
end Go.Proofs.YtkoejkpjkcejcabDoor
namespace Go.Proofs.YtkoejkpjkcejcabDoor
open Go.RowKit
set_option linter.unusedVariables false

theorem info_intV : (Tryd.prog.info? 3).map (fun i => (i.zero, i.size, i.bytes)) = some (some (.int .i64 0), 1, 8) := by kernel_rfl
def intC (ts : List Int) : List Value := ts.map fun t => .int .i64 t
theorem own_stk {W : World} {B B' : Nat} {v : Value} {n : Nat} {ts : List Int} (hn : ts.length = n) (h : W.ownsRow B' 3 1 v n (intC ts)) (hB : B < B') (h64 : n ≤ 64) : StkAt W B v ts := by
  subst hn
  rcases h.2 with ⟨rfl, e1⟩ | ⟨g, cap, cur, rfl, hb, hg, hm, hx, hs, ht⟩
  · have : ts = [] := List.length_eq_zero_iff.1 e1
    subst this
    exact StkAt.nil _ _
  · refine ⟨_, cap, rfl, ⟨hm, h64⟩, (fun h => nomatch h), fun a ha => ?_⟩
    injection ha with ha
    subst ha
    refine ⟨g, 0, rfl, by omega, (Array.getElem?_eq_some_iff.1 hg).1, fun j hj => ?_⟩
    have h1 := h.cells (g := g) rfl j (.int .i64 ts[j]) (by rw [intC, List.getElem?_map, List.getElem?_eq_getElem hj]; rfl)
    rw [Go.WideShapes.add_plain] at h1
    simpa using h1
theorem grow_zero (w : World) :
    Calls Tryd.prog 139 #[.slice none 0 0, .int .i64 0] w fun e w' => e = .returned (.slice none 0 0) ∧ w' = w := by
  go_enter Tryd.func139, Tryd.ntmps139
  go_wp2
  go_ret
  exact ⟨rfl, rfl⟩
set_option maxHeartbeats 2000000 in
theorem grow_some (n : Nat) (w : World) (h0 : 0 < n) (hn : n ≤ 1000) :
    Calls Tryd.prog 139 #[.slice none 0 0, .int .i64 n] w fun e w' => (∃ v, e = .returned v ∧ Aside (w'.ownsRow w.heap.size 3 1 v 0 [])) ∧ Below w.heap.size w w' := by
  obtain ⟨i0, hi, hz0, hz1, hzz⟩ := info_parts info_intV
  have hold : (Builtin.firstCells i0.size 0 (.slice none 0 0)).run Tryd.prog w.drew = .ok #[] w.drew := run_firstCells_none w.drew i0.size 0 0 0
  have hrz := fun ty => Lib.run_append_grow_zeros w 70 3 ty 3 i0 (.int .i64 0) .i64 .i64 Tryd.underlying70 Tryd.underlying3 hi hz0 none 0 0 [] hold n (by omega) (by omega) (by omega) (by omega) (by rw [hzz]; omega) (by rw [Nat.zero_add]; exact growslice_fits h0 (by rw [hzz]; omega))
  rw [Nat.zero_add] at hrz
  have hG0 := grownCap_ge w n 0 3
  have hGm := grownCap_le_maxLen w n 0 3 (by unfold maxLen; omega)
  generalize grownCap w n 0 3 = G at hrz hG0 hGm
  have hG2 := hGm
  unfold maxLen at hG2
  have hOw := World.ownsRow_made (base := w.heap.size) (e := 3) (size := 1) w.drew (#[] ++ Builtin.zeroCells (Value.int .i64 0).cells n ++ Builtin.zeroCells (Value.int .i64 0).cells (G - n)) G (Nat.le_refl _) hGm (by simp [size_zeroCells, Value.cells]; omega)
  have hBe : Below w.heap.size w (w.drew.alloc (.cells (#[] ++ Builtin.zeroCells (Value.int .i64 0).cells n ++ Builtin.zeroCells (Value.int .i64 0).cells (G - n)) 3)) := ((Below.refl _ w).drew).alloc (Nat.le_refl _) _
  generalize #[] ++ Builtin.zeroCells (Value.int .i64 0).cells n ++ Builtin.zeroCells (Value.int .i64 0).cells (G - n) = CC at hrz hOw hBe
  have z1 : ¬ ((n : Int) < 0) := by omega
  have z2 : (0 : Int) < (n : Int) := by omega
  have HO : Aside ((w.drew.alloc (.cells CC 3)).ownsRow w.heap.size 3 1 (.slice (some ⟨w.heap.size, 0, none⟩) 0 G) 0 []) := hOw
  clear hold hi hz0 hz1 hzz hOw
  go_enter Tryd.func139, Tryd.ntmps139
  go_wp2_with (at_builtin; refine Lib.wpList_append_run _ rfl _ _ _ _ rfl _ _ rfl rfl _ _ (hrz _) ?_)
  go_ret
  exact ⟨⟨_, rfl, HO⟩, hBe⟩
/-- append of a list of types, which may lie nowhere, to one's own. -/
theorem wpList_append_stk {w : World} {ops : Array Oper} {rest : List Oper} {o : Oper} {a : Act} {Q : Exit → Act → World → Prop} (hgd : o.guard = none) (s x : Operand)
    (ho : o.op = .call { callee := .builtin .append, args := #[s, x], argTypes := #[70, 70] })
    (base B : Nat) (v : Value) (n : Nat) (xs : List Int) (hs : a.eval s = v) (hown : w.ownsRow base 3 1 v n (intC xs))
    (u : Value) (ts : List Int) (hx : a.eval x = u) (hst : StkAt w B u ts) (hsm : n + ts.length ≤ 1000) (hbase : base ≤ w.heap.size)
    (h : ∀ v' w', w'.ownsRow base 3 1 v' (n + ts.length) (intC (xs ++ ts)) → Below base w w' → w.grownBy w' v.ownBlock → wpList Tryd.prog ops Q rest (a.put o.dst v') w') : wpList Tryd.prog ops Q (o :: rest) a w := by
  obtain ⟨i0, hi, hz0, hz1, hzz⟩ := info_parts info_intV
  obtain ⟨p, c, rfl, h1, h2, h3⟩ := hst
  cases p with
  | none =>
    have hc := h2 rfl
    subst hc
    have hl : ts.length = 0 := by omega
    have : ts = [] := List.length_eq_zero_iff.1 hl
    subst this
    refine wpList_append_own_none hgd s x 70 ho base 3 i0 1 Tryd.underlying70 hi v n (intC xs) hs hown hx (h v w ?_ (Below.refl _ _) ?_)
    · simpa using hown
    · exact ⟨rfl, rfl, rfl, Nat.le_refl _, fun _ _ _ => rfl⟩
  | some ad =>
    obtain ⟨g, off, rfl, h4, h5, h6⟩ := h3 ad rfl
    refine wpList_append_own w hgd s x 70 ho base 3 i0 (.int .i64 0) 1 8 Tryd.underlying70 hi hz0 hz1 hzz rfl (by decide) v n (intC xs) hs hown ⟨g, off, none⟩ ts.length c (intC ts) hx (by simp [intC]) (fun j y hy => ?_) (fun y hy => ?_) (by unfold maxLen; omega) (by omega) hbase (fun v' w' o1 o2 _ => ?_)
    · rw [intC, List.getElem?_map] at hy
      obtain ⟨t, ht, rfl⟩ := Option.map_eq_some_iff.1 hy
      obtain ⟨hj, rfl⟩ := List.getElem?_eq_some_iff.1 ht
      rw [Go.WideShapes.add_plain]
      exact h6 j hj
    · rw [intC, List.mem_map] at hy
      obtain ⟨t, _, rfl⟩ := hy
      rfl
    · refine h v' w' ?_ ((Below.refl _ w).grown o2 hbase (fun j hj => (hown.lt j hj).1)) o2
      rw [intC, List.map_append]; exact o1
end Go.Proofs.YtkoejkpjkcejcabDoor
namespace Go.Proofs.YtkoejkpjkcejcabDoor
open Go.RowKit
set_option linter.unusedVariables false

set_option maxHeartbeats 4000000 in
theorem concat_any (sb : Nat) (p1 p2 : Option Addr) (n1 n2 k1 k2 : Nat) (t1 t2 : List Int) (w : World) (B : Nat) (hB : B < w.heap.size) (h1 : StkAt w B (.slice p1 n1 k1) t1) (h2 : StkAt w B (.slice p2 n2 k2) t2) (hn1 : t1.length = n1) (hn2 : t2.length = n2) (hsb : sb < w.heap.size) (c0 : w.cell? ⟨sb, 0, none⟩ = some (.slice p1 n1 k1)) (c1 : w.cell? ⟨sb, 1, none⟩ = some (.slice p2 n2 k2)) (hl : n1 + n2 ≤ 64) :
    Calls Tryd.prog 125 #[.slice (some ⟨sb, 0, none⟩) 2 2] w fun e w' => (∃ v, e = .returned v ∧ Aside (StkAt w' B v (t1 ++ t2))) ∧ Below w.heap.size w w' := by
  have z1 : ¬ ((n1 : Int) < 0) := by omega
  have z2 : ¬ ((n1 : Int) + (n2 : Int) < 0) := by omega
  have cG : Calls Tryd.prog 139 #[.slice none 0 0, .int .i64 ((n1 : Int) + (n2 : Int))] w fun e w' => (∃ v, e = .returned v ∧ Aside (w'.ownsRow w.heap.size 3 1 v 0 [])) ∧ Below w.heap.size w w' := by
    by_cases h0 : n1 + n2 = 0
    · rw [show (n1 : Int) + (n2 : Int) = 0 by omega]
      refine (grow_zero w).mono ?_
      rintro e w' ⟨rfl, rfl⟩
      exact ⟨⟨_, rfl, (show Aside _ from World.ownsRow_nil _ _ _ _)⟩, Below.refl _ _⟩
    · rw [show (n1 : Int) + (n2 : Int) = ((n1 + n2 : Nat) : Int) by omega]
      exact grow_some (n1 + n2) w (by omega) (by omega)
  have H1 : Aside (StkAt w B (.slice p1 n1 k1) t1) := h1
  have H2 : Aside (StkAt w B (.slice p2 n2 k2) t2) := h2
  have HN1 : Hid (t1.length = n1) := hn1
  have HN2 : Hid (t2.length = n2) := hn2
  clear h1 h2 hn1 hn2
  go_enter Tryd.func125, Tryd.ntmps125
  go_wp2
  refine wp_loop_rounds 3 ?_
  rw [rounds_succ]
  go_wp2
  rw [rounds_succ]
  go_wp2
  rw [rounds_succ]
  go_wp2_with fail
  refine cG.mono ?_
  rintro e w1 ⟨⟨v, rfl, OW⟩, b1⟩
  have hs1 := b1.size
  have d0 : w1.cell? ⟨sb, 0, none⟩ = some (.slice p1 n1 k1) := by rw [b1.cell (p := ⟨sb, 0, none⟩) hsb]; exact c0
  have d1 : w1.cell? ⟨sb, 1, none⟩ = some (.slice p2 n2 k2) := by rw [b1.cell (p := ⟨sb, 1, none⟩) hsb]; exact c1
  clear cG c0 c1
  go_wp2
  refine wp_loop_rounds 3 ?_
  rw [rounds_succ]
  go_wp2_with (at_builtin; refine wpList_append_stk rfl _ _ rfl w.heap.size B v 0 [] rfl OW.out _ t1 rfl (H1.out.on b1) (by rw [HN1.out]; omega) hs1 ?_)
  intro v2 w2 OW2 b2 g2
  have b3 : Below w.heap.size w w2 := b1.trans b2
  have hs2 := b3.size
  have d2 : w2.cell? ⟨sb, 1, none⟩ = some (.slice p2 n2 k2) := by rw [b2.cell (p := ⟨sb, 1, none⟩) hsb]; exact d1
  have O2 : Aside (w2.ownsRow w.heap.size 3 1 v2 t1.length (intC t1)) := OW2
  clear d0 d1 OW2 g2 OW b1 b2 hs1
  go_wp2
  rw [rounds_succ]
  go_wp2_with (at_builtin; refine wpList_append_stk rfl _ _ rfl w.heap.size B v2 _ _ rfl O2.out _ t2 rfl (H2.out.on b3) (by rw [HN1.out, HN2.out]; omega) hs2 ?_)
  intro v3 w3 OW3 b4 g3
  have O3 : Aside (StkAt w3 B v3 (t1 ++ t2)) := own_stk (by simp) OW3 hB (by rw [HN1.out, HN2.out]; omega)
  have b5 : Below w.heap.size w w3 := b3.trans b4
  clear OW3 g3 O2 d2
  go_wp2
  rw [rounds_succ]
  go_wp2
  go_ret
  exact ⟨⟨_, rfl, O3⟩, b5⟩
theorem eqL_ne {xs ys : List Int} {k : Nat} (h1 : k < xs.length) (h2 : k < ys.length) (h : xs[k] ≠ ys[k]) : xs ≠ ys := by
  rintro rfl; exact h rfl
set_option maxHeartbeats 4000000 in
theorem equal_any (u1 u2 : Value) (t1 t2 : List Int) (w : World) (B : Nat) (h1 : StkAt w B u1 t1) (h2 : StkAt w B u2 t2) (hl1 : t1.length ≤ 100000) (hl2 : t2.length ≤ 100000) :
    Calls Tryd.prog 100 #[u1, u2] w fun e w' => e = .returned (.bool (decide (t1 = t2))) ∧ ∃ q, w' = w.drewN q := by
  obtain ⟨p1, k1, rfl, r1⟩ := h1
  obtain ⟨p2, k2, rfl, r2⟩ := h2
  have i1 : IntsAt w p1 t1 := StkAt.ints (n := t1.length) (c := k1) (B := B) ⟨p1, k1, rfl, r1⟩
  have i2 : IntsAt w p2 t2 := StkAt.ints (n := t2.length) (c := k2) (B := B) ⟨p2, k2, rfl, r2⟩
  clear r1 r2
  by_cases hn : t1.length = t2.length
  · obtain ⟨n, hn1⟩ : ∃ n, t1.length = n := ⟨_, rfl⟩
    have hn2 : t2.length = n := by omega
    obtain ⟨D, hD⟩ : ∃ D, decide (t1 = t2) = D := ⟨_, rfl⟩
    have HD : Hid (decide (t1 = t2) = D) := hD
    rw [hD, hn1, hn2]
    have hne : ((n : Int) != (n : Int)) = false := by simp
    have HN1 : Hid (t1.length = n) := hn1
    have HN2 : Hid (t2.length = n) := hn2
    have HI1 : Aside (IntsAt w p1 t1) := i1
    have HI2 : Aside (IntsAt w p2 t2) := i2
    have hnb : n ≤ 100000 := by omega
    clear hD hn hn1 hn2 hl1 hl2 i1 i2
    go_enter Tryd.func100, Tryd.ntmps100
    go_wp2
    go_loopg [13] n (fun g s13 wr => ∃ k q : Nat, k ≤ n ∧ n - k ≤ g ∧ s13 = .int .i64 k ∧ wr = w.drewN q ∧ Aside (t1.take k = t2.take k))
    case atStart => exact ⟨0, 0, Nat.zero_le _, by omega, rfl, rfl, (show Aside _ from rfl)⟩
    case round =>
      obtain ⟨k, q, hk, hg, rfl, rfl, HE⟩ := hrel
      by_cases hlt : k < n
      · have hltz : (k : Int) < (n : Int) := by omega
        have k0 : (0 : Int) ≤ (k : Int) := by omega
        have e1 : k < t1.length := by rw [HN1.out]; exact hlt
        have e2 : k < t2.length := by rw [HN2.out]; exact hlt
        rcases HI1.out with h | ⟨b1, o1, rfl, hb1, hc1⟩
        · exact absurd h (by omega)
        rcases HI2.out with h | ⟨b2, o2, rfl, hb2, hc2⟩
        · exact absurd h (by omega)
        have g1 := hc1 k e1
        have g2 := hc2 k e2
        have HS : Hid (t1[k] = t2[k] → t1.take (k + 1) = t2.take (k + 1)) := fun h => by rw [List.take_succ_eq_append_getElem e1, List.take_succ_eq_append_getElem e2, HE.out, h]
        have HX : Hid (t1[k] ≠ t2[k] → t1 ≠ t2) := fun h => eqL_ne e1 e2 h
        clear hc1 hc2
        generalize t1[k] = x at g1 HS HX
        generalize t2[k] = y at g2 HS HX
        by_cases hxy : x = y
        · have HT : Aside (t1.take (k + 1) = t2.take (k + 1)) := HS.out hxy
          have hb : (x != y) = false := by simpa using hxy
          clear HS HX HE hxy
          go_wp2_with fail
          go_quiet (fail)
          go_wp2
          go_roundg (n - (k + 1))
          case measure => omega
          case rel => exact ⟨k + 1, _, by omega, by omega, by go_num, rfl, HT⟩
        · have hb : (x != y) = true := by simpa using hxy
          have hD := HD.out
          rw [decide_eq_false (HX.out hxy)] at hD
          subst hD
          clear HS HX HE hxy
          go_wp2_with fail
          go_quiet (fail)
          go_wp2
          go_ret
          exact ⟨rfl, q + nq, by simp [World.drewN, Nat.add_assoc]⟩
      · have hltz : ¬ (k : Int) < (n : Int) := by omega
        have hD := HD.out
        have he : t1 = t2 := by
          have := HE.out
          rwa [List.take_of_length_le (by rw [HN1.out]; omega), List.take_of_length_le (by rw [HN2.out]; omega)] at this
        rw [decide_eq_true he] at hD
        subst hD
        clear HE he
        go_wp2
        go_ret
        exact ⟨rfl, q, rfl⟩
  · rw [decide_eq_false (fun h => hn (by rw [h]))]
    have hne : ((t1.length : Int) != (t2.length : Int)) = true := by simp; omega
    clear i1 i2
    go_enter Tryd.func100, Tryd.ntmps100
    go_wp2
    go_ret
    exact ⟨rfl, 0, rfl⟩
end Go.Proofs.YtkoejkpjkcejcabDoor
