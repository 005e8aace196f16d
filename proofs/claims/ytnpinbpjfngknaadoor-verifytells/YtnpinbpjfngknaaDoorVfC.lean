/-
  slices.Grow, Concat and Equal at lists of types; what lies on the stack behind an instruction (package verify).
-/
import Derived.Test.YtnpinbpjfngknaaDoorVfB
import Derived.Laws.AppendOwnNone
import Derived.Lib.AppendZerosOnto
import Derived.BigQuiet
import Derived.Deep.QuietTactic
namespace Go.Proofs.YtnpinbpjfngknaaDoor
open Go.RowKit
set_option linter.unusedVariables false

theorem info_intV : (Tryd.prog.info? 3).map (fun i => (i.zero, i.size, i.bytes)) = some (some (.int .i64 0), 1, 8) := by kernel_rfl
def intC (ts : List Int) : List Value := ts.map fun t => .int .i64 t
theorem own_stk {W : World} {B B' : Nat} {v : Value} {n : Nat} {ts : List Int} (hn : ts.length = n) (h : W.ownsRow B' 3 1 v n (intC ts)) (hB : B < B') (h64 : n ≤ 64) : StkAt W B v ts := by
  subst hn
  rcases h.2 with ⟨rfl, e1⟩ | ⟨g, cap, cur, rfl, hb, hg, hm, hx, hs, ht⟩
  · have : ts = [] := List.length_eq_zero_iff.1 e1
    subst this
    exact StkAt.nil _ _
  · refine ⟨_, cap, rfl, ⟨hm, h64⟩, (fun h => nomatch h), fun a ha => ?_⟩
    injection ha with ha
    subst ha
    refine ⟨g, 0, rfl, by omega, (Array.getElem?_eq_some_iff.1 hg).1, fun j hj => ?_⟩
    have h1 := h.cells (g := g) rfl j (.int .i64 ts[j]) (by rw [intC, List.getElem?_map, List.getElem?_eq_getElem hj]; rfl)
    rw [Go.WideShapes.add_plain] at h1
    simpa using h1
theorem grow_zero (w : World) :
    Calls Tryd.prog 59 #[.slice none 0 0, .int .i64 0] w fun e w' => e = .returned (.slice none 0 0) ∧ w' = w := by
  go_enter Tryd.func59, Tryd.ntmps59
  go_wp2
  go_ret
  exact ⟨rfl, rfl⟩
set_option maxHeartbeats 2000000 in
theorem grow_some (n : Nat) (w : World) (h0 : 0 < n) (hn : n ≤ 1000) :
    Calls Tryd.prog 59 #[.slice none 0 0, .int .i64 n] w fun e w' => (∃ v, e = .returned v ∧ Aside (w'.ownsRow w.heap.size 3 1 v 0 [])) ∧ Below w.heap.size w w' := by
  obtain ⟨i0, hi, hz0, hz1, hzz⟩ := info_parts info_intV
  have hold : (Builtin.firstCells i0.size 0 (.slice none 0 0)).run Tryd.prog w.drew = .ok #[] w.drew := run_firstCells_none w.drew i0.size 0 0 0
  have hrz := fun ty => Lib.run_append_grow_zeros w 40 3 ty 3 i0 (.int .i64 0) .i64 .i64 Tryd.underlying40 Tryd.underlying3 hi hz0 none 0 0 [] hold n (by omega) (by omega) (by omega) (by omega) (by rw [hzz]; omega) (by rw [Nat.zero_add]; exact growslice_fits h0 (by rw [hzz]; omega))
  rw [Nat.zero_add] at hrz
  have hG0 := grownCap_ge w n 0 3
  have hGm := grownCap_le_maxLen w n 0 3 (by unfold maxLen; omega)
  generalize grownCap w n 0 3 = G at hrz hG0 hGm
  have hG2 := hGm
  unfold maxLen at hG2
  have hOw := World.ownsRow_made (base := w.heap.size) (e := 3) (size := 1) w.drew (#[] ++ Builtin.zeroCells (Value.int .i64 0).cells n ++ Builtin.zeroCells (Value.int .i64 0).cells (G - n)) G (Nat.le_refl _) hGm (by simp [size_zeroCells, Value.cells]; omega)
  have hBe : Below w.heap.size w (w.drew.alloc (.cells (#[] ++ Builtin.zeroCells (Value.int .i64 0).cells n ++ Builtin.zeroCells (Value.int .i64 0).cells (G - n)) 3)) := ((Below.refl _ w).drew).alloc (Nat.le_refl _) _
  generalize #[] ++ Builtin.zeroCells (Value.int .i64 0).cells n ++ Builtin.zeroCells (Value.int .i64 0).cells (G - n) = CC at hrz hOw hBe
  have z1 : ¬ ((n : Int) < 0) := by omega
  have z2 : (0 : Int) < (n : Int) := by omega
  have HO : Aside ((w.drew.alloc (.cells CC 3)).ownsRow w.heap.size 3 1 (.slice (some ⟨w.heap.size, 0, none⟩) 0 G) 0 []) := hOw
  clear hold hi hz0 hz1 hzz hOw
  go_enter Tryd.func59, Tryd.ntmps59
  go_wp2_with (at_builtin; refine Lib.wpList_append_run _ rfl _ _ _ _ rfl _ _ rfl rfl _ _ (hrz _) ?_)
  go_ret
  exact ⟨⟨_, rfl, HO⟩, hBe⟩
/-- append of a list of types, which may lie nowhere, to one's own. -/
theorem wpList_append_stk {w : World} {ops : Array Oper} {rest : List Oper} {o : Oper} {a : Act} {Q : Exit → Act → World → Prop} (hgd : o.guard = none) (s x : Operand)
    (ho : o.op = .call { callee := .builtin .append, args := #[s, x], argTypes := #[40, 40] })
    (base B : Nat) (v : Value) (n : Nat) (xs : List Int) (hs : a.eval s = v) (hown : w.ownsRow base 3 1 v n (intC xs))
    (u : Value) (ts : List Int) (hx : a.eval x = u) (hst : StkAt w B u ts) (hsm : n + ts.length ≤ 1000) (hbase : base ≤ w.heap.size)
    (h : ∀ v' w', w'.ownsRow base 3 1 v' (n + ts.length) (intC (xs ++ ts)) → Below base w w' → w.grownBy w' v.ownBlock → wpList Tryd.prog ops Q rest (a.put o.dst v') w') : wpList Tryd.prog ops Q (o :: rest) a w := by
  obtain ⟨i0, hi, hz0, hz1, hzz⟩ := info_parts info_intV
  obtain ⟨p, c, rfl, h1, h2, h3⟩ := hst
  cases p with
  | none =>
    have hc := h2 rfl
    subst hc
    have hl : ts.length = 0 := by omega
    have : ts = [] := List.length_eq_zero_iff.1 hl
    subst this
    refine wpList_append_own_none hgd s x 40 ho base 3 i0 1 Tryd.underlying40 hi v n (intC xs) hs hown hx (h v w ?_ (Below.refl _ _) ?_)
    · simpa using hown
    · exact ⟨rfl, rfl, rfl, Nat.le_refl _, fun _ _ _ => rfl⟩
  | some ad =>
    obtain ⟨g, off, rfl, h4, h5, h6⟩ := h3 ad rfl
    refine wpList_append_own w hgd s x 40 ho base 3 i0 (.int .i64 0) 1 8 Tryd.underlying40 hi hz0 hz1 hzz rfl (by decide) v n (intC xs) hs hown ⟨g, off, none⟩ ts.length c (intC ts) hx (by simp [intC]) (fun j y hy => ?_) (fun y hy => ?_) (by unfold maxLen; omega) (by omega) hbase (fun v' w' o1 o2 _ => ?_)
    · rw [intC, List.getElem?_map] at hy
      obtain ⟨t, ht, rfl⟩ := Option.map_eq_some_iff.1 hy
      obtain ⟨hj, rfl⟩ := List.getElem?_eq_some_iff.1 ht
      rw [Go.WideShapes.add_plain]
      exact h6 j hj
    · rw [intC, List.mem_map] at hy
      obtain ⟨t, _, rfl⟩ := hy
      rfl
    · refine h v' w' ?_ ((Below.refl _ w).grown o2 hbase (fun j hj => (hown.lt j hj).1)) o2
      rw [intC, List.map_append]; exact o1
end Go.Proofs.YtnpinbpjfngknaaDoor
