/-
  The parts of package verify: what an instruction lays on the stack, and where it leads.
-/
import Derived.Test.YtnpinbpjfngknaaDoorVfA
namespace Go.Proofs.YtnpinbpjfngknaaDoor
open Go.RowKit
set_option linter.unusedVariables false

theorem stk_lit1 (w : World) (B g : Nat) (hg : g = w.heap.size) (t : Int) (ty : TypeId) (hB : B < w.heap.size) : StkAt (w.alloc (.cells #[.int .i64 t] ty)) B (.slice (some ⟨g, 0, none⟩) 1 1) [t] := by
  subst hg
  refine ⟨_, 1, rfl, ⟨Nat.le_refl _, by simp⟩, (fun h => nomatch h), fun a ha => ?_⟩
  injection ha with ha
  subst ha
  refine ⟨w.heap.size, 0, rfl, hB, by simp, fun j hj => ?_⟩
  obtain rfl : j = 0 := by simp at hj; omega
  rw [World.cell?_alloc_at _ _ _ _ rfl]; rfl
theorem stk_lit2 (w : World) (B g : Nat) (hg : g = w.heap.size) (t u : Int) (ty : TypeId) (hB : B < w.heap.size) : StkAt (w.alloc (.cells #[.int .i64 t, .int .i64 u] ty)) B (.slice (some ⟨g, 0, none⟩) 2 2) [t, u] := by
  subst hg
  refine ⟨_, 2, rfl, ⟨Nat.le_refl _, by simp⟩, (fun h => nomatch h), fun a ha => ?_⟩
  injection ha with ha
  subst ha
  refine ⟨w.heap.size, 0, rfl, hB, by simp, fun j hj => ?_⟩
  have : j = 0 ∨ j = 1 := by simp at hj; omega
  rcases this with rfl | rfl
  · rw [World.cell?_alloc_at _ _ _ _ rfl]; rfl
  · rw [World.cell?_alloc_at _ _ _ _ rfl]; rfl
set_option maxHeartbeats 4000000 in
theorem leads_any (i : I5) (k bh : Nat) (nc : Int) (w : World) (hk : k ≤ 1000000) (hbh : bh ≤ 1000000) (hA : argE i nc bh = 0) (B : Nat) (hB : B < w.heap.size) (L : List Nat) (hL : leadP i k = L) :
    Calls Tryd.prog 29 #[insW i, .int .i64 k] w fun e w' => (∃ v, e = .returned v ∧ Aside (StkAt w' B v (L.map fun (x : Nat) => (x : Int)))) ∧ Below w.heap.size w w' := by
  obtain ⟨a, g, t, n, s⟩ := i
  show Calls Tryd.prog _ #[Value.agg #[.int .i64 a, .int .i64 g, .int .i64 t, .int .i64 n, .string s], _] w _
  have hB2 := fun o o2 => (alB w o).trans ((alB (w.alloc o) o2).mono (by simp))
  unfold argE at hA
  unfold leadP at hL
  simp only at hA hL
  by_cases a4 : a = 4
  · subst a4
    rw [if_neg (by decide), if_neg (by decide), if_neg (by decide), if_pos (by decide)] at hA
    have hg : 0 ≤ g ∧ g ≤ (bh : Int) := Classical.byContradiction fun h => by rw [if_neg h] at hA; exact absurd hA (by decide)
    obtain ⟨m, rfl⟩ : ∃ m : Nat, g = m := ⟨g.toNat, by omega⟩
    have hm : m ≤ 1000000 := by omega
    rw [if_pos rfl, Int.toNat_natCast] at hL
    subst hL
    have hw : wrap64 ((k : Int) + (m : Int)) = (k : Int) + (m : Int) := by unfold wrap64; omega
    clear hA hg
    go_enter Tryd.func29, Tryd.ntmps29
    go_wp2
    go_ret
    exact ⟨⟨_, rfl, (show Aside _ from stk_lit1 _ B _ (by simp) _ _ (by simp; omega))⟩, hB2 _ _⟩
  have b4 : (a == 4) = false := by simpa using a4
  rw [if_neg a4] at hL
  by_cases a5 : a = 5
  · subst a5
    rw [if_neg (by decide), if_neg (by decide), if_neg (by decide), if_pos (by decide)] at hA
    have hg : 0 ≤ g ∧ g ≤ (bh : Int) := Classical.byContradiction fun h => by rw [if_neg h] at hA; exact absurd hA (by decide)
    obtain ⟨m, rfl⟩ : ∃ m : Nat, g = m := ⟨g.toNat, by omega⟩
    have hm : m ≤ 1000000 := by omega
    rw [if_pos rfl, Int.toNat_natCast] at hL
    subst hL
    have hw : wrap64 ((k : Int) + (m : Int)) = (k : Int) + (m : Int) := by unfold wrap64; omega
    clear hA hg a4 b4
    go_enter Tryd.func29, Tryd.ntmps29
    go_wp2
    go_ret
    exact ⟨⟨_, rfl, (show Aside _ from stk_lit2 _ B _ (by simp) _ _ _ (by simp; omega))⟩, hB2 _ _⟩
  have b5 : (a == 5) = false := by simpa using a5
  rw [if_neg a5] at hL
  subst hL
  clear hA a4 a5
  go_enter Tryd.func29, Tryd.ntmps29
  go_wp2
  go_ret
  exact ⟨⟨_, rfl, (show Aside _ from stk_lit1 _ B _ (by simp) _ _ (by simp; omega))⟩, hB2 _ _⟩
theorem one_at {w : World} {p : Option Addr} {x : Int} (h : IntsAt w p [x]) : ∃ b o, p = some ⟨b, o, none⟩ ∧ b < w.heap.size ∧ w.cell? ⟨b, o, none⟩ = some (.int .i64 x) := by
  rcases h with h | ⟨b, o, e, hl, h⟩
  · exact absurd h (by simp)
  · exact ⟨b, o, e, hl, h 0 (by simp)⟩
theorem cntN_le (x : List UInt8) : cntN x ≤ 3 := by
  cases h : kdFind x kdRules with
  | none => rw [cntN_none h]; omega
  | some r => rw [cntN_some h]; exact (kdCnt_ok r (kdFind_mem h).1).2
set_option maxHeartbeats 4000000 in
theorem lays_any (i : I5) (off : List Int) (p : Option Addr) (n0 c : Nat) (zs : List (ByteArray × Int)) (cb co cc : Nat) (bh : Int) (w : World) (hr : REnv w) (ho : IntsAt w p off) (hN : off.length = n0) (hneed : off.length = needN i) (hA : argE i zs.length bh = 0) (hz6 : zs.length ≤ 6) (hc : ColsIn w cb co zs) (B : Nat) (hB : B < w.heap.size) (L : List Int) (E : Int) (hL : layP i off zs = (L, E)) :
    Calls Tryd.prog 41 #[insW i, .slice p n0 c, .slice (some ⟨cb, co, none⟩) zs.length cc] w fun e w' => (∃ v, e = .returned (.tuple #[v, errV E]) ∧ Aside (StkAt w' B v L)) ∧ Below w.heap.size w w' := by
  obtain ⟨a, g, t, n, s⟩ := i
  have cO := fun W hW => opOf_any (a, g, t, n, s) W hW
  simp only [insW] at cO
  show Calls Tryd.prog _ #[Value.agg #[.int .i64 a, .int .i64 g, .int .i64 t, .int .i64 n, .string s], _, _] w _
  have hB1 := fun o => alB w o
  have hB2 := fun o o2 => (alB w o).trans ((alB (w.alloc o) o2).mono (by simp))
  unfold argE at hA
  unfold layP at hL
  simp only at hA hL
  by_cases a1 : a = 1
  · subst a1
    rw [if_pos rfl] at hL
    obtain ⟨rfl, rfl⟩ := Prod.mk.inj hL
    clear hA hL hneed ho hc cO hr
    go_enter Tryd.func41, Tryd.ntmps41
    go_wp2
    go_ret2
    exact ⟨⟨_, rfl, (show Aside _ from stk_lit1 _ B _ (by simp) _ _ (by simp; omega))⟩, hB2 _ _⟩
  have b1 : (a == 1) = false := by simpa using a1
  rw [if_neg a1] at hL hA
  by_cases a2 : a = 2
  · subst a2
    rw [if_pos rfl] at hL hA
    have hg : 0 ≤ g ∧ g < (zs.length : Int) := Classical.byContradiction fun h => by rw [if_neg h] at hA; exact absurd hA (by decide)
    obtain ⟨m, rfl⟩ : ∃ m : Nat, g = m := ⟨g.toNat, by omega⟩
    have hm : m < zs.length := by omega
    obtain ⟨rfl, rfl⟩ := Prod.mk.inj hL
    rw [Int.toNat_natCast, List.getElem?_eq_getElem hm, Option.getD_some]
    have c1 := ((hc.on (hB1 (.cells #[.int .i64 2, .int .i64 m, .int .i64 t, .int .i64 n, .string s] 37))).2 m hm).2
    have hbl := hc.1
    generalize zs[m].2 = T at c1 ⊢
    have g0 : (0 : Int) ≤ (m : Int) := hg.1
    have g1 : (m : Int) < (zs.length : Int) := hg.2
    clear hA hL hneed ho hc cO hr hg
    go_enter Tryd.func41, Tryd.ntmps41
    go_wp2
    go_ret2
    exact ⟨⟨_, rfl, (show Aside _ from stk_lit1 _ B _ (by simp) _ _ (by simp; omega))⟩, hB2 _ _⟩
  have b2 : (a == 2) = false := by simpa using a2
  rw [if_neg a2] at hL hA
  by_cases a3 : a = 3
  · subst a3
    rw [if_pos rfl] at hL hA
    obtain ⟨T, hT⟩ : ∃ T, (ruleP (opN g) off).1 = T := ⟨_, rfl⟩
    rw [hT] at hL
    obtain ⟨rfl, hE⟩ := Prod.mk.inj hL
    have hR : ruleP (opN g) off = (T, E) := Prod.ext hT hE
    have HR : Hid (ruleP (opN g) off = (T, E)) := hR
    have hn3 : n0 ≤ 3 := by rw [← hN, hneed, needN, if_pos rfl]; exact cntN_le _
    clear hA hL hneed hc hT hE hR b1 b2
    go_enter Tryd.func41, Tryd.ntmps41
    go_wp2_with fail
    refine (cO _ (hr.on (hB1 _))).mono ?_
    rintro e w1 ⟨rfl, b1⟩
    have b2 := (hB1 _).trans (b1.mono (by simp))
    clear cO
    have cR := rule_any ⟨(opN g).toArray⟩ p c n0 off w1 (hr.on b2) hN (by omega) (ho.on b2) T E HR.out
    go_wp2_with fail
    refine cR.mono ?_
    rintro e w2 ⟨rfl, b3⟩
    have b4 := b2.trans (b3.mono b2.size)
    have hs2 := b4.size
    go_wp2
    go_ret2
    exact ⟨⟨_, rfl, (show Aside _ from stk_lit1 _ B _ rfl _ _ (by omega))⟩, b4.alloc hs2 _⟩
  have b3 : (a == 3) = false := by simpa using a3
  rw [if_neg a3] at hL
  clear cO hA
  unfold needN at hneed
  simp only at hneed
  rw [if_neg a3] at hneed
  by_cases a5 : a = 5
  · subst a5
    rw [if_pos rfl] at hL
    rw [if_pos (by decide)] at hneed
    match off, hneed with
    | [x], _ =>
      obtain ⟨b, o, rfl, hbl, cx⟩ := one_at (ho.on (hB1 (.cells #[.int .i64 5, .int .i64 g, .int .i64 t, .int .i64 n, .string s] 37)))
      obtain rfl : 1 = n0 := hN
      simp only [List.headD_cons] at hL
      by_cases hx : x = 2
      · subst hx
        have hL2 : (([] : List Int), (0 : Int)) = (L, E) := by simpa using hL
        obtain ⟨rfl, rfl⟩ := Prod.mk.inj hL2
        clear hL hL2 ho hc hr
        go_enter Tryd.func41, Tryd.ntmps41
        go_wp2
        go_ret2
        exact ⟨⟨_, rfl, (show Aside _ from StkAt.nil _ _)⟩, hB1 _⟩
      · have hL2 : (([] : List Int), (8 : Int)) = (L, E) := by simpa [hx] using hL
        obtain ⟨rfl, rfl⟩ := Prod.mk.inj hL2
        have hxb : (x != 2) = true := by simpa using hx
        clear hL hL2 ho hc hr hx
        go_enter Tryd.func41, Tryd.ntmps41
        go_wp2
        go_ret2
        exact ⟨⟨_, rfl, (show Aside _ from StkAt.nil _ _)⟩, hB1 _⟩
  have b5 : (a == 5) = false := by simpa using a5
  rw [if_neg a5] at hL
  by_cases a6 : a = 6
  · subst a6
    rw [if_pos rfl] at hL
    rw [if_pos (by decide)] at hneed
    match off, hneed with
    | [x], _ =>
      obtain ⟨b, o, rfl, hbl, cx⟩ := one_at (ho.on (hB1 (.cells #[.int .i64 6, .int .i64 g, .int .i64 t, .int .i64 n, .string s] 37)))
      obtain rfl : 1 = n0 := hN
      simp only [List.headD_cons] at hL
      obtain ⟨rfl, rfl⟩ := Prod.mk.inj hL
      clear hL ho hc hr
      go_enter Tryd.func41, Tryd.ntmps41
      go_wp2
      go_region
      go_wp2
      go_ret2
      exact ⟨⟨_, rfl, (show Aside _ from stk_lit2 _ B _ (by simp) _ _ _ (by simp; omega))⟩, ((hB1 _).drew).alloc (by simp) _⟩
  have b6 : (a == 6) = false := by simpa using a6
  rw [if_neg a6] at hL
  obtain ⟨rfl, rfl⟩ := Prod.mk.inj hL
  clear hL ho hc hr hN hneed a1 a2 a3 a5 a6
  go_enter Tryd.func41, Tryd.ntmps41
  go_wp2
  go_ret2
  exact ⟨⟨_, rfl, (show Aside _ from StkAt.nil _ _)⟩, hB1 _⟩
end Go.Proofs.YtnpinbpjfngknaaDoor
