/-
  What sluicesame's Expr says of any two expressions.
-/
import Derived.Test.YtkbhmghdonomnaaGreatDoorGzAn
import Derived.Laws.StructEq
import Derived.Deep.RegionWith
import Derived.WalkSmall
namespace Go.Proofs.YtkbhmghdonomnaaGreatDoor
open Go.RowKit
set_option linter.unusedVariables false
mutual
/-- Are two the same (with At, or but for it)? -/
def sameE (b : Bool) : Ex → Ex → Bool
 | .node o n t k s p l, .node o2 n2 t2 k2 s2 p2 l2 => (o.toList == o2.toList) && ((n.toList == n2.toList) && (((t == t2) && ((k == k2) && (s.toList == s2.toList))) && ((!b || p == p2) && sameL b l l2)))
def sameL (b : Bool) : List Ex → List Ex → Bool
 | [], [] => true
 | x :: xs, y :: ys => sameE b x y && sameL b xs ys
 | _, _ => false
end
theorem sameL_len {b : Bool} : ∀ {l m : List Ex}, l.length ≠ m.length → sameL b l m = false
 | [], [], h => absurd rfl h
 | [], y :: ys, _ => by simp [sameL]
 | x :: xs, [], _ => by simp [sameL]
 | x :: xs, y :: ys, h => by
  rw [sameL, sameL_len (l := xs) (m := ys) (by simpa using h), Bool.and_false]
theorem sameL_at {b : Bool} {l m : List Ex} {k : Nat} (h : k < l.length) (h2 : k < m.length) : sameL b (l.drop k) (m.drop k) = (sameE b l[k] m[k] && sameL b (l.drop (k + 1)) (m.drop (k + 1))) := by
 rw [List.drop_eq_getElem_cons h, List.drop_eq_getElem_cons h2, sameL]
theorem sameL_end {b : Bool} {l m : List Ex} {k : Nat} (h : l.length ≤ k) (h2 : m.length ≤ k) : sameL b (l.drop k) (m.drop k) = true := by
 rw [List.drop_eq_nil_of_le h, List.drop_eq_nil_of_le h2, sameL]
theorem val_eqIn (t n t2 n2 : Int) (s s2 : ByteArray) (W : World) : (Op.equalIn 10000 23 (.agg #[.int .i64 t, .int .i64 n, .string s]) (.agg #[.int .i64 t2, .int .i64 n2, .string s2])).run Tryz.prog W = .ok ((t == t2) && ((n == n2) && (s.toList == s2.toList))) W := by
 rw [show (10000 : Nat) = 9999 + 1 from rfl, run_equalIn_agg W 9999 23 _ _ (by kernel_rfl) (by kernel_rfl)]
 simp only [Program.fieldsOf, Tryz.underlying23]
 go_simp
 by_cases h1 : t = t2 <;> by_cases h2 : n = n2 <;> by_cases h3 : s.toList = s2.toList <;> simp [h1, h2, h3]
theorem val_neq (t n t2 n2 : Int) (s s2 : ByteArray) (W : World) : Sem.run Tryz.prog (binOp .neq 23 (.agg #[.int .i64 t, .int .i64 n, .string s]) (.agg #[.int .i64 t2, .int .i64 n2, .string s2])) W = .ok (.bool !((t == t2) && ((n == n2) && (s.toList == s2.toList)))) W := by
 rw [run_neq_struct, val_eqIn]; rfl
theorem box2 {w wr : World} {ca cb : Array Value} (h : Below (w.heap.size + 2) ((w.alloc (.cells ca 26)).alloc (.cells cb 26)) wr) : (∀ i : Nat, wr.cell? ⟨w.heap.size, i, none⟩ = ca[i]?) ∧ (∀ i : Nat, wr.cell? ⟨w.heap.size + 1, i, none⟩ = cb[i]?) ∧ w.heap.size + 2 ≤ wr.heap.size ∧ Below w.heap.size w wr := by
 have hz := h.size
 simp at hz
 refine ⟨fun i => ?_, fun i => ?_, by omega, (((Below.refl _ _).alloc (Nat.le_refl _) _).alloc (by simp) _).trans (h.mono (by omega))⟩
 ·rw [h.cell (p := ⟨w.heap.size, i, none⟩) (by simp), World.cell?_alloc_lt _ _ _ (by simp), World.cell?_alloc_at _ _ _ _ rfl]
 ·rw [h.cell (p := ⟨w.heap.size + 1, i, none⟩) (by simp), World.cell?_alloc_at _ _ _ _ (by simp)]
set_option maxHeartbeats 8000000 in
set_option maxRecDepth 20000 in
theorem sameX_any (b : Bool) : ∀ (x y : Ex) (lo lo2 : Nat → Prop) (va vb : Value) (w : World), ExIn w lo va x → ExIn w lo2 vb y →
  Calls Tryz.prog 22 #[va, vb, .bool b] w fun e w' => e = .returned (.bool (sameE b x y)) ∧ Below w.heap.size w w' := by
 refine Ex.ind fun o n t k s p l ih y lo lo2 va vb w hx hy => ?_
 obtain ⟨o2, n2, t2, k2, s2, p2, m⟩ := y
 rw [ExIn] at hx hy
 obtain ⟨pa, ca, rfl, ⟨hma, _⟩, _, _, _, hx⟩ := hx
 obtain ⟨pb, cb, rfl, ⟨hmb, _⟩, _, _, _, hy⟩ := hy
 unfold maxLen at hma hmb
 obtain ⟨E, hE⟩ : ∃ E, sameE b (.node o n t k s p l) (.node o2 n2 t2 k2 s2 p2 m) = E := ⟨_, rfl⟩
 rw [hE]
 rw [sameE] at hE
 have HE : Hid (((o.toList == o2.toList) && ((n.toList == n2.toList) && (((t == t2) && ((k == k2) && (s.toList == s2.toList))) && ((!b || p == p2) && sameL b l m)))) = E) := hE
 have HI : Hid (∀ z ∈ l, ∀ (y : Ex) (lo lo2 : Nat → Prop) (va vb : Value) (w : World), ExIn w lo va z → ExIn w lo2 vb y → Calls Tryz.prog 22 #[va, vb, .bool b] w fun e w' => e = .returned (.bool (sameE b z y)) ∧ Below w.heap.size w w') := ih
 clear hE ih
 have hv := val_neq t k t2 k2 s s2
 have B0 : Below w.heap.size w ((w.alloc (.cells #[.string o, .string n, .int .i64 t, .int .i64 k, .string s, .slice pa l.length ca, .int .i64 p] 26)).alloc (.cells #[.string o2, .string n2, .int .i64 t2, .int .i64 k2, .string s2, .slice pb m.length cb, .int .i64 p2] 26)) := ((Below.refl _ _).alloc (Nat.le_refl _) _).alloc (by simp) _
 cases h1 : o.toList == o2.toList
 ·have h1' : (o.toList != o2.toList) = true := by simp [bne, h1]
  have hF : E = false := by rw [← HE.out, h1]; rfl
  subst hF
  clear HE HI hv hx hy
  go_enter Tryz.func22, Tryz.ntmps22
  go_wp2
  go_ret
  exact ⟨rfl, B0⟩
 ·have h1' : (o.toList != o2.toList) = false := by simp [bne, h1]
  cases h2 : n.toList == n2.toList
  ·have h2' : (n.toList != n2.toList) = true := by simp [bne, h2]
   have hF : E = false := by rw [← HE.out, h1, h2]; rfl
   subst hF
   clear HE HI hv hx hy
   go_enter Tryz.func22, Tryz.ntmps22
   go_wp2
   go_ret
   exact ⟨rfl, B0⟩
  ·have h2' : (n.toList != n2.toList) = false := by simp [bne, h2]
   cases h3 : ((t == t2) && ((k == k2) && (s.toList == s2.toList)))
   ·rw [h3] at hv
    have hF : E = false := by rw [← HE.out, h1, h2, h3]; rfl
    subst hF
    clear HE HI hx hy h3
    go_enter Tryz.func22, Tryz.ntmps22
    go_wp2
    go_ret
    exact ⟨rfl, B0⟩
   ·rw [h3] at hv
    cases h4 : (!b || p == p2)
    ·have hb : b = true := by cases b <;> simp at h4 ⊢
     subst hb
     have hpp : (p != p2) = true := by simpa [bne] using h4
     have hF : E = false := by rw [← HE.out, h1, h2, h3, h4]; rfl
     subst hF
     clear HE HI hx hy h3 h4
     go_enter Tryz.func22, Tryz.ntmps22
     go_wp2
     go_ret
     exact ⟨rfl, B0⟩
    ·have HP : Hid (b = false ∨ (b = true ∧ (p != p2) = false)) := by
      cases b
      ·exact .inl rfl
      ·exact .inr ⟨rfl, by simpa [bne] using h4⟩
     by_cases h5 : l.length = m.length
     ·have h5' : ((l.length : Int) != (m.length : Int)) = false := by simp; omega
      have HE2 : Hid (sameL b l m = E) := by
       show _ = _
       rw [← HE.out, h1, h2, h3, h4]; rfl
      have hle1 : l.length ≤ m.length := by omega
      have hle2 : m.length ≤ l.length := by omega
      clear HE h3 h4 h5
      rcases HP.out with rfl | ⟨rfl, hpp⟩
      ·clear HP
       go_enter Tryz.func22, Tryz.ntmps22
       go_wp2
       go_loopg [7, 8] l.length (fun gg s7 _ wr => ∃ kk : Nat, kk ≤ l.length ∧ l.length - kk ≤ gg ∧ s7 = .int .i64 kk ∧ Aside (Below (w.heap.size + 2) ((w.alloc (.cells #[.string o, .string n, .int .i64 t, .int .i64 k, .string s, .slice pa l.length ca, .int .i64 p] 26)).alloc (.cells #[.string o2, .string n2, .int .i64 t2, .int .i64 k2, .string s2, .slice pb m.length cb, .int .i64 p2] 26)) wr) ∧ Hid (sameL false (l.drop kk) (m.drop kk) = E))
       case atStart => exact ⟨0, Nat.zero_le _, by omega, rfl, (show Aside _ from Below.refl _ _), by rw [List.drop_zero, List.drop_zero]; exact HE2⟩
       case round =>
        obtain ⟨kk, hkk, hg, rfl, BW, HS⟩ := hrel
        obtain ⟨qa, qb, qz, hb⟩ := box2 BW.out
        have qa5 := qa 5
        have qb5 := qb 5
        simp at qa5 qb5
        clear qa qb
        by_cases hlt : kk < l.length
        ·have hltz : (kk : Int) < (l.length : Int) := by omega
         have hltm : (kk : Int) < (m.length : Int) := by omega
         have k0 : (0 : Int) ≤ (kk : Int) := by omega
         rcases hx with h0 | ⟨xb, xo, rfl, hxl, _, hx⟩
         ·exact absurd h0 (by omega)
         rcases hy with h0 | ⟨yb, yo, rfl, hyl, _, hy⟩
         ·exact absurd h0 (by omega)
         obtain ⟨v0, v1, v2, v3, v4, v5, v6, e0, e1, e2, e3, e4, e5, e6, hxk⟩ := exsIn_at w lo xb l xo hx kk hlt
         obtain ⟨u0, u1, u2, u3, u4, u5, u6, f0, f1, f2, f3, f4, f5, f6, hyk⟩ := exsIn_at w lo2 yb m yo hy kk (by omega)
         have keyx : ∀ o : Nat, wr.cell? ⟨xb, o, none⟩ = w.cell? ⟨xb, o, none⟩ := fun o => hb.cell (p := ⟨xb, o, none⟩) hxl
         have keyy : ∀ o : Nat, wr.cell? ⟨yb, o, none⟩ = w.cell? ⟨yb, o, none⟩ := fun o => hb.cell (p := ⟨yb, o, none⟩) hyl
         rw [← keyx] at e0 e1 e2 e3 e4 e5 e6
         rw [← keyy] at f0 f1 f2 f3 f4 f5 f6
         have hxr : xb < wr.heap.size := by omega
         have hyr : yb < wr.heap.size := by omega
         have cI := fun q => HI.out _ (List.getElem_mem hlt) (m[kk]'(by omega)) lo lo2 _ _ (wr.drewN q) (hxk.on (below_drewN hb q)) (hyk.on (below_drewN hb q))
         have HS2 : Hid ((sameE false l[kk] (m[kk]'(by omega)) && sameL false (l.drop (kk + 1)) (m.drop (kk + 1))) = E) := by
          show _ = _
          rw [← HS.out, sameL_at hlt (by omega)]
         generalize sameE false l[kk] (m[kk]'(by omega)) = R at cI HS2
         clear keyx keyy hx hy hxk hyk HS
         go_wp2
         go_region_with (go_at_call 22; refine (cI _).mono ?_; rintro e w' ⟨rfl, b2⟩)
         all_goals
          have B2 := (below_drewN BW.out _).trans (b2.mono qz)
          cases R
          ·have hF : E = false := by rw [← HS2.out]; rfl
           subst hF
           go_wp2
           go_ret
           exact ⟨rfl, (box2 B2).2.2.2⟩
          ·have HS3 : Hid (sameL false (l.drop (kk + 1)) (m.drop (kk + 1)) = E) := by
            show _ = _
            rw [← HS2.out]; rfl
           go_wp2
           go_roundg (l.length - (kk + 1))
           case measure => omega
           case rel => exact ⟨kk + 1, by omega, by omega, by go_num, B2, HS3⟩
        ·have hltz : ¬ (kk : Int) < (l.length : Int) := by omega
         have hF : E = true := by rw [← HS.out, sameL_end (by omega) (by omega)]
         subst hF
         clear HS
         go_wp2
         go_ret
         exact ⟨rfl, hb⟩
      ·clear HP
       go_enter Tryz.func22, Tryz.ntmps22
       go_wp2
       go_loopg [7, 8] l.length (fun gg s7 _ wr => ∃ kk : Nat, kk ≤ l.length ∧ l.length - kk ≤ gg ∧ s7 = .int .i64 kk ∧ Aside (Below (w.heap.size + 2) ((w.alloc (.cells #[.string o, .string n, .int .i64 t, .int .i64 k, .string s, .slice pa l.length ca, .int .i64 p] 26)).alloc (.cells #[.string o2, .string n2, .int .i64 t2, .int .i64 k2, .string s2, .slice pb m.length cb, .int .i64 p2] 26)) wr) ∧ Hid (sameL true (l.drop kk) (m.drop kk) = E))
       case atStart => exact ⟨0, Nat.zero_le _, by omega, rfl, (show Aside _ from Below.refl _ _), by rw [List.drop_zero, List.drop_zero]; exact HE2⟩
       case round =>
        obtain ⟨kk, hkk, hg, rfl, BW, HS⟩ := hrel
        obtain ⟨qa, qb, qz, hb⟩ := box2 BW.out
        have qa5 := qa 5
        have qb5 := qb 5
        simp at qa5 qb5
        clear qa qb
        by_cases hlt : kk < l.length
        ·have hltz : (kk : Int) < (l.length : Int) := by omega
         have hltm : (kk : Int) < (m.length : Int) := by omega
         have k0 : (0 : Int) ≤ (kk : Int) := by omega
         rcases hx with h0 | ⟨xb, xo, rfl, hxl, _, hx⟩
         ·exact absurd h0 (by omega)
         rcases hy with h0 | ⟨yb, yo, rfl, hyl, _, hy⟩
         ·exact absurd h0 (by omega)
         obtain ⟨v0, v1, v2, v3, v4, v5, v6, e0, e1, e2, e3, e4, e5, e6, hxk⟩ := exsIn_at w lo xb l xo hx kk hlt
         obtain ⟨u0, u1, u2, u3, u4, u5, u6, f0, f1, f2, f3, f4, f5, f6, hyk⟩ := exsIn_at w lo2 yb m yo hy kk (by omega)
         have keyx : ∀ o : Nat, wr.cell? ⟨xb, o, none⟩ = w.cell? ⟨xb, o, none⟩ := fun o => hb.cell (p := ⟨xb, o, none⟩) hxl
         have keyy : ∀ o : Nat, wr.cell? ⟨yb, o, none⟩ = w.cell? ⟨yb, o, none⟩ := fun o => hb.cell (p := ⟨yb, o, none⟩) hyl
         rw [← keyx] at e0 e1 e2 e3 e4 e5 e6
         rw [← keyy] at f0 f1 f2 f3 f4 f5 f6
         have hxr : xb < wr.heap.size := by omega
         have hyr : yb < wr.heap.size := by omega
         have cI := fun q => HI.out _ (List.getElem_mem hlt) (m[kk]'(by omega)) lo lo2 _ _ (wr.drewN q) (hxk.on (below_drewN hb q)) (hyk.on (below_drewN hb q))
         have HS2 : Hid ((sameE true l[kk] (m[kk]'(by omega)) && sameL true (l.drop (kk + 1)) (m.drop (kk + 1))) = E) := by
          show _ = _
          rw [← HS.out, sameL_at hlt (by omega)]
         generalize sameE true l[kk] (m[kk]'(by omega)) = R at cI HS2
         clear keyx keyy hx hy hxk hyk HS
         go_wp2
         go_region_with (go_at_call 22; refine (cI _).mono ?_; rintro e w' ⟨rfl, b2⟩)
         all_goals
          have B2 := (below_drewN BW.out _).trans (b2.mono qz)
          cases R
          ·have hF : E = false := by rw [← HS2.out]; rfl
           subst hF
           go_wp2
           go_ret
           exact ⟨rfl, (box2 B2).2.2.2⟩
          ·have HS3 : Hid (sameL true (l.drop (kk + 1)) (m.drop (kk + 1)) = E) := by
            show _ = _
            rw [← HS2.out]; rfl
           go_wp2
           go_roundg (l.length - (kk + 1))
           case measure => omega
           case rel => exact ⟨kk + 1, by omega, by omega, by go_num, B2, HS3⟩
        ·have hltz : ¬ (kk : Int) < (l.length : Int) := by omega
         have hF : E = true := by rw [← HS.out, sameL_end (by omega) (by omega)]
         subst hF
         clear HS
         go_wp2
         go_ret
         exact ⟨rfl, hb⟩
     ·have h5' : ((l.length : Int) != (m.length : Int)) = true := by simp; omega
      have hF : E = false := by rw [← HE.out, h1, h2, h3, h4, sameL_len h5]; rfl
      subst hF
      clear HE HI hx hy h3 h4
      rcases HP.out with rfl | ⟨rfl, hpp⟩
      ·go_enter Tryz.func22, Tryz.ntmps22
       go_wp2
       go_ret
       exact ⟨rfl, B0⟩
      ·go_enter Tryz.func22, Tryz.ntmps22
       go_wp2
       go_ret
       exact ⟨rfl, B0⟩
end Go.Proofs.YtkbhmghdonomnaaGreatDoor
