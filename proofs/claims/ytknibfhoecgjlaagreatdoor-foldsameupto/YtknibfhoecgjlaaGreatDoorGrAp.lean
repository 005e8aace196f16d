/-
  TreeSm, TreeSa, TreeSame, TreeSi, in one text.
-/
import Derived.Test.YtknibfhoecgjlaaGreatDoorGrAl
import Derived.Laws.StructEq
import Derived.Deep.RegionWith
import Derived.WalkSmall
import Derived.Test.YtknibfhoecgjlaaGreatDoorGrAg
namespace Go.Proofs.YtknibfhoecgjlaaGreatDoor
open Go.RowKit
set_option linter.unusedVariables false

mutual
/-- Are two the same (with At, or but for it)? -/
def sameE (b : Bool) : Ex → Ex → Bool
  | .node o n t k s p l, .node o2 n2 t2 k2 s2 p2 l2 => (o.toList == o2.toList) && ((n.toList == n2.toList) && (((t == t2) && ((k == k2) && (s.toList == s2.toList))) && ((!b || p == p2) && sameL b l l2)))
def sameL (b : Bool) : List Ex → List Ex → Bool
  | [], [] => true
  | x :: xs, y :: ys => sameE b x y && sameL b xs ys
  | _, _ => false
end
theorem sameL_len {b : Bool} : ∀ {l m : List Ex}, l.length ≠ m.length → sameL b l m = false
  | [], [], h => absurd rfl h
  | [], y :: ys, _ => by simp [sameL]
  | x :: xs, [], _ => by simp [sameL]
  | x :: xs, y :: ys, h => by
    rw [sameL, sameL_len (l := xs) (m := ys) (by simpa using h), Bool.and_false]
theorem sameL_at {b : Bool} {l m : List Ex} {k : Nat} (h : k < l.length) (h2 : k < m.length) : sameL b (l.drop k) (m.drop k) = (sameE b l[k] m[k] && sameL b (l.drop (k + 1)) (m.drop (k + 1))) := by
  rw [List.drop_eq_getElem_cons h, List.drop_eq_getElem_cons h2, sameL]
theorem sameL_end {b : Bool} {l m : List Ex} {k : Nat} (h : l.length ≤ k) (h2 : m.length ≤ k) : sameL b (l.drop k) (m.drop k) = true := by
  rw [List.drop_eq_nil_of_le h, List.drop_eq_nil_of_le h2, sameL]
theorem val_eqIn (t n t2 n2 : Int) (s s2 : ByteArray) (W : World) : (Op.equalIn 10000 23 (.agg #[.int .i64 t, .int .i64 n, .string s]) (.agg #[.int .i64 t2, .int .i64 n2, .string s2])).run Tryz.prog W = .ok ((t == t2) && ((n == n2) && (s.toList == s2.toList))) W := by
  rw [show (10000 : Nat) = 9999 + 1 from rfl, run_equalIn_agg W 9999 23 _ _ (by kernel_rfl) (by kernel_rfl)]
  simp only [Program.fieldsOf, Tryz.underlying23]
  go_simp
  by_cases h1 : t = t2 <;> by_cases h2 : n = n2 <;> by_cases h3 : s.toList = s2.toList <;> simp [h1, h2, h3]
theorem val_neq (t n t2 n2 : Int) (s s2 : ByteArray) (W : World) : Sem.run Tryz.prog (binOp .neq 23 (.agg #[.int .i64 t, .int .i64 n, .string s]) (.agg #[.int .i64 t2, .int .i64 n2, .string s2])) W = .ok (.bool !((t == t2) && ((n == n2) && (s.toList == s2.toList)))) W := by
  rw [run_neq_struct, val_eqIn]; rfl
theorem box2 {w wr : World} {ca cb : Array Value} (h : Below (w.heap.size + 2) ((w.alloc (.cells ca 26)).alloc (.cells cb 26)) wr) : (∀ i : Nat, wr.cell? ⟨w.heap.size, i, none⟩ = ca[i]?) ∧ (∀ i : Nat, wr.cell? ⟨w.heap.size + 1, i, none⟩ = cb[i]?) ∧ w.heap.size + 2 ≤ wr.heap.size ∧ Below w.heap.size w wr := by
  have hz := h.size
  simp at hz
  refine ⟨fun i => ?_, fun i => ?_, by omega, (((Below.refl _ _).alloc (Nat.le_refl _) _).alloc (by simp) _).trans (h.mono (by omega))⟩
  · rw [h.cell (p := ⟨w.heap.size, i, none⟩) (by simp), World.cell?_alloc_lt _ _ _ (by simp), World.cell?_alloc_at _ _ _ _ rfl]
  · rw [h.cell (p := ⟨w.heap.size + 1, i, none⟩) (by simp), World.cell?_alloc_at _ _ _ _ (by simp)]
set_option maxHeartbeats 8000000 in
set_option maxRecDepth 20000 in
theorem sameX_any (b : Bool) : ∀ (x y : Ex) (lo lo2 : Nat → Prop) (va vb : Value) (w : World), ExIn w lo va x → ExIn w lo2 vb y →
    Calls Tryz.prog 9 #[va, vb, .bool b] w fun e w' => e = .returned (.bool (sameE b x y)) ∧ Below w.heap.size w w' := by
  refine Ex.ind fun o n t k s p l ih y lo lo2 va vb w hx hy => ?_
  obtain ⟨o2, n2, t2, k2, s2, p2, m⟩ := y
  rw [ExIn] at hx hy
  obtain ⟨pa, ca, rfl, ⟨hma, _⟩, _, _, _, hx⟩ := hx
  obtain ⟨pb, cb, rfl, ⟨hmb, _⟩, _, _, _, hy⟩ := hy
  unfold maxLen at hma hmb
  obtain ⟨E, hE⟩ : ∃ E, sameE b (.node o n t k s p l) (.node o2 n2 t2 k2 s2 p2 m) = E := ⟨_, rfl⟩
  rw [hE]
  rw [sameE] at hE
  have HE : Hid (((o.toList == o2.toList) && ((n.toList == n2.toList) && (((t == t2) && ((k == k2) && (s.toList == s2.toList))) && ((!b || p == p2) && sameL b l m)))) = E) := hE
  have HI : Hid (∀ z ∈ l, ∀ (y : Ex) (lo lo2 : Nat → Prop) (va vb : Value) (w : World), ExIn w lo va z → ExIn w lo2 vb y → Calls Tryz.prog 9 #[va, vb, .bool b] w fun e w' => e = .returned (.bool (sameE b z y)) ∧ Below w.heap.size w w') := ih
  clear hE ih
  have hv := val_neq t k t2 k2 s s2
  have B0 : Below w.heap.size w ((w.alloc (.cells #[.string o, .string n, .int .i64 t, .int .i64 k, .string s, .slice pa l.length ca, .int .i64 p] 26)).alloc (.cells #[.string o2, .string n2, .int .i64 t2, .int .i64 k2, .string s2, .slice pb m.length cb, .int .i64 p2] 26)) := ((Below.refl _ _).alloc (Nat.le_refl _) _).alloc (by simp) _
  cases h1 : o.toList == o2.toList
  · have h1' : (o.toList != o2.toList) = true := by simp [bne, h1]
    have hF : E = false := by rw [← HE.out, h1]; rfl
    subst hF
    clear HE HI hv hx hy
    go_enter Tryz.func9, Tryz.ntmps9
    go_wp2
    go_ret
    exact ⟨rfl, B0⟩
  · have h1' : (o.toList != o2.toList) = false := by simp [bne, h1]
    cases h2 : n.toList == n2.toList
    · have h2' : (n.toList != n2.toList) = true := by simp [bne, h2]
      have hF : E = false := by rw [← HE.out, h1, h2]; rfl
      subst hF
      clear HE HI hv hx hy
      go_enter Tryz.func9, Tryz.ntmps9
      go_wp2
      go_ret
      exact ⟨rfl, B0⟩
    · have h2' : (n.toList != n2.toList) = false := by simp [bne, h2]
      cases h3 : ((t == t2) && ((k == k2) && (s.toList == s2.toList)))
      · rw [h3] at hv
        have hF : E = false := by rw [← HE.out, h1, h2, h3]; rfl
        subst hF
        clear HE HI hx hy h3
        go_enter Tryz.func9, Tryz.ntmps9
        go_wp2
        go_ret
        exact ⟨rfl, B0⟩
      · rw [h3] at hv
        cases h4 : (!b || p == p2)
        · have hb : b = true := by cases b <;> simp at h4 ⊢
          subst hb
          have hpp : (p != p2) = true := by simpa [bne] using h4
          have hF : E = false := by rw [← HE.out, h1, h2, h3, h4]; rfl
          subst hF
          clear HE HI hx hy h3 h4
          go_enter Tryz.func9, Tryz.ntmps9
          go_wp2
          go_ret
          exact ⟨rfl, B0⟩
        · have HP : Hid (b = false ∨ (b = true ∧ (p != p2) = false)) := by
            cases b
            · exact .inl rfl
            · exact .inr ⟨rfl, by simpa [bne] using h4⟩
          by_cases h5 : l.length = m.length
          · have h5' : ((l.length : Int) != (m.length : Int)) = false := by simp; omega
            have HE2 : Hid (sameL b l m = E) := by
              show _ = _
              rw [← HE.out, h1, h2, h3, h4]; rfl
            have hle1 : l.length ≤ m.length := by omega
            have hle2 : m.length ≤ l.length := by omega
            clear HE h3 h4 h5
            rcases HP.out with rfl | ⟨rfl, hpp⟩
            · clear HP
              go_enter Tryz.func9, Tryz.ntmps9
              go_wp2
              go_loopg [7, 8] l.length (fun gg s7 _ wr => ∃ kk : Nat, kk ≤ l.length ∧ l.length - kk ≤ gg ∧ s7 = .int .i64 kk ∧ Aside (Below (w.heap.size + 2) ((w.alloc (.cells #[.string o, .string n, .int .i64 t, .int .i64 k, .string s, .slice pa l.length ca, .int .i64 p] 26)).alloc (.cells #[.string o2, .string n2, .int .i64 t2, .int .i64 k2, .string s2, .slice pb m.length cb, .int .i64 p2] 26)) wr) ∧ Hid (sameL false (l.drop kk) (m.drop kk) = E))
              case atStart => exact ⟨0, Nat.zero_le _, by omega, rfl, (show Aside _ from Below.refl _ _), by rw [List.drop_zero, List.drop_zero]; exact HE2⟩
              case round =>
                obtain ⟨kk, hkk, hg, rfl, BW, HS⟩ := hrel
                obtain ⟨qa, qb, qz, hb⟩ := box2 BW.out
                have qa5 := qa 5
                have qb5 := qb 5
                simp at qa5 qb5
                clear qa qb
                by_cases hlt : kk < l.length
                · have hltz : (kk : Int) < (l.length : Int) := by omega
                  have hltm : (kk : Int) < (m.length : Int) := by omega
                  have k0 : (0 : Int) ≤ (kk : Int) := by omega
                  rcases hx with h0 | ⟨xb, xo, rfl, hxl, _, hx⟩
                  · exact absurd h0 (by omega)
                  rcases hy with h0 | ⟨yb, yo, rfl, hyl, _, hy⟩
                  · exact absurd h0 (by omega)
                  obtain ⟨v0, v1, v2, v3, v4, v5, v6, e0, e1, e2, e3, e4, e5, e6, hxk⟩ := exsIn_at w lo xb l xo hx kk hlt
                  obtain ⟨u0, u1, u2, u3, u4, u5, u6, f0, f1, f2, f3, f4, f5, f6, hyk⟩ := exsIn_at w lo2 yb m yo hy kk (by omega)
                  have keyx : ∀ o : Nat, wr.cell? ⟨xb, o, none⟩ = w.cell? ⟨xb, o, none⟩ := fun o => hb.cell (p := ⟨xb, o, none⟩) hxl
                  have keyy : ∀ o : Nat, wr.cell? ⟨yb, o, none⟩ = w.cell? ⟨yb, o, none⟩ := fun o => hb.cell (p := ⟨yb, o, none⟩) hyl
                  rw [← keyx] at e0 e1 e2 e3 e4 e5 e6
                  rw [← keyy] at f0 f1 f2 f3 f4 f5 f6
                  have hxr : xb < wr.heap.size := by omega
                  have hyr : yb < wr.heap.size := by omega
                  have cI := fun q => HI.out _ (List.getElem_mem hlt) (m[kk]'(by omega)) lo lo2 _ _ (wr.drewN q) (hxk.on (below_drewN hb q)) (hyk.on (below_drewN hb q))
                  have HS2 : Hid ((sameE false l[kk] (m[kk]'(by omega)) && sameL false (l.drop (kk + 1)) (m.drop (kk + 1))) = E) := by
                    show _ = _
                    rw [← HS.out, sameL_at hlt (by omega)]
                  generalize sameE false l[kk] (m[kk]'(by omega)) = R at cI HS2
                  clear keyx keyy hx hy hxk hyk HS
                  go_wp2
                  go_region_with (go_at_call 9; refine (cI _).mono ?_; rintro e w' ⟨rfl, b2⟩)
                  all_goals
                    have B2 := (below_drewN BW.out _).trans (b2.mono qz)
                    cases R
                    · have hF : E = false := by rw [← HS2.out]; rfl
                      subst hF
                      go_wp2
                      go_ret
                      exact ⟨rfl, (box2 B2).2.2.2⟩
                    · have HS3 : Hid (sameL false (l.drop (kk + 1)) (m.drop (kk + 1)) = E) := by
                        show _ = _
                        rw [← HS2.out]; rfl
                      go_wp2
                      go_roundg (l.length - (kk + 1))
                      case measure => omega
                      case rel => exact ⟨kk + 1, by omega, by omega, by go_num, B2, HS3⟩
                · have hltz : ¬ (kk : Int) < (l.length : Int) := by omega
                  have hF : E = true := by rw [← HS.out, sameL_end (by omega) (by omega)]
                  subst hF
                  clear HS
                  go_wp2
                  go_ret
                  exact ⟨rfl, hb⟩
            · clear HP
              go_enter Tryz.func9, Tryz.ntmps9
              go_wp2
              go_loopg [7, 8] l.length (fun gg s7 _ wr => ∃ kk : Nat, kk ≤ l.length ∧ l.length - kk ≤ gg ∧ s7 = .int .i64 kk ∧ Aside (Below (w.heap.size + 2) ((w.alloc (.cells #[.string o, .string n, .int .i64 t, .int .i64 k, .string s, .slice pa l.length ca, .int .i64 p] 26)).alloc (.cells #[.string o2, .string n2, .int .i64 t2, .int .i64 k2, .string s2, .slice pb m.length cb, .int .i64 p2] 26)) wr) ∧ Hid (sameL true (l.drop kk) (m.drop kk) = E))
              case atStart => exact ⟨0, Nat.zero_le _, by omega, rfl, (show Aside _ from Below.refl _ _), by rw [List.drop_zero, List.drop_zero]; exact HE2⟩
              case round =>
                obtain ⟨kk, hkk, hg, rfl, BW, HS⟩ := hrel
                obtain ⟨qa, qb, qz, hb⟩ := box2 BW.out
                have qa5 := qa 5
                have qb5 := qb 5
                simp at qa5 qb5
                clear qa qb
                by_cases hlt : kk < l.length
                · have hltz : (kk : Int) < (l.length : Int) := by omega
                  have hltm : (kk : Int) < (m.length : Int) := by omega
                  have k0 : (0 : Int) ≤ (kk : Int) := by omega
                  rcases hx with h0 | ⟨xb, xo, rfl, hxl, _, hx⟩
                  · exact absurd h0 (by omega)
                  rcases hy with h0 | ⟨yb, yo, rfl, hyl, _, hy⟩
                  · exact absurd h0 (by omega)
                  obtain ⟨v0, v1, v2, v3, v4, v5, v6, e0, e1, e2, e3, e4, e5, e6, hxk⟩ := exsIn_at w lo xb l xo hx kk hlt
                  obtain ⟨u0, u1, u2, u3, u4, u5, u6, f0, f1, f2, f3, f4, f5, f6, hyk⟩ := exsIn_at w lo2 yb m yo hy kk (by omega)
                  have keyx : ∀ o : Nat, wr.cell? ⟨xb, o, none⟩ = w.cell? ⟨xb, o, none⟩ := fun o => hb.cell (p := ⟨xb, o, none⟩) hxl
                  have keyy : ∀ o : Nat, wr.cell? ⟨yb, o, none⟩ = w.cell? ⟨yb, o, none⟩ := fun o => hb.cell (p := ⟨yb, o, none⟩) hyl
                  rw [← keyx] at e0 e1 e2 e3 e4 e5 e6
                  rw [← keyy] at f0 f1 f2 f3 f4 f5 f6
                  have hxr : xb < wr.heap.size := by omega
                  have hyr : yb < wr.heap.size := by omega
                  have cI := fun q => HI.out _ (List.getElem_mem hlt) (m[kk]'(by omega)) lo lo2 _ _ (wr.drewN q) (hxk.on (below_drewN hb q)) (hyk.on (below_drewN hb q))
                  have HS2 : Hid ((sameE true l[kk] (m[kk]'(by omega)) && sameL true (l.drop (kk + 1)) (m.drop (kk + 1))) = E) := by
                    show _ = _
                    rw [← HS.out, sameL_at hlt (by omega)]
                  generalize sameE true l[kk] (m[kk]'(by omega)) = R at cI HS2
                  clear keyx keyy hx hy hxk hyk HS
                  go_wp2
                  go_region_with (go_at_call 9; refine (cI _).mono ?_; rintro e w' ⟨rfl, b2⟩)
                  all_goals
                    have B2 := (below_drewN BW.out _).trans (b2.mono qz)
                    cases R
                    · have hF : E = false := by rw [← HS2.out]; rfl
                      subst hF
                      go_wp2
                      go_ret
                      exact ⟨rfl, (box2 B2).2.2.2⟩
                    · have HS3 : Hid (sameL true (l.drop (kk + 1)) (m.drop (kk + 1)) = E) := by
                        show _ = _
                        rw [← HS2.out]; rfl
                      go_wp2
                      go_roundg (l.length - (kk + 1))
                      case measure => omega
                      case rel => exact ⟨kk + 1, by omega, by omega, by go_num, B2, HS3⟩
                · have hltz : ¬ (kk : Int) < (l.length : Int) := by omega
                  have hF : E = true := by rw [← HS.out, sameL_end (by omega) (by omega)]
                  subst hF
                  clear HS
                  go_wp2
                  go_ret
                  exact ⟨rfl, hb⟩
          · have h5' : ((l.length : Int) != (m.length : Int)) = true := by simp; omega
            have hF : E = false := by rw [← HE.out, h1, h2, h3, h4, sameL_len h5]; rfl
            subst hF
            clear HE HI hx hy h3 h4
            rcases HP.out with rfl | ⟨rfl, hpp⟩
            · go_enter Tryz.func9, Tryz.ntmps9
              go_wp2
              go_ret
              exact ⟨rfl, B0⟩
            · go_enter Tryz.func9, Tryz.ntmps9
              go_wp2
              go_ret
              exact ⟨rfl, B0⟩
end Go.Proofs.YtknibfhoecgjlaaGreatDoor
namespace Go.Proofs.YtknibfhoecgjlaaGreatDoor
open Go.RowKit Go.BigFrame
set_option linter.unusedVariables false

/-- A slice of expressions from the second on. -/
theorem tail_run {w : World} {lo : Nat → Prop} {pa : Option Addr} {ca : Nat} {y : Ex} {ys : List Ex} (h : ArgsIs w lo (.slice pa (ys.length + 1) ca) (y :: ys)) :
    ∃ pa' ca', (∀ W : World, Sem.run Tryz.prog (Instr.slice 24 (.slice pa (ys.length + 1) ca) (some (.int .i64 1)) none none) W = .ok (.slice pa' ys.length ca') W) ∧ ArgsIs w lo (.slice pa' ys.length ca') ys := by
  refine ⟨if ca = 1 then pa else pa.map (·.add (1 * 7)), ca - 1, fun W => ?_, h.tail rfl rfl⟩
  have h1 := run_slice_l (P := Tryz.prog) (w := W) 24 pa (ys.length + 1) ca (by kernel_rfl) .i64 1 (by omega) (by omega)
  rw [h1]
  have h2 : (sizeOf (Tryz.prog.elem 24)).run Tryz.prog W = .ok 7 W := by kernel_rfl
  rw [h2]
  rfl
/-- Pairs of lists that are left, and what there is still to hold against each other. -/
def allSame (st : List (List Ex × List Ex)) : Bool := st.all fun q => sameL false q.1 q.2
def pairN (st : List (List Ex × List Ex)) : Nat := st.length + 2 * (st.map fun q => Ex.sizes q.1).sum
def pairC (st : List (Value × Value)) : List Value := st.flatMap fun q => [q.1, q.2]
theorem pairC_len (st : List (Value × Value)) : (pairC st).length = st.length * 2 := by
  induction st with
  | nil => rfl
  | cons q r ih => rw [pairC, List.flatMap_cons, List.length_append, ← pairC, ih, List.length_cons]; simp; omega
theorem pairC_snoc (st : List (Value × Value)) (q : Value × Value) : pairC (st ++ [q]) = pairC st ++ [q.1, q.2] := by simp [pairC]
theorem own2_pop {W : World} {B : Nat} {e : TypeId} {g cap : Nat} {vs : List (Value × Value)} {v : Value × Value} (h : W.ownsRow B e 2 (.slice (some ⟨g, 0, none⟩) (vs.length + 1) cap) (vs.length + 1) (pairC (vs ++ [v]))) : W.ownsRow B e 2 (.slice (some ⟨g, 0, none⟩) vs.length cap) vs.length (pairC vs) := by
  refine ⟨pairC_len vs, .inr ?_⟩
  rcases h.2 with ⟨e1, _⟩ | ⟨g', cap', cur, e1, hb, hg, hn, hm, hs, ht⟩
  · injection e1 with e1; simp at e1
  · injection e1 with e1 e2 e3
    injection e1 with e1
    injection e1 with e1
    subst e1 e3
    refine ⟨_, _, cur, rfl, hb, hg, by omega, hm, hs, ?_⟩
    have h3 : List.take (vs.length * 2) cur.toList = List.take (vs.length * 2) (pairC (vs ++ [v])) := by
      rw [← ht, List.take_take]
      congr 1
      omega
    rw [h3, pairC_snoc, ← pairC_len]
    exact List.take_left
theorem own2_top {W : World} {B : Nat} {e : TypeId} {g cap : Nat} {vs : List (Value × Value)} {v : Value × Value} (h : W.ownsRow B e 2 (.slice (some ⟨g, 0, none⟩) (vs.length + 1) cap) (vs.length + 1) (pairC (vs ++ [v]))) : W.cell? ⟨g, vs.length * 2, none⟩ = some v.1 ∧ W.cell? ⟨g, vs.length * 2 + 1, none⟩ = some v.2 ∧ W.frozen? ⟨g, vs.length * 2, none⟩ = false ∧ W.frozen? ⟨g, vs.length * 2 + 1, none⟩ = false ∧ g < W.heap.size ∧ B ≤ g ∧ vs.length + 1 ≤ cap := by
  rcases h.2 with ⟨e1, _⟩ | ⟨g', cap', cur, e1, hb, hg, hn, hm, hs, ht⟩
  · injection e1 with e1; simp at e1
  · injection e1 with e1 e2 e3
    injection e1 with e1
    injection e1 with e1
    subst e1 e3
    have hl := pairC_len vs
    refine ⟨?_, ?_, by simp [World.frozen?, hg], by simp [World.frozen?, hg], (Array.getElem?_eq_some_iff.1 hg).1, hb, hn⟩
    · have h1 := h.cells (g := g) rfl (vs.length * 2) v.1 (by rw [pairC_snoc, List.getElem?_append_right (by omega), hl]; simp)
      rw [Go.WideShapes.add_plain] at h1
      simpa using h1
    · have h1 := h.cells (g := g) rfl (vs.length * 2 + 1) v.2 (by rw [pairC_snoc, List.getElem?_append_right (by omega), hl]; simp)
      rw [Go.WideShapes.add_plain] at h1
      simpa [Nat.add_assoc] using h1
theorem own2_put {W : World} {B : Nat} {e : TypeId} {g cap : Nat} {vs : List (Value × Value)} {v u : Value × Value} (h : W.ownsRow B e 2 (.slice (some ⟨g, 0, none⟩) (vs.length + 1) cap) (vs.length + 1) (pairC (vs ++ [v]))) : ((W.setCell ⟨g, vs.length * 2, none⟩ u.1).setCell ⟨g, vs.length * 2 + 1, none⟩ u.2).ownsRow B e 2 (.slice (some ⟨g, 0, none⟩) (vs.length + 1) cap) (vs.length + 1) (pairC (vs ++ [u])) := by
  refine ⟨by rw [pairC_len]; simp, .inr ?_⟩
  rcases h.2 with ⟨e1, _⟩ | ⟨g', cap', cur, e1, hb, hg, hn, hm, hs, ht⟩
  · injection e1 with e1; simp at e1
  · injection e1 with e1 e2 e3
    injection e1 with e1
    injection e1 with e1
    subst e1 e3
    have hl := pairC_len vs
    have hg1 : (W.setCell ⟨g, vs.length * 2, none⟩ u.1).heap[g]? = some (.cells (cur.setIfInBounds (vs.length * 2) u.1) e (0, 0)) := by
      rw [setCell_eq_setRow W g _ cur e (0, 0) u.1 hg]
      exact setRow_heap W g cur _ e _ hg
    refine ⟨g, cap, (cur.setIfInBounds (vs.length * 2) u.1).setIfInBounds (vs.length * 2 + 1) u.2, rfl, hb, ?_, by omega, hm, by simpa using hs, ?_⟩
    · rw [setCell_eq_setRow _ g _ _ e (0, 0) u.2 hg1]
      exact setRow_heap _ g _ _ e _ hg1
    · rw [Array.toList_setIfInBounds, Array.toList_setIfInBounds, List.take_set, List.take_set, ht, pairC_snoc, pairC_snoc, ← hl, List.set_append_right _ _ (Nat.le_refl _), List.set_append_right _ _ (by omega)]
      simp
/-- Slices of expressions, a pair to each pair of lists. -/
def StkP (w : World) (lo : Nat → Prop) : List (Value × Value) → List (List Ex × List Ex) → Prop
  | [], [] => True
  | v :: vs, q :: st => (ArgsIs w lo v.1 q.1 ∧ ArgsIs w lo v.2 q.2 ∧ q.1.length = q.2.length) ∧ StkP w lo vs st
  | _, _ => False
theorem StkP.keep {w w' : World} {lo : Nat → Prop} (hz : w.heap.size ≤ w'.heap.size) (hk : ∀ b o : Nat, lo b → b < w.heap.size → w'.cell? ⟨b, o, none⟩ = w.cell? ⟨b, o, none⟩) : ∀ {vs : List (Value × Value)} {st : List (List Ex × List Ex)}, StkP w lo vs st → StkP w' lo vs st
  | [], [], _ => trivial
  | v :: vs, q :: st, h => ⟨⟨h.1.1.keep hz hk, h.1.2.1.keep hz hk, h.1.2.2⟩, StkP.keep hz hk h.2⟩
  | [], _ :: _, h => absurd h id
  | _ :: _, [], h => absurd h id
theorem StkP.len {w : World} {lo : Nat → Prop} : ∀ {vs : List (Value × Value)} {st : List (List Ex × List Ex)}, StkP w lo vs st → vs.length = st.length
  | [], [], _ => rfl
  | v :: vs, q :: st, h => by rw [List.length_cons, List.length_cons, StkP.len h.2]
  | [], _ :: _, h => absurd h id
  | _ :: _, [], h => absurd h id
theorem StkP.front {w : World} {lo : Nat → Prop} : ∀ {vs : List (Value × Value)} {v : Value × Value} {st : List (List Ex × List Ex)} {q : List Ex × List Ex}, StkP w lo (vs ++ [v]) (st ++ [q]) → StkP w lo vs st ∧ ArgsIs w lo v.1 q.1 ∧ ArgsIs w lo v.2 q.2 ∧ q.1.length = q.2.length
  | [], v, [], q, h => ⟨trivial, h.1⟩
  | u :: vs, v, p :: st, q, h => by
    have := StkP.front (vs := vs) (st := st) h.2
    exact ⟨⟨h.1, this.1⟩, this.2⟩
  | [], v, p :: st, q, h => by have := StkP.len h; simp at this
  | u :: vs, v, [], q, h => by have := StkP.len h; simp at this
theorem StkP.snoc {w : World} {lo : Nat → Prop} {v : Value × Value} {q : List Ex × List Ex} (hv : ArgsIs w lo v.1 q.1 ∧ ArgsIs w lo v.2 q.2 ∧ q.1.length = q.2.length) : ∀ {vs : List (Value × Value)} {st : List (List Ex × List Ex)}, StkP w lo vs st → StkP w lo (vs ++ [v]) (st ++ [q])
  | [], [], h => ⟨hv, trivial⟩
  | u :: vs, p :: st, h => ⟨h.1, StkP.snoc hv h.2⟩
  | [], _ :: _, h => absurd h id
  | _ :: _, [], h => absurd h id
theorem pairN_nil (st : List (List Ex × List Ex)) (m : List Ex) : pairN (st ++ [([], m)]) = pairN st + 1 := by
  simp [pairN, Ex.sizes]; omega
theorem pairN_cons (st : List (List Ex × List Ex)) (x y : Ex) (xs ys : List Ex) : pairN (st ++ [(x :: xs, y :: ys)]) = pairN (st ++ [(xs, ys)] ++ [(x.args, y.args)]) + 1 := by
  cases x
  simp [pairN, Ex.sizes, Ex.size, Ex.args]; omega
theorem info_pr : (Tryz.prog.info? 74).map (fun i => (i.zero, i.size, i.bytes)) = some (some (.agg #[.slice none 0 0, .slice none 0 0]), 2, 48) := by kernel_rfl
theorem ExIn.parts {w : World} {lo : Nat → Prop} {o n s : ByteArray} {t k ps : Int} {p : Option Addr} {m c : Nat} {x : Ex} (h : ExIn w lo (.agg #[.string o, .string n, .int .i64 t, .int .i64 k, .string s, .slice p m c, .int .i64 ps]) x) : x = .node o n t k s ps x.args ∧ m = x.args.length := by
  cases x with
  | node op nm vt vn vs pos l =>
    rw [ExIn] at h
    obtain ⟨p', c', e, _⟩ := h
    injection e with e
    simp only [Array.mk.injEq, List.cons.injEq, and_true, Value.string.injEq, Value.int.injEq, true_and, Value.slice.injEq] at e
    obtain ⟨rfl, rfl, rfl, rfl, rfl, ⟨rfl, rfl, rfl⟩, rfl⟩ := e
    exact ⟨rfl, rfl⟩
theorem sameE_parts {o n s o2 n2 s2 : ByteArray} {t k ps t2 k2 ps2 : Int} {l l2 : List Ex} : sameE false (.node o n t k s ps l) (.node o2 n2 t2 k2 s2 ps2 l2) = ((o.toList == o2.toList) && ((n.toList == n2.toList) && (((t == t2) && ((k == k2) && (s.toList == s2.toList))) && sameL false l l2))) := by
  rw [sameE]; simp
theorem allSame_nil (st : List (List Ex × List Ex)) : allSame (st ++ [([], [])]) = allSame st := by
  rw [allSame, List.all_append]; simp [allSame, sameL]
theorem allSame_snoc (st : List (List Ex × List Ex)) (q : List Ex × List Ex) : allSame (st ++ [q]) = (allSame st && sameL false q.1 q.2) := by
  rw [allSame, List.all_append]; simp [allSame]
end Go.Proofs.YtknibfhoecgjlaaGreatDoor
namespace Go.Proofs.YtknibfhoecgjlaaGreatDoor
open Go.RowKit Go.BigFrame
set_option linter.unusedVariables false

theorem two_boxes (W : World) (ca cb : Array Value) (t : TypeId) : (∀ i, ((W.alloc (.cells ca t)).alloc (.cells cb t)).drew.cell? ⟨W.heap.size, i, none⟩ = ca[i]?) ∧ (∀ i, ((W.alloc (.cells ca t)).alloc (.cells cb t)).drew.cell? ⟨W.heap.size + 1, i, none⟩ = cb[i]?) ∧ ((W.alloc (.cells ca t)).alloc (.cells cb t)).drew.heap.size = W.heap.size + 2 ∧ Below W.heap.size W ((W.alloc (.cells ca t)).alloc (.cells cb t)).drew := by
  refine ⟨fun i => ?_, fun i => ?_, by simp, Below.drew (((Below.refl _ W).alloc (Nat.le_refl _) _).alloc (by simp) _)⟩
  · show ((W.alloc (.cells ca t)).alloc (.cells cb t)).cell? ⟨W.heap.size, i, none⟩ = _
    rw [World.cell?_alloc_lt _ _ _ (by simp), World.cell?_alloc_at _ _ _ _ rfl]
  · show ((W.alloc (.cells ca t)).alloc (.cells cb t)).cell? ⟨W.heap.size + 1, i, none⟩ = _
    rw [World.cell?_alloc_at _ _ _ _ (by simp)]
theorem start_boxes (w : World) (ca cb cp : Array Value) (t tp : TypeId) : (∀ i, (((((w.alloc (.cells ca t)).alloc (.cells cb t)).alloc (.cells ca t)).alloc (.cells cb t)).alloc (.cells cp tp)).cell? ⟨w.heap.size + 2, i, none⟩ = ca[i]?) ∧ (∀ i, (((((w.alloc (.cells ca t)).alloc (.cells cb t)).alloc (.cells ca t)).alloc (.cells cb t)).alloc (.cells cp tp)).cell? ⟨w.heap.size + 3, i, none⟩ = cb[i]?) ∧ (((((w.alloc (.cells ca t)).alloc (.cells cb t)).alloc (.cells ca t)).alloc (.cells cb t)).alloc (.cells cp tp)).heap[w.heap.size + 4]? = some (.cells cp tp) ∧ (((((w.alloc (.cells ca t)).alloc (.cells cb t)).alloc (.cells ca t)).alloc (.cells cb t)).alloc (.cells cp tp)).heap.size = w.heap.size + 5 ∧ Below w.heap.size w (((((w.alloc (.cells ca t)).alloc (.cells cb t)).alloc (.cells ca t)).alloc (.cells cb t)).alloc (.cells cp tp)) := by
  refine ⟨fun i => ?_, fun i => ?_, ?_, by simp, (((((Below.refl _ w).alloc (Nat.le_refl _) _).alloc (by simp) _).alloc (by simp <;> omega) _).alloc (by simp <;> omega) _).alloc (by simp <;> omega) _⟩
  · rw [World.cell?_alloc_lt _ _ _ (by simp <;> omega), World.cell?_alloc_lt _ _ _ (by simp), World.cell?_alloc_at _ _ _ _ (by simp)]
  · rw [World.cell?_alloc_lt _ _ _ (by simp), World.cell?_alloc_at _ _ _ _ (by simp)]
  · rw [show w.heap.size + 4 = ((((w.alloc (.cells ca t)).alloc (.cells cb t)).alloc (.cells ca t)).alloc (.cells cb t)).heap.size by simp]
    exact heap_alloc_new _ _
theorem argsIs_one {W : World} {lo : Nat → Prop} {b : Nat} {v0 v1 v2 v3 v4 v5 v6 : Value} {x : Ex} (hb : b < W.heap.size) (hlo : lo b) (hc : ∀ i, W.cell? ⟨b, i, none⟩ = (#[v0, v1, v2, v3, v4, v5, v6] : Array Value)[i]?) (hx : ExIn W lo (.agg #[v0, v1, v2, v3, v4, v5, v6]) x) : ArgsIs W lo (.slice (some ⟨b, 0, none⟩) 1 1) [x] := by
  refine ⟨some ⟨b, 0, none⟩, 1, rfl, ⟨by simp [maxLen], by simp⟩, .inr ⟨b, 0, rfl, hb, hlo, ?_⟩⟩
  rw [ExsIn, ExsIn]
  refine ⟨⟨_, _, _, _, _, _, _, ?_, ?_, ?_, ?_, ?_, ?_, ?_, hx⟩, trivial⟩
  all_goals (rw [hc]; rfl)
set_option maxHeartbeats 4000000 in
set_option maxRecDepth 20000 in
theorem treeSame_any (x y : Ex) (lo : Nat → Prop) (va vb : Value) (w : World) (hx : ExIn w lo va x) (hy : ExIn w lo vb y) (hsz : x.size ≤ 1048576) :
    Calls Tryz.prog 15 #[va, vb] w fun e w' => e = .returned (.bool (sameE false x y)) ∧ Below w.heap.size w w' := by
  obtain ⟨o1, n1, t1, k1, s1, p1, m1, c1, a1, rfl⟩ := hx.agg
  obtain ⟨o2, n2, t2, k2, s2, p2, m2, c2, a2, rfl⟩ := hy.agg
  obtain ⟨i0, hi, hz0, hz1, hzz⟩ := info_parts info_pr
  obtain ⟨T, hT⟩ : ∃ T, sameE false x y = T := ⟨_, rfl⟩
  have HT : Hid (sameE false x y = T) := hT
  have HX : Aside (ExIn w (· < w.heap.size + 4) (.agg #[.string o1, .string n1, .int .i64 t1, .int .i64 k1, .string s1, .slice p1 m1 c1, .int .i64 a1]) x) := ExIn.low (fun b h1 _ => (show b < w.heap.size + 4 by omega)) _ _ hx
  have HY : Aside (ExIn w (· < w.heap.size + 4) (.agg #[.string o2, .string n2, .int .i64 t2, .int .i64 k2, .string s2, .slice p2 m2 c2, .int .i64 a2]) y) := ExIn.low (fun b h1 _ => (show b < w.heap.size + 4 by omega)) _ _ hy
  have HZ : Hid (x.size ≤ 1048576) := hsz
  rw [hT]
  clear hx hy hT hsz
  go_enter Tryz.func15, Tryz.ntmps15
  go_wp2
  go_loopg [5, 6, 7, 8, 9] (2 * x.size + 2) (fun gg s5 _ _ _ _ wr => ∃ (st : List (List Ex × List Ex)) (vs : List (Value × Value)) (q : Option Addr) (c : Nat), s5 = .slice q vs.length c ∧ Hid (pairN st < gg ∧ pairN st ≤ 2097153) ∧ Aside (wr.ownsRow (w.heap.size + 4) 74 2 (.slice q vs.length c) vs.length (pairC vs)) ∧ Aside (StkP wr (· < w.heap.size + 4) vs st) ∧ Aside (Below w.heap.size w wr) ∧ Hid (allSame st = T))
  case atStart =>
    obtain ⟨h1, h2, h3, h4, h5⟩ := start_boxes w #[.string o1, .string n1, .int .i64 t1, .int .i64 k1, .string s1, .slice p1 m1 c1, .int .i64 a1] #[.string o2, .string n2, .int .i64 t2, .int .i64 k2, .string s2, .slice p2 m2 c2, .int .i64 a2] #[.slice (some ⟨w.heap.size + 2, 0, none⟩) 1 1, .slice (some ⟨w.heap.size + 3, 0, none⟩) 1 1] 26 74
    refine ⟨[([x], [y])], [(.slice (some ⟨w.heap.size + 2, 0, none⟩) 1 1, .slice (some ⟨w.heap.size + 3, 0, none⟩) 1 1)], some ⟨w.heap.size + 4, 0, none⟩, 1, rfl, ?_, ?_, ?_, ?_, ?_⟩
    · show _ ∧ _
      have h := HZ.out
      simp [pairN, Ex.sizes]
      omega
    · exact ⟨rfl, .inr ⟨w.heap.size + 4, 1, #[.slice (some ⟨w.heap.size + 2, 0, none⟩) 1 1, .slice (some ⟨w.heap.size + 3, 0, none⟩) 1 1], rfl, Nat.le_refl _, h3, Nat.le_refl _, by decide, rfl, rfl⟩⟩
    · exact ⟨⟨argsIs_one (by rw [h4]; omega) (by show _ < _; omega) h1 (HX.out.on h5), argsIs_one (by rw [h4]; omega) (by show _ < _; omega) h2 (HY.out.on h5), rfl⟩, trivial⟩
    · exact h5
    · show _ = _
      rw [← HT.out]
      simp [allSame, sameL]
  case round =>
    obtain ⟨st, vs, q, c, rfl, HB, OW, SK, BW, HF⟩ := hrel
    clear HX HY HT
    have hz := BW.out.size
    have hlen := SK.out.len
    rcases List.eq_nil_or_concat st with rfl | ⟨st', l, rfl⟩
    · obtain rfl : vs = [] := List.eq_nil_of_length_eq_zero hlen
      have HT2 : Hid (true = T) := HF.out
      go_wp2
      go_ret
      have hT := HT2.out
      subst hT
      exact ⟨rfl, BW.out⟩
    · obtain ⟨vs', v, rfl⟩ : ∃ vs' v, vs = vs' ++ [v] := by
        rcases List.eq_nil_or_concat vs with rfl | ⟨vs', v, rfl⟩
        · simp at hlen
        · exact ⟨vs', v, by simp⟩
      simp only [List.concat_eq_append] at *
      obtain ⟨SK1, AI, AJ, hll⟩ := SK.out.front
      have OW2 := OW.out
      simp only [List.length_append, List.length_singleton] at OW2 hlen
      obtain ⟨g, rfl⟩ : ∃ g, q = some ⟨g, 0, none⟩ := by
        rcases OW2.2 with ⟨e1, _⟩ | ⟨g, _, _, e1, _⟩
        · injection e1 with e1 e2; simp at e2
        · injection e1 with e1; exact ⟨g, e1⟩
      obtain ⟨ct, ct2, cf, cf2, gl, gB, gc⟩ := own2_top OW2
      obtain ⟨l, m⟩ := l
      obtain ⟨va, vb⟩ := v
      simp only at AI AJ hll ct ct2
      have hN : vs'.length ≤ 2097153 := by
        have h1 := HB.out.2
        rw [pairN, List.length_append, List.length_singleton] at h1
        omega
      have hNz : (vs'.length : Int) ≤ 2097153 := by omega
      have hN0 : (0 : Int) ≤ (vs'.length : Int) := by omega
      have hlenz : (((vs' ++ [(va, vb)]).length : Nat) : Int) = (vs'.length : Int) + 1 := by simp
      clear hlen OW SK
      obtain ⟨pa, ca, rfl, ⟨hm1, hm2⟩, hA⟩ := id AI
      obtain ⟨pb, cb, rfl, ⟨hk1, hk2⟩, hB⟩ := id AJ
      cases l with
      | nil =>
        obtain rfl : m = [] := List.eq_nil_of_length_eq_zero hll.symm
        have ow := own2_pop OW2
        have HB2 : Hid (pairN st' < gk - 1 ∧ pairN st' ≤ 2097153 ∧ 0 < gk) := by
          show _ ∧ _
          have h1 := HB.out
          rw [pairN_nil] at h1
          omega
        have HF3 : Hid (allSame st' = T) := by show _ = _; rw [← HF.out, allSame_nil]
        have BP := BW.out.alloc (by omega) (.cells #[.slice pa 0 ca, .slice pb 0 cb] 74)
        clear OW2 AI AJ HB HF hA hB
        simp only [List.length_nil] at ct ct2
        go_wp2
        go_roundg (gk - 1)
        case measure => have := HB2.out; omega
        case rel => exact ⟨st', vs', _, c, rfl, (show Hid _ from ⟨HB2.out.1, HB2.out.2.1⟩), (show Aside _ from ow.alloc _), (show Aside _ from SK1.keep (by simp) (fun b o _ h2 => World.cell?_alloc_past _ _ _ h2)), (show Aside _ from BP), HF3⟩
      | cons a l =>
        obtain ⟨b, m, rfl⟩ : ∃ b m', m = b :: m' := by
          cases m with
          | nil => simp at hll
          | cons b m => exact ⟨b, m, rfl⟩
        simp only [List.length_cons] at AI AJ ct ct2 hll
        obtain ⟨pa', ca', hsa, AI2⟩ := tail_run AI
        obtain ⟨pb', cb', hsb, AJ2⟩ := tail_run AJ
        have HLL : Hid (l.length = m.length) := by show _ = _; omega
        have hlz : ((l.length : Int) + 1 == 0) = false := by simp; omega
        have hmz : ((m.length : Int) + 1 == 0) = false := by simp; omega
        clear hll
        have OP := own2_put (u := (Value.slice pa' l.length ca', Value.slice pb' m.length cb')) OW2
        have OP2 := OP.alloc (.cells #[.slice pa (l.length + 1) ca, .slice pb (m.length + 1) cb] 74)
        have bw1 : Below (w.heap.size + 4) wr ((((wr.setCell ⟨g, vs'.length * 2, none⟩ (.slice pa' l.length ca')).setCell ⟨g, vs'.length * 2 + 1, none⟩ (.slice pb' m.length cb')).alloc (.cells #[.slice pa (l.length + 1) ca, .slice pb (m.length + 1) cb] 74)).drew) := Below.drew ((((Below.refl _ wr).setCell (p := ⟨g, vs'.length * 2, none⟩) gB _).setCell (p := ⟨g, vs'.length * 2 + 1, none⟩) gB _).alloc (by simp [World.setCell]; omega) _)
        rcases hA with hA | ⟨ba, oa, rfl, hbla, hloa, hA⟩
        · simp at hA
        rcases hB with hB | ⟨bb, ob, rfl, hblb, hlob, hB⟩
        · simp at hB
        rw [ExsIn] at hA hB
        obtain ⟨⟨v0, v1, v2, v3, v4, v5, v6, e0, e1, e2, e3, e4, e5, e6, hxa⟩, _⟩ := hA
        obtain ⟨⟨z0, z1, z2, z3, z4, z5, z6, f0, f1, f2, f3, f4, f5, f6, hxb⟩, _⟩ := hB
        obtain ⟨u0, u1, u2, u3, u4, u5, u6, u7, u8, huu⟩ := hxa.agg
        injection huu with huu
        simp only [Array.mk.injEq, List.cons.injEq, and_true] at huu
        obtain ⟨rfl, rfl, rfl, rfl, rfl, rfl, rfl⟩ := huu
        obtain ⟨q0, q1, q2, q3, q4, q5, q6, q7, q8, hqq⟩ := hxb.agg
        injection hqq with hqq
        simp only [Array.mk.injEq, List.cons.injEq, and_true] at hqq
        obtain ⟨rfl, rfl, rfl, rfl, rfl, rfl, rfl⟩ := hqq
        have hloa : ba < w.heap.size + 4 := hloa
        have hlob : bb < w.heap.size + 4 := hlob
        have kA : ∀ o, _ = wr.cell? ⟨ba, o, none⟩ := fun o => bw1.cell (p := ⟨ba, o, none⟩) hloa
        have kB : ∀ o, _ = wr.cell? ⟨bb, o, none⟩ := fun o => bw1.cell (p := ⟨bb, o, none⟩) hlob
        rw [← kA] at e0 e1 e2 e3 e4 e5 e6
        rw [← kB] at f0 f1 f2 f3 f4 f5 f6
        have hP : ∀ i, ((((wr.setCell ⟨g, vs'.length * 2, none⟩ (.slice pa' l.length ca')).setCell ⟨g, vs'.length * 2 + 1, none⟩ (.slice pb' m.length cb')).alloc (.cells #[.slice (some ⟨ba, oa, none⟩) (l.length + 1) ca, .slice (some ⟨bb, ob, none⟩) (m.length + 1) cb] 74)).drew).cell? ⟨wr.heap.size, i, none⟩ = (#[.slice (some ⟨ba, oa, none⟩) (l.length + 1) ca, .slice (some ⟨bb, ob, none⟩) (m.length + 1) cb] : Array Value)[i]? := fun i => World.cell?_alloc_at _ _ _ _ (by simp [World.setCell])
        have P0 : _ = some (Value.slice (some ⟨ba, oa, none⟩) (l.length + 1) ca) := hP 0
        have P1 : _ = some (Value.slice (some ⟨bb, ob, none⟩) (m.length + 1) cb) := hP 1
        have hWz : wr.heap.size < ((((wr.setCell ⟨g, vs'.length * 2, none⟩ (.slice pa' l.length ca')).setCell ⟨g, vs'.length * 2 + 1, none⟩ (.slice pb' m.length cb')).alloc (.cells #[.slice (some ⟨ba, oa, none⟩) (l.length + 1) ca, .slice (some ⟨bb, ob, none⟩) (m.length + 1) cb] 74)).drew).heap.size := by simp [World.setCell]
        have OP3 : ((((wr.setCell ⟨g, vs'.length * 2, none⟩ (.slice pa' l.length ca')).setCell ⟨g, vs'.length * 2 + 1, none⟩ (.slice pb' m.length cb')).alloc (.cells #[.slice (some ⟨ba, oa, none⟩) (l.length + 1) ca, .slice (some ⟨bb, ob, none⟩) (m.length + 1) cb] 74)).drew).ownsRow (w.heap.size + 4) 74 2 (.slice (some ⟨g, 0, none⟩) (vs'.length + 1) c) (vs'.length + 1) (pairC (vs' ++ [(Value.slice pa' l.length ca', Value.slice pb' m.length cb')])) := OP2
        clear OP OP2 OW2 kA kB hP
        go_wp2
        go_region
        generalize ((((wr.setCell ⟨g, vs'.length * 2, none⟩ (.slice pa' l.length ca')).setCell ⟨g, vs'.length * 2 + 1, none⟩ (.slice pb' m.length cb')).alloc (.cells #[.slice (some ⟨ba, oa, none⟩) (l.length + 1) ca, .slice (some ⟨bb, ob, none⟩) (m.length + 1) cb] 74)).drew) = W at *
        have hblaW : ba < W.heap.size := by omega
        have hblbW : bb < W.heap.size := by omega
        have hva := val_neq u2 u3 q2 q3 u4 q4
        have HSM : Hid ((allSame st' && (sameE false a b && sameL false l m)) = T) := by
          show _ = _
          rw [← HF.out, allSame_snoc]
          simp only
          rw [sameL]
        obtain ⟨hpa, hla⟩ := hxa.parts
        obtain ⟨hpb, hlb⟩ := hxb.parts
        have HSE : Hid (sameE false a b = ((u0.toList == q0.toList) && ((u1.toList == q1.toList) && (((u2 == q2) && ((u3 == q3) && (u4.toList == q4.toList))) && sameL false a.args b.args)))) := by
          show _ = _
          rw [hpa, hpb, sameE_parts]
          rfl
        have HLA : Hid (u6 = a.args.length ∧ q6 = b.args.length) := ⟨hla, hlb⟩
        have aa := hxa.args
        have ab := hxb.args
        clear HF hpa hpb hla hlb hxa hxb
        generalize hc1 : (u0.toList == q0.toList) = C1 at HSE
        generalize hc2 : (u1.toList == q1.toList) = C2 at HSE
        generalize hc3 : ((u2 == q2) && ((u3 == q3) && (u4.toList == q4.toList))) = C3 at hva HSE
        have BWW : Below w.heap.size w W := BW.out.trans (bw1.mono (by omega))
        have hWs : w.heap.size + 4 ≤ W.heap.size := by omega
        have e0 := e0
        go_upto_region 8 with fail
        go_cut [8, 9] (fun s8 s9 wc => ∃ bx by' : Nat, s8 = .pointer (some ⟨bx, 0, none⟩) ∧ s9 = .pointer (some ⟨by', 0, none⟩) ∧ (wc.cell? ⟨bx, 0, none⟩ = some (.string u0) ∧ wc.cell? ⟨bx, 1, none⟩ = some (.string u1) ∧ wc.cell? ⟨bx, 2, none⟩ = some (.int .i64 u2) ∧ wc.cell? ⟨bx, 3, none⟩ = some (.int .i64 u3) ∧ wc.cell? ⟨bx, 4, none⟩ = some (.string u4) ∧ wc.cell? ⟨bx, 5, none⟩ = some (.slice u5 u6 u7)) ∧ (wc.cell? ⟨by', 0, none⟩ = some (.string q0) ∧ wc.cell? ⟨by', 1, none⟩ = some (.string q1) ∧ wc.cell? ⟨by', 2, none⟩ = some (.int .i64 q2) ∧ wc.cell? ⟨by', 3, none⟩ = some (.int .i64 q3) ∧ wc.cell? ⟨by', 4, none⟩ = some (.string q4) ∧ wc.cell? ⟨by', 5, none⟩ = some (.slice q5 q6 q7)) ∧ bx < wc.heap.size ∧ by' < wc.heap.size ∧ Below W.heap.size W wc ∧ W.heap.size + 2 ≤ wc.heap.size)
        case first => as_aux_lemma =>
          go_region
          all_goals
            go_wp2_with fail
            go_meet
            case rel =>
              first
                | (obtain ⟨h1, h2, h3, h4⟩ := two_boxes W #[.string u0, .string u1, .int .i64 u2, .int .i64 u3, .string u4, .slice u5 u6 u7, .int .i64 u8] #[.string q0, .string q1, .int .i64 q2, .int .i64 q3, .string q4, .slice q5 q6 q7, .int .i64 q8] 26
                   exact ⟨W.heap.size, W.heap.size + 1, rfl, rfl, ⟨h1 0, h1 1, h1 2, h1 3, h1 4, h1 5⟩, ⟨h2 0, h2 1, h2 2, h2 3, h2 4, h2 5⟩, by rw [h3]; omega, by rw [h3]; omega, h4, by rw [h3]; omega⟩)
                | (obtain ⟨h2, h1, h3, h4⟩ := two_boxes W #[.string q0, .string q1, .int .i64 q2, .int .i64 q3, .string q4, .slice q5 q6 q7, .int .i64 q8] #[.string u0, .string u1, .int .i64 u2, .int .i64 u3, .string u4, .slice u5 u6 u7, .int .i64 u8] 26
                   exact ⟨W.heap.size + 1, W.heap.size, rfl, rfl, ⟨h1 0, h1 1, h1 2, h1 3, h1 4, h1 5⟩, ⟨h2 0, h2 1, h2 2, h2 3, h2 4, h2 5⟩, by rw [h3]; omega, by rw [h3]; omega, h4, by rw [h3]; omega⟩)
        case rest =>
          obtain ⟨bx, by', rfl, rfl, ⟨x0, x1, x2, x3, x4, x5⟩, ⟨y0, y1, y2, y3, y4, y5⟩, hbx, hby, BC, hWc⟩ := hcut
          have BWc : Below w.heap.size w wc := BWW.trans (BC.mono (by omega))
          have OWc := own_but OP3 (But.of_below' (r := 0) BC (Nat.zero_le _)) (by omega)
          have BWA : Aside (Below w.heap.size w wc) := BWc
          have BRC : Aside (Below (w.heap.size + 4) wr wc) := bw1.trans (BC.mono (by omega))
          have OWA : Aside (wc.ownsRow (w.heap.size + 4) 74 2 (.slice (some ⟨g, 0, none⟩) (vs'.length + 1) c) (vs'.length + 1) (pairC (vs' ++ [(Value.slice pa' l.length ca', Value.slice pb' m.length cb')]))) := OWc
          have hrc : wr.heap.size ≤ wc.heap.size := by omega
          clear BW BWW BWc OWc BC bw1 OP3 e0 e1 e2 e3 e4 e5 e6 f0 f1 f2 f3 f4 f5 f6 P0 P1 ct ct2 cf cf2 hWz hblaW hblbW hloa hlob hsa hsb AI AJ
          cases C1
          · as_aux_lemma =>
            have HT2 : Hid (false = T) := by show _ = _; rw [← HSM.out, HSE.out]; simp
            go_wp2
            go_ret
            have hT := HT2.out
            subst hT
            exact ⟨rfl, BWA.out⟩
          · cases C2
            · as_aux_lemma =>
              have HT2 : Hid (false = T) := by show _ = _; rw [← HSM.out, HSE.out]; simp
              go_wp2
              go_ret
              have hT := HT2.out
              subst hT
              exact ⟨rfl, BWA.out⟩
            · cases C3
              · as_aux_lemma =>
                have HT2 : Hid (false = T) := by show _ = _; rw [← HSM.out, HSE.out]; simp
                go_wp2
                go_ret
                have hT := HT2.out
                subst hT
                exact ⟨rfl, BWA.out⟩
              · by_cases h6 : u6 = q6
                · subst h6
                  have h6z : ((u6 : Int) != (u6 : Int)) = false := by simp
                  have HB2 : Hid (pairN (st' ++ [(l, m)] ++ [(a.args, b.args)]) < gk - 1 ∧ pairN (st' ++ [(l, m)] ++ [(a.args, b.args)]) ≤ 2097153 ∧ 0 < gk) := by
                    show _ ∧ _
                    have h1 := HB.out
                    rw [pairN_cons] at h1
                    omega
                  have HF4 : Hid (allSame (st' ++ [(l, m)] ++ [(a.args, b.args)]) = T) := by
                    show _ = _
                    rw [← HSM.out, HSE.out, allSame_snoc, allSame_snoc]
                    simp only [Bool.true_and]
                    rw [Bool.and_assoc, Bool.and_comm (sameL false l m)]
                  have SKA : Aside (StkP wr (· < w.heap.size + 4) (vs' ++ [(Value.slice pa' l.length ca', Value.slice pb' m.length cb')] ++ [(Value.slice u5 u6 u7, Value.slice q5 u6 q7)]) (st' ++ [(l, m)] ++ [(a.args, b.args)])) := StkP.snoc ⟨aa, ab, HLA.out.1.symm.trans HLA.out.2⟩ (StkP.snoc ⟨AI2, AJ2, HLL.out⟩ SK1)
                  have OWB : wc.ownsRow (w.heap.size + 4) 74 2 (.slice (some ⟨g, 0, none⟩) (vs' ++ [(Value.slice (some ⟨ba, oa, none⟩) (a :: l).length ca, Value.slice (some ⟨bb, ob, none⟩) (b :: m).length cb)]).length c) (vs'.length + 1) (pairC (vs' ++ [(Value.slice pa' l.length ca', Value.slice pb' m.length cb')])) := by
                    have h1 : (vs' ++ [(Value.slice (some ⟨ba, oa, none⟩) (a :: l).length ca, Value.slice (some ⟨bb, ob, none⟩) (b :: m).length cb)]).length = vs'.length + 1 := by simp
                    rw [h1]; exact OWA.out
                  clear HB HSM HSE HLA HLL aa ab AI2 AJ2 SK1 OWA
                  go_wp2_with (at_builtin; refine wpList_append_own _ rfl _ _ 75 rfl (w.heap.size + 4) 74 i0 (.agg #[.slice none 0 0, .slice none 0 0]) 2 48 Tryz.underlying75 hi hz0 hz1 hzz rfl (by decide) _ _ _ rfl (OWB.alloc _) ⟨wc.heap.size, 0, none⟩ 1 1 [.slice u5 u6 u7, .slice q5 u6 q7] rfl rfl ?c1 ?c2 ?c3 ?c4 ?c5 ?_)
                  case c1 =>
                    intro i u hu
                    rw [Go.WideShapes.add_plain, World.cell?_alloc_at _ _ _ _ (by simp)]
                    simpa using hu
                  case c2 =>
                    intro u hu
                    simp at hu
                    rcases hu with rfl | rfl <;> rfl
                  case c3 => simp [maxLen]; omega
                  case c4 => omega
                  case c5 => simp; omega
                  · intro v' w3 hown' hgrow _
                    have hlo3 : ∀ j, (Value.slice (some ⟨g, 0, none⟩) (vs' ++ [(Value.slice (some ⟨ba, oa, none⟩) (a :: l).length ca, Value.slice (some ⟨bb, ob, none⟩) (b :: m).length cb)]).length c).ownBlock = some j → w.heap.size + 4 ≤ j := fun j hj => (OWB.lt j hj).1
                    have bg : Below (w.heap.size + 4) wc w3 := ((Below.refl _ wc).alloc (by omega) _).grown hgrow (by simp; omega) hlo3
                    have zg : wc.heap.size ≤ w3.heap.size := by have := hgrow.size; simp at this; omega
                    have BR3 : Below (w.heap.size + 4) wr w3 := BRC.out.trans bg
                    have SK4 := SKA.out.keep (by omega) (fun bb' oo hb _ => BR3.cell (p := ⟨bb', oo, none⟩) hb)
                    have BB3 : Below w.heap.size w w3 := BWA.out.trans (bg.mono (by omega))
                    obtain ⟨q5', c5', rfl⟩ := lown_slice hown'
                    have ow5 : w3.ownsRow (w.heap.size + 4) 74 2 (.slice q5' (vs' ++ [(Value.slice pa' l.length ca', Value.slice pb' m.length cb')] ++ [(Value.slice u5 u6 u7, Value.slice q5 u6 q7)]).length c5') (vs' ++ [(Value.slice pa' l.length ca', Value.slice pb' m.length cb')] ++ [(Value.slice u5 u6 u7, Value.slice q5 u6 q7)]).length (pairC (vs' ++ [(Value.slice pa' l.length ca', Value.slice pb' m.length cb')] ++ [(Value.slice u5 u6 u7, Value.slice q5 u6 q7)])) := by
                      have h1 : (vs' ++ [(Value.slice pa' l.length ca', Value.slice pb' m.length cb')] ++ [(Value.slice u5 u6 u7, Value.slice q5 u6 q7)]).length = vs'.length + 1 + 1 := by simp
                      rw [h1, pairC_snoc]; exact hown'
                    clear hown' hgrow SKA BWA OWB bg BRC
                    go_wp2
                    go_roundg (gk - 1)
                    case measure => have := HB2.out; omega
                    case rel => exact ⟨st' ++ [(l, m)] ++ [(a.args, b.args)], _, q5', c5', by simp, (show Hid _ from ⟨HB2.out.1, HB2.out.2.1⟩), (show Aside _ from ow5), (show Aside _ from SK4), (show Aside _ from BB3), HF4⟩
                · as_aux_lemma =>
                  have h6z : ((u6 : Int) == (q6 : Int)) = false := by simp; omega
                  have h6n : ((u6 : Int) != (q6 : Int)) = true := by simp; omega
                  have HT2 : Hid (false = T) := by
                    show _ = _
                    rw [← HSM.out, HSE.out, sameL_len (by have := HLA.out; omega)]; simp
                  clear h6
                  go_wp2
                  go_ret
                  have hT := HT2.out
                  subst hT
                  exact ⟨rfl, BWA.out⟩
end Go.Proofs.YtknibfhoecgjlaaGreatDoor
namespace Go.Proofs.YtknibfhoecgjlaaGreatDoor
open Go.RowKit Go.BigFrame
set_option linter.unusedVariables false

def fsz (s : Nat) (x : Ex) (d : Nat) : Nat × Bool := (s + 1, true)
theorem fold_sz : ∀ (l : List (Ex × Nat)) (s : Nat), foldP fsz s l = (s + l.length, true)
  | [], s => by rw [foldP]; rfl
  | q :: r, s => by
    rw [foldP, if_pos (show (fsz s q.1 q.2).2 = true from rfl), fold_sz r]
    simp [fsz]
    omega
/-- A number that is counted on, and is not over. -/
def SizIn (p : Nat) (W : World) (s : Nat) (m : Nat) : Prop := W.cell? ⟨p, 0, none⟩ = some (.int .i64 (s : Int)) ∧ W.frozen? ⟨p, 0, none⟩ = false ∧ p < W.heap.size ∧ s + m ≤ 1048576
set_option maxHeartbeats 1000000 in
set_option maxRecDepth 20000 in
theorem sz1_any (p : Nat) (W : World) (v : Value) (lo : Nat → Prop) (x : Ex) (d s m : Nat) (hx : ExIn W lo v x) (hd : d ≤ 1048577) (hs : SizIn p W s (m + 1)) :
    Calls Tryz.prog 33 #[v, .int .i64 (d : Int), .pointer (some ⟨p, 0, none⟩)] W fun e w' => e = .returned (.bool (fsz s x d).2) ∧ ((fsz s x d).2 = true → SizIn p w' (fsz s x d).1 m) ∧ ((fsz s x d).2 = false → True) ∧ But p W w' := by
  obtain ⟨o1, n1, t1, k1, s1, p1, m1, c1, a1, rfl⟩ := hx.agg
  obtain ⟨h1, h2, h3, h4⟩ := hs
  have BF : Aside (∀ u, But p W ((W.setCell ⟨p, 0, none⟩ u).alloc (.cells #[.string o1, .string n1, .int .i64 t1, .int .i64 k1, .string s1, .slice p1 m1 c1, .int .i64 a1] 26))) := fun u => ((But.refl p W).set 0 u).alloc (by simp [World.setCell]; omega) _
  have hsz : (s : Int) + 1 ≤ 9223372036854775807 := by omega
  have hs0 : (0 : Int) ≤ (s : Int) := by omega
  have hC : Aside (SizIn p ((W.setCell ⟨p, 0, none⟩ (.int .i64 ((s : Int) + 1))).alloc (.cells #[.string o1, .string n1, .int .i64 t1, .int .i64 k1, .string s1, .slice p1 m1 c1, .int .i64 a1] 26)) (s + 1) m) := by
    refine ⟨?_, ?_, by simp [World.setCell]; omega, by omega⟩
    · rw [World.cell?_alloc_past _ _ _ (by simpa [World.setCell] using h3), World.cell?_setCell_same W ⟨p, 0, none⟩ _ h1]
      rfl
    · rw [World.frozen?_alloc_past _ _ _ (by simpa [World.setCell] using h3)]
      simpa using h2
  obtain ⟨S2, hS2⟩ : ∃ S2, s + 1 = S2 := ⟨_, rfl⟩
  have hR : fsz s x d = (S2, true) := by rw [← hS2]; rfl
  rw [hS2] at hC
  rw [hR]
  clear hx hR hS2 h4 hd
  go_enter Tryz.func33, Tryz.ntmps33
  go_wp2
  go_ret
  first
    | exact ⟨rfl, fun _ => hC.out, fun _ => trivial, BF.out _⟩
    | exact ⟨rfl, hC.out, BF.out _⟩
set_option maxHeartbeats 1000000 in
theorem size_any (x : Ex) (lo : Nat → Prop) (v : Value) (w : World) (hx : ExIn w lo v x) (hsz : (x.pre 1).length ≤ 1048576) :
    Calls Tryz.prog 16 #[v] w fun e w' => e = .returned (.int .i64 ((x.pre 1).length : Int)) ∧ Below w.heap.size w w' := by
  obtain ⟨o1, n1, t1, k1, s1, p1, m1, c1, a1, rfl⟩ := hx.agg
  have b1 : Below w.heap.size w ((w.alloc (.cells #[.string o1, .string n1, .int .i64 t1, .int .i64 k1, .string s1, .slice p1 m1 c1, .int .i64 a1] 26)).alloc (.cells #[.int .i64 0] 3)) := (al w _).trans ((al _ _).mono (by simp))
  have cW := walk_any fsz 33 (fun args W => by kernel_rfl) (w.heap.size + 1) (SizIn (w.heap.size + 1)) (fun _ _ => True) (fun b => lo b ∧ b < w.heap.size) _ _ x 0 (by simp) ((ExIn.low (fun b h1 h2 => ⟨h2, h1⟩) _ _ hx).on b1) (fun b h1 _ => by have := h1.2; omega) hsz
    (fun W v y d s m _ hy hd hs => sz1_any _ W v _ y d s m hy hd hs)
    (fun W W' s m hb hz hs => by
      obtain ⟨h1, h2, h3, h4⟩ := hs
      exact ⟨by rw [hb.cell (p := ⟨w.heap.size + 1, 0, none⟩) (by simp)]; exact h1, by rw [hb.frozen (p := ⟨w.heap.size + 1, 0, none⟩) (by simp)]; exact h2, by omega, h4⟩)
    ⟨by rw [World.cell?_alloc_at _ _ _ _ (by simp)]; rfl, by rw [World.frozen?_alloc_at _ _ _ _ (by simp)], by simp, by omega⟩
  rw [fold_sz, Nat.zero_add] at cW
  simp only at cW
  generalize (x.pre 1).length = L at cW ⊢
  clear hx hsz
  go_enter Tryz.func16, Tryz.ntmps16
  go_wp2_with fail
  refine cW.mono ?_
  rintro e w2 ⟨rfl, hst, _, b2⟩
  have b3 : Below w.heap.size w w2 := b1.trans (b2.below.mono (by omega))
  obtain ⟨c0, _, hl, _⟩ := hst (by first | trivial | rfl)
  clear cW b1 b2
  go_wp2
  go_ret
  exact ⟨rfl, b3⟩
end Go.Proofs.YtknibfhoecgjlaaGreatDoor
