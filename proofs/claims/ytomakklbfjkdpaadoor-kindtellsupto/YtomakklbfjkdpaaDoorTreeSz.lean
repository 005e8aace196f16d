/-
  The document's Size, deep and Small (package sluiceref1), at any expression that is not too great.
-/
import Derived.Test.YtomakklbfjkdpaaDoorTreeEx
namespace Go.Proofs.YtomakklbfjkdpaaDoor
open Go.RowKit
set_option linter.unusedVariables false

theorem sizes_take {l : List Ex} {k : Nat} (h : k < l.length) : Ex.sizes (l.take (k + 1)) = Ex.sizes (l.take k) + l[k].size := by
  induction l generalizing k with
  | nil => simp at h
  | cons x xs ih =>
    cases k with
    | zero => simp [Ex.sizes]
    | succ k =>
      rw [List.take_succ_cons, List.take_succ_cons, Ex.sizes, Ex.sizes, ih (by simpa using h)]
      simp only [List.getElem_cons_succ]
      omega
theorem sizes_take_le (l : List Ex) (k : Nat) : Ex.sizes (l.take k) ≤ Ex.sizes l := by
  induction l generalizing k with
  | nil => simp
  | cons x xs ih =>
    cases k with
    | zero => simp [Ex.sizes]
    | succ k =>
      rw [List.take_succ_cons, Ex.sizes, Ex.sizes]
      have := ih k
      omega
theorem size_arg {l : List Ex} {k : Nat} (h : k < l.length) : l[k].size ≤ Ex.sizes l := by
  have h1 := sizes_take h
  have h2 := sizes_take_le l (k + 1)
  omega
theorem deeps_take {l : List Ex} {k : Nat} (h : k < l.length) : Ex.deeps (l.take (k + 1)) = max (Ex.deeps (l.take k)) l[k].deep := by
  induction l generalizing k with
  | nil => simp at h
  | cons x xs ih =>
    cases k with
    | zero => simp [Ex.deeps]
    | succ k =>
      rw [List.take_succ_cons, List.take_succ_cons, Ex.deeps, Ex.deeps, ih (by simpa using h)]
      simp only [List.getElem_cons_succ]
      omega
theorem deep_le : ∀ x : Ex, x.deep ≤ x.size := by
  refine Ex.ind fun op nm vt vn vs pos args ih => ?_
  rw [Ex.deep, Ex.size]
  have key : ∀ l : List Ex, (∀ y ∈ l, y.deep ≤ y.size) → Ex.deeps l ≤ Ex.sizes l := by
    intro l
    induction l with
    | nil => intro _; simp [Ex.deeps, Ex.sizes]
    | cons x xs ih2 =>
      intro h
      rw [Ex.deeps, Ex.sizes]
      have h1 := h x List.mem_cons_self
      have h2 := ih2 (fun y hy => h y (List.mem_cons_of_mem _ hy))
      omega
  have := key args ih
  omega
/-- The cells of an expression that was handed in stay in its own block. -/
theorem box_kept {w wr : World} {cs : Array Value} (h : Below (w.heap.size + 1) (w.alloc (.cells cs 27)) wr) (i : Nat) : wr.cell? ⟨w.heap.size, i, none⟩ = cs[i]? := by
  rw [h.cell (p := ⟨w.heap.size, i, none⟩) (Nat.lt_succ_self _), World.cell?_alloc_at _ _ _ _ rfl]
theorem box_below {w wr : World} {cs : Array Value} (h : Below (w.heap.size + 1) (w.alloc (.cells cs 27)) wr) : Below w.heap.size w wr :=
  ((Below.refl _ _).alloc (Nat.le_refl _) _).trans (h.mono (Nat.le_succ _))
theorem box_size {w wr : World} {cs : Array Value} (h : Below (w.heap.size + 1) (w.alloc (.cells cs 27)) wr) : w.heap.size + 1 ≤ wr.heap.size := by
  have := h.size
  simpa using this
set_option maxHeartbeats 4000000 in
set_option maxRecDepth 20000 in
theorem refSize_any : ∀ (x : Ex) (lo : Nat → Prop) (v : Value) (w : World), ExIn w lo v x → x.size ≤ 1048576 →
    Calls Tryd.prog 62 #[v] w fun e w' => e = .returned (.int .i64 (x.size : Nat)) ∧ Below w.heap.size w w' := by
  refine Ex.ind fun op nm vt vn vs pos args ih lo v w h hsz => ?_
  rw [ExIn] at h
  obtain ⟨p, c, rfl, ⟨hm, _⟩, _, _, _, h5⟩ := h
  rw [Ex.size] at hsz ⊢
  obtain ⟨S, hS⟩ : ∃ S, 1 + Ex.sizes args = S := ⟨_, rfl⟩
  have HS : Hid (1 + Ex.sizes args = S) := hS
  rw [hS] at hsz ⊢
  have HI : Hid (∀ y ∈ args, ∀ (lo : Nat → Prop) (v : Value) (w : World), ExIn w lo v y → y.size ≤ 1048576 → Calls Tryd.prog 62 #[v] w fun e w' => e = .returned (.int .i64 (y.size : Nat)) ∧ Below w.heap.size w w') := ih
  unfold maxLen at hm
  clear ih hS
  go_enter Tryd.func62, Tryd.ntmps62
  go_wp2
  go_loopg [3, 4, 5] args.length (fun gg s3 s4 _ wr => ∃ (kk N : Nat), kk ≤ args.length ∧ args.length - kk ≤ gg ∧ s4 = .int .i64 kk ∧ s3 = .int .i64 N ∧ N ≤ S ∧ Hid (N = 1 + Ex.sizes (args.take kk)) ∧ Aside (Below (w.heap.size + 1) (w.alloc (.cells #[.string op, .string nm, .int .i64 vt, .int .i64 vn, .string vs, .slice p args.length c, .int .i64 pos] 27)) wr))
  case atStart => exact ⟨0, 1, Nat.zero_le _, by omega, rfl, rfl, by have := HS.out; omega, rfl, (show Aside _ from Below.refl _ _)⟩
  case round =>
    obtain ⟨kk, N, hkk, hg, rfl, rfl, hN, HN, BW⟩ := hrel
    have q5 := box_kept BW.out 5
    simp at q5
    have ql := box_size BW.out
    by_cases hlt : kk < args.length
    · have hltz : (kk : Int) < (args.length : Int) := by omega
      have k0 : (0 : Int) ≤ (kk : Int) := by omega
      rcases h5 with h0 | ⟨b, off, rfl, hbl, hlo, h5⟩
      · exact absurd h0 (by omega)
      obtain ⟨v0, v1, v2, v3, v4, v5, v6, e0, e1, e2, e3, e4, e5, e6, hx⟩ := exsIn_at w lo b args off h5 kk hlt
      have hb := box_below BW.out
      have key : ∀ o : Nat, wr.cell? ⟨b, o, none⟩ = w.cell? ⟨b, o, none⟩ := fun o => hb.cell (p := ⟨b, o, none⟩) hbl
      rw [← key] at e0 e1 e2 e3 e4 e5 e6
      have hblr : b < wr.heap.size := by omega
      have hsa : args[kk].size ≤ 1048576 := by have := size_arg hlt; have := HS.out; omega
      have cI := HI.out _ (List.getElem_mem hlt) lo _ wr (hx.on hb) hsa
      have HN2 : Hid (N + args[kk].size = 1 + Ex.sizes (args.take (kk + 1))) := by
        show _ = _
        rw [sizes_take hlt, HN.out]; omega
      have hN2 : N + args[kk].size ≤ S := by
        have h1 := HN2.out
        have h2 := sizes_take_le args (kk + 1)
        have h3 := HS.out
        omega
      generalize args[kk].size = m at cI HN2 hN2 hsa
      clear key hx h5 HN hb
      go_wp2_with fail
      refine cI.mono ?_
      rintro e w1 ⟨rfl, b1⟩
      have B1 := BW.out.trans (b1.mono ql)
      go_wp2
      go_roundg (args.length - (kk + 1))
      case measure => omega
      case rel => exact ⟨kk + 1, N + m, by omega, by omega, by go_num, by go_num, hN2, HN2, B1⟩
    · have hltz : ¬ (kk : Int) < (args.length : Int) := by omega
      have HF : N = S := by rw [HN.out, List.take_of_length_le (by omega)]; exact HS.out
      subst HF
      clear HN
      go_wp2
      go_ret
      exact ⟨rfl, box_below BW.out⟩
theorem deeps_take_le (l : List Ex) (k : Nat) : Ex.deeps (l.take k) ≤ Ex.deeps l := by
  induction l generalizing k with
  | nil => simp
  | cons x xs ih =>
    cases k with
    | zero => simp [Ex.deeps]
    | succ k =>
      rw [List.take_succ_cons, Ex.deeps, Ex.deeps]
      have := ih k
      omega
set_option maxHeartbeats 4000000 in
set_option maxRecDepth 20000 in
theorem refDeep_any : ∀ (x : Ex) (lo : Nat → Prop) (v : Value) (w : World), ExIn w lo v x → x.size ≤ 1048576 →
    Calls Tryd.prog 63 #[v] w fun e w' => e = .returned (.int .i64 (x.deep : Nat)) ∧ Below w.heap.size w w' := by
  refine Ex.ind fun op nm vt vn vs pos args ih lo v w h hsz => ?_
  rw [ExIn] at h
  obtain ⟨p, c, rfl, ⟨hm, _⟩, _, _, _, h5⟩ := h
  have hdz := deep_le (.node op nm vt vn vs pos args)
  rw [Ex.size] at hsz hdz
  rw [Ex.deep] at hdz ⊢
  obtain ⟨S, hS⟩ : ∃ S, Ex.deeps args + 1 = S := ⟨_, rfl⟩
  have HS : Hid (Ex.deeps args + 1 = S) := hS
  have HZ : Hid (1 + Ex.sizes args ≤ 1048576) := hsz
  rw [hS] at hdz ⊢
  have hsz : S ≤ 1048576 := by omega
  clear hdz
  have HI : Hid (∀ y ∈ args, ∀ (lo : Nat → Prop) (v : Value) (w : World), ExIn w lo v y → y.size ≤ 1048576 → Calls Tryd.prog 63 #[v] w fun e w' => e = .returned (.int .i64 (y.deep : Nat)) ∧ Below w.heap.size w w') := ih
  unfold maxLen at hm
  clear ih hS
  go_enter Tryd.func63, Tryd.ntmps63
  go_wp2
  go_loopg [3, 4, 5] args.length (fun gg s3 s4 _ wr => ∃ (kk N : Nat), kk ≤ args.length ∧ args.length - kk ≤ gg ∧ s4 = .int .i64 kk ∧ s3 = .int .i64 N ∧ N < S ∧ Hid (N = Ex.deeps (args.take kk)) ∧ Aside (Below (w.heap.size + 1) (w.alloc (.cells #[.string op, .string nm, .int .i64 vt, .int .i64 vn, .string vs, .slice p args.length c, .int .i64 pos] 27)) wr))
  case atStart => exact ⟨0, 0, Nat.zero_le _, by omega, rfl, rfl, by have := HS.out; omega, rfl, (show Aside _ from Below.refl _ _)⟩
  case round =>
    obtain ⟨kk, N, hkk, hg, rfl, rfl, hN, HN, BW⟩ := hrel
    have q5 := box_kept BW.out 5
    simp at q5
    have ql := box_size BW.out
    by_cases hlt : kk < args.length
    · have hltz : (kk : Int) < (args.length : Int) := by omega
      have k0 : (0 : Int) ≤ (kk : Int) := by omega
      rcases h5 with h0 | ⟨b, off, rfl, hbl, hlo, h5⟩
      · exact absurd h0 (by omega)
      obtain ⟨v0, v1, v2, v3, v4, v5, v6, e0, e1, e2, e3, e4, e5, e6, hx⟩ := exsIn_at w lo b args off h5 kk hlt
      have hb := box_below BW.out
      have key : ∀ o : Nat, wr.cell? ⟨b, o, none⟩ = w.cell? ⟨b, o, none⟩ := fun o => hb.cell (p := ⟨b, o, none⟩) hbl
      rw [← key] at e0 e1 e2 e3 e4 e5 e6
      have hblr : b < wr.heap.size := by omega
      have hsa : args[kk].size ≤ 1048576 := by have := size_arg hlt; have := HZ.out; omega
      have cI := HI.out _ (List.getElem_mem hlt) lo _ wr (hx.on hb) hsa
      have HN2 : Hid (max N args[kk].deep = Ex.deeps (args.take (kk + 1))) := by
        show _ = _
        rw [deeps_take hlt, HN.out]
      have hN2 : max N args[kk].deep < S := by
        have h1 := HN2.out
        have h2 := deeps_take_le args (kk + 1)
        have h3 := HS.out
        omega
      generalize args[kk].deep = m at cI HN2 hN2
      clear key hx h5 HN hb hsa
      go_wp2_with fail
      refine cI.mono ?_
      rintro e w1 ⟨rfl, b1⟩
      have B1 := BW.out.trans (b1.mono ql)
      by_cases hgt : N < m
      · have hgz : (N : Int) < (m : Int) := by omega
        have HN3 : Hid (m = Ex.deeps (args.take (kk + 1))) := by
          show _ = _
          rw [← HN2.out]; omega
        go_wp2
        go_roundg (args.length - (kk + 1))
        case measure => omega
        case rel => exact ⟨kk + 1, m, by omega, by omega, by go_num, rfl, by omega, HN3, B1⟩
      · have hgz : ¬ (N : Int) < (m : Int) := by omega
        have HN3 : Hid (N = Ex.deeps (args.take (kk + 1))) := by
          show _ = _
          rw [← HN2.out]; omega
        go_wp2
        go_roundg (args.length - (kk + 1))
        case measure => omega
        case rel => exact ⟨kk + 1, N, by omega, by omega, by go_num, rfl, by omega, HN3, B1⟩
    · have hltz : ¬ (kk : Int) < (args.length : Int) := by omega
      have HF : N + 1 = S := by rw [HN.out, List.take_of_length_le (by omega)]; exact HS.out
      subst HF
      clear HN
      go_wp2
      go_ret
      exact ⟨by go_num, box_below BW.out⟩
/-- Are there no more than may be? -/
def Ex.small (x : Ex) : Bool := decide (x.size ≤ 200) && decide (x.deep ≤ 30)
set_option maxHeartbeats 1000000 in
theorem refSmall_any (x : Ex) (lo : Nat → Prop) (v : Value) (w : World) (h : ExIn w lo v x) (hsz : x.size ≤ 1048576) :
    Calls Tryd.prog 42 #[v] w fun e w' => e = .returned (.bool x.small) ∧ Below w.heap.size w w' := by
  have cS := refSize_any x lo v
  have cD := fun (W : World) (hh : ExIn W lo v x) => refDeep_any x lo v W hh hsz
  have hd := deep_le x
  have HX : Hid (x.small = (decide (x.size ≤ 200) && decide (x.deep ≤ 30))) := rfl
  obtain ⟨p, c, op, nm, vt, vn, vs, pos, args, hv⟩ : ∃ p c op nm vt vn vs pos args, x = .node op nm vt vn vs pos args ∧ v = .agg #[.string op, .string nm, .int .i64 vt, .int .i64 vn, .string vs, .slice p args.length c, .int .i64 pos] := by
    cases x with
    | node op nm vt vn vs pos args =>
      have h' := h
      rw [ExIn] at h'
      obtain ⟨p, c, hv, _⟩ := h'
      exact ⟨p, c, op, nm, vt, vn, vs, pos, args, rfl, hv⟩
  have B0 := (Below.refl w.heap.size w).alloc (Nat.le_refl _) (.cells #[.string op, .string nm, .int .i64 vt, .int .i64 vn, .string vs, .slice p args.length c, .int .i64 pos] 27)
  have h1 := h.on B0
  obtain ⟨_, rfl⟩ := hv
  generalize x.size = n at cS hsz HX hd
  generalize x.deep = d at cD hd HX
  obtain ⟨R, hR⟩ : ∃ R, x.small = R := ⟨_, rfl⟩
  rw [hR] at HX ⊢
  clear hR
  go_enter Tryd.func42, Tryd.ntmps42
  go_wp2_with fail
  refine (cS _ h1 hsz).mono ?_
  rintro e w1 ⟨rfl, b1⟩
  have B1 := B0.trans (b1.mono B0.size)
  have h2 := h1.on b1
  have q := fun i => box_kept (w := w) (wr := w1) (cs := #[.string op, .string nm, .int .i64 vt, .int .i64 vn, .string vs, .slice p args.length c, .int .i64 pos]) (b1.mono (by simp)) i
  have q0 := q 0
  have q1 := q 1
  have q2 := q 2
  have q3 := q 3
  have q4 := q 4
  have q5 := q 5
  have q6 := q 6
  simp at q0 q1 q2 q3 q4 q5 q6
  have ql : w.heap.size < w1.heap.size := by have := b1.size; simp at this; omega
  clear q cS
  go_wp2_with fail
  refine (cD _ h2).mono ?_
  rintro e w2 ⟨rfl, b2⟩
  have B2 := B1.trans (b2.mono B1.size)
  clear cD q0 q1 q2 q3 q4 q5 q6
  by_cases hn : n ≤ 200
  · have hnz : (n : Int) ≤ 200 := by omega
    by_cases hd : d ≤ 30
    · have hdz : (d : Int) ≤ 30 := by omega
      have HX2 : R = true := by rw [HX.out]; simp [hn, hd]
      subst HX2
      clear HX
      go_wp2
      go_ret
      exact ⟨rfl, B2⟩
    · have hdz : ¬ (d : Int) ≤ 30 := by omega
      have HX2 : R = false := by rw [HX.out]; simp [hd]
      subst HX2
      clear HX
      go_wp2
      go_ret
      exact ⟨congrArg (fun b => Ending.returned (.bool b)) (decide_eq_false (by omega)), B2⟩
  · have hnz : ¬ (n : Int) ≤ 200 := by omega
    have HX2 : R = false := by rw [HX.out]; simp [hn]
    subst HX2
    clear HX
    go_wp2
    go_ret
    exact ⟨rfl, B2⟩
end Go.Proofs.YtomakklbfjkdpaaDoor
