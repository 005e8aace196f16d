/-
  TreeSz, RefNd, TreeNm, RefNo, RefNod, in one text.
-/
import Derived.Test.YtfhlhdddhgkinaaGreatDoorGrAc
import Derived.Test.YtfhlhdddhgkinaaGreatDoorGrAl
import Derived.Test.YtfhlhdddhgkinaaGreatDoorGrAt
import Derived.WalkSmall
import Derived.Test.YtfhlhdddhgkinaaGreatDoorGrAs
import Derived.Test.YtfhlhdddhgkinaaGreatDoorGrAm
namespace Go.Proofs.YtfhlhdddhgkinaaGreatDoor
open Go.RowKit
set_option linter.unusedVariables false

theorem sizes_take {l : List Ex} {k : Nat} (h : k < l.length) : Ex.sizes (l.take (k + 1)) = Ex.sizes (l.take k) + l[k].size := by
  induction l generalizing k with
  | nil => simp at h
  | cons x xs ih =>
    cases k with
    | zero => simp [Ex.sizes]
    | succ k =>
      rw [List.take_succ_cons, List.take_succ_cons, Ex.sizes, Ex.sizes, ih (by simpa using h)]
      simp only [List.getElem_cons_succ]
      omega
theorem sizes_take_le (l : List Ex) (k : Nat) : Ex.sizes (l.take k) ≤ Ex.sizes l := by
  induction l generalizing k with
  | nil => simp
  | cons x xs ih =>
    cases k with
    | zero => simp [Ex.sizes]
    | succ k =>
      rw [List.take_succ_cons, Ex.sizes, Ex.sizes]
      have := ih k
      omega
theorem size_arg {l : List Ex} {k : Nat} (h : k < l.length) : l[k].size ≤ Ex.sizes l := by
  have h1 := sizes_take h
  have h2 := sizes_take_le l (k + 1)
  omega
theorem deeps_take {l : List Ex} {k : Nat} (h : k < l.length) : Ex.deeps (l.take (k + 1)) = max (Ex.deeps (l.take k)) l[k].deep := by
  induction l generalizing k with
  | nil => simp at h
  | cons x xs ih =>
    cases k with
    | zero => simp [Ex.deeps]
    | succ k =>
      rw [List.take_succ_cons, List.take_succ_cons, Ex.deeps, Ex.deeps, ih (by simpa using h)]
      simp only [List.getElem_cons_succ]
      omega
theorem deep_le : ∀ x : Ex, x.deep ≤ x.size := by
  refine Ex.ind fun op nm vt vn vs pos args ih => ?_
  rw [Ex.deep, Ex.size]
  have key : ∀ l : List Ex, (∀ y ∈ l, y.deep ≤ y.size) → Ex.deeps l ≤ Ex.sizes l := by
    intro l
    induction l with
    | nil => intro _; simp [Ex.deeps, Ex.sizes]
    | cons x xs ih2 =>
      intro h
      rw [Ex.deeps, Ex.sizes]
      have h1 := h x List.mem_cons_self
      have h2 := ih2 (fun y hy => h y (List.mem_cons_of_mem _ hy))
      omega
  have := key args ih
  omega
/-- The cells of an expression that was handed in stay in its own block. -/
theorem box_kept {w wr : World} {cs : Array Value} (h : Below (w.heap.size + 1) (w.alloc (.cells cs 26)) wr) (i : Nat) : wr.cell? ⟨w.heap.size, i, none⟩ = cs[i]? := by
  rw [h.cell (p := ⟨w.heap.size, i, none⟩) (Nat.lt_succ_self _), World.cell?_alloc_at _ _ _ _ rfl]
theorem box_below {w wr : World} {cs : Array Value} (h : Below (w.heap.size + 1) (w.alloc (.cells cs 26)) wr) : Below w.heap.size w wr :=
  ((Below.refl _ _).alloc (Nat.le_refl _) _).trans (h.mono (Nat.le_succ _))
theorem box_size {w wr : World} {cs : Array Value} (h : Below (w.heap.size + 1) (w.alloc (.cells cs 26)) wr) : w.heap.size + 1 ≤ wr.heap.size := by
  have := h.size
  simpa using this
set_option maxHeartbeats 4000000 in
set_option maxRecDepth 20000 in
theorem refSize_any : ∀ (x : Ex) (lo : Nat → Prop) (v : Value) (w : World), ExIn w lo v x → x.size ≤ 1048576 →
    Calls Tryz.prog 85 #[v] w fun e w' => e = .returned (.int .i64 (x.size : Nat)) ∧ Below w.heap.size w w' := by
  refine Ex.ind fun op nm vt vn vs pos args ih lo v w h hsz => ?_
  rw [ExIn] at h
  obtain ⟨p, c, rfl, ⟨hm, _⟩, _, _, _, h5⟩ := h
  rw [Ex.size] at hsz ⊢
  obtain ⟨S, hS⟩ : ∃ S, 1 + Ex.sizes args = S := ⟨_, rfl⟩
  have HS : Hid (1 + Ex.sizes args = S) := hS
  rw [hS] at hsz ⊢
  have HI : Hid (∀ y ∈ args, ∀ (lo : Nat → Prop) (v : Value) (w : World), ExIn w lo v y → y.size ≤ 1048576 → Calls Tryz.prog 85 #[v] w fun e w' => e = .returned (.int .i64 (y.size : Nat)) ∧ Below w.heap.size w w') := ih
  unfold maxLen at hm
  clear ih hS
  go_enter Tryz.func85, Tryz.ntmps85
  go_wp2
  go_loopg [3, 4, 5] args.length (fun gg s3 s4 _ wr => ∃ (kk N : Nat), kk ≤ args.length ∧ args.length - kk ≤ gg ∧ s4 = .int .i64 kk ∧ s3 = .int .i64 N ∧ N ≤ S ∧ Hid (N = 1 + Ex.sizes (args.take kk)) ∧ Aside (Below (w.heap.size + 1) (w.alloc (.cells #[.string op, .string nm, .int .i64 vt, .int .i64 vn, .string vs, .slice p args.length c, .int .i64 pos] 26)) wr))
  case atStart => exact ⟨0, 1, Nat.zero_le _, by omega, rfl, rfl, by have := HS.out; omega, rfl, (show Aside _ from Below.refl _ _)⟩
  case round =>
    obtain ⟨kk, N, hkk, hg, rfl, rfl, hN, HN, BW⟩ := hrel
    have q5 := box_kept BW.out 5
    simp at q5
    have ql := box_size BW.out
    by_cases hlt : kk < args.length
    · have hltz : (kk : Int) < (args.length : Int) := by omega
      have k0 : (0 : Int) ≤ (kk : Int) := by omega
      rcases h5 with h0 | ⟨b, off, rfl, hbl, hlo, h5⟩
      · exact absurd h0 (by omega)
      obtain ⟨v0, v1, v2, v3, v4, v5, v6, e0, e1, e2, e3, e4, e5, e6, hx⟩ := exsIn_at w lo b args off h5 kk hlt
      have hb := box_below BW.out
      have key : ∀ o : Nat, wr.cell? ⟨b, o, none⟩ = w.cell? ⟨b, o, none⟩ := fun o => hb.cell (p := ⟨b, o, none⟩) hbl
      rw [← key] at e0 e1 e2 e3 e4 e5 e6
      have hblr : b < wr.heap.size := by omega
      have hsa : args[kk].size ≤ 1048576 := by have := size_arg hlt; have := HS.out; omega
      have cI := HI.out _ (List.getElem_mem hlt) lo _ wr (hx.on hb) hsa
      have HN2 : Hid (N + args[kk].size = 1 + Ex.sizes (args.take (kk + 1))) := by
        show _ = _
        rw [sizes_take hlt, HN.out]; omega
      have hN2 : N + args[kk].size ≤ S := by
        have h1 := HN2.out
        have h2 := sizes_take_le args (kk + 1)
        have h3 := HS.out
        omega
      generalize args[kk].size = m at cI HN2 hN2 hsa
      clear key hx h5 HN hb
      go_wp2_with fail
      refine cI.mono ?_
      rintro e w1 ⟨rfl, b1⟩
      have B1 := BW.out.trans (b1.mono ql)
      go_wp2
      go_roundg (args.length - (kk + 1))
      case measure => omega
      case rel => exact ⟨kk + 1, N + m, by omega, by omega, by go_num, by go_num, hN2, HN2, B1⟩
    · have hltz : ¬ (kk : Int) < (args.length : Int) := by omega
      have HF : N = S := by rw [HN.out, List.take_of_length_le (by omega)]; exact HS.out
      subst HF
      clear HN
      go_wp2
      go_ret
      exact ⟨rfl, box_below BW.out⟩
theorem deeps_take_le (l : List Ex) (k : Nat) : Ex.deeps (l.take k) ≤ Ex.deeps l := by
  induction l generalizing k with
  | nil => simp
  | cons x xs ih =>
    cases k with
    | zero => simp [Ex.deeps]
    | succ k =>
      rw [List.take_succ_cons, Ex.deeps, Ex.deeps]
      have := ih k
      omega
set_option maxHeartbeats 4000000 in
set_option maxRecDepth 20000 in
theorem refDeep_any : ∀ (x : Ex) (lo : Nat → Prop) (v : Value) (w : World), ExIn w lo v x → x.size ≤ 1048576 →
    Calls Tryz.prog 86 #[v] w fun e w' => e = .returned (.int .i64 (x.deep : Nat)) ∧ Below w.heap.size w w' := by
  refine Ex.ind fun op nm vt vn vs pos args ih lo v w h hsz => ?_
  rw [ExIn] at h
  obtain ⟨p, c, rfl, ⟨hm, _⟩, _, _, _, h5⟩ := h
  have hdz := deep_le (.node op nm vt vn vs pos args)
  rw [Ex.size] at hsz hdz
  rw [Ex.deep] at hdz ⊢
  obtain ⟨S, hS⟩ : ∃ S, Ex.deeps args + 1 = S := ⟨_, rfl⟩
  have HS : Hid (Ex.deeps args + 1 = S) := hS
  have HZ : Hid (1 + Ex.sizes args ≤ 1048576) := hsz
  rw [hS] at hdz ⊢
  have hsz : S ≤ 1048576 := by omega
  clear hdz
  have HI : Hid (∀ y ∈ args, ∀ (lo : Nat → Prop) (v : Value) (w : World), ExIn w lo v y → y.size ≤ 1048576 → Calls Tryz.prog 86 #[v] w fun e w' => e = .returned (.int .i64 (y.deep : Nat)) ∧ Below w.heap.size w w') := ih
  unfold maxLen at hm
  clear ih hS
  go_enter Tryz.func86, Tryz.ntmps86
  go_wp2
  go_loopg [3, 4, 5] args.length (fun gg s3 s4 _ wr => ∃ (kk N : Nat), kk ≤ args.length ∧ args.length - kk ≤ gg ∧ s4 = .int .i64 kk ∧ s3 = .int .i64 N ∧ N < S ∧ Hid (N = Ex.deeps (args.take kk)) ∧ Aside (Below (w.heap.size + 1) (w.alloc (.cells #[.string op, .string nm, .int .i64 vt, .int .i64 vn, .string vs, .slice p args.length c, .int .i64 pos] 26)) wr))
  case atStart => exact ⟨0, 0, Nat.zero_le _, by omega, rfl, rfl, by have := HS.out; omega, rfl, (show Aside _ from Below.refl _ _)⟩
  case round =>
    obtain ⟨kk, N, hkk, hg, rfl, rfl, hN, HN, BW⟩ := hrel
    have q5 := box_kept BW.out 5
    simp at q5
    have ql := box_size BW.out
    by_cases hlt : kk < args.length
    · have hltz : (kk : Int) < (args.length : Int) := by omega
      have k0 : (0 : Int) ≤ (kk : Int) := by omega
      rcases h5 with h0 | ⟨b, off, rfl, hbl, hlo, h5⟩
      · exact absurd h0 (by omega)
      obtain ⟨v0, v1, v2, v3, v4, v5, v6, e0, e1, e2, e3, e4, e5, e6, hx⟩ := exsIn_at w lo b args off h5 kk hlt
      have hb := box_below BW.out
      have key : ∀ o : Nat, wr.cell? ⟨b, o, none⟩ = w.cell? ⟨b, o, none⟩ := fun o => hb.cell (p := ⟨b, o, none⟩) hbl
      rw [← key] at e0 e1 e2 e3 e4 e5 e6
      have hblr : b < wr.heap.size := by omega
      have hsa : args[kk].size ≤ 1048576 := by have := size_arg hlt; have := HZ.out; omega
      have cI := HI.out _ (List.getElem_mem hlt) lo _ wr (hx.on hb) hsa
      have HN2 : Hid (max N args[kk].deep = Ex.deeps (args.take (kk + 1))) := by
        show _ = _
        rw [deeps_take hlt, HN.out]
      have hN2 : max N args[kk].deep < S := by
        have h1 := HN2.out
        have h2 := deeps_take_le args (kk + 1)
        have h3 := HS.out
        omega
      generalize args[kk].deep = m at cI HN2 hN2
      clear key hx h5 HN hb hsa
      go_wp2_with fail
      refine cI.mono ?_
      rintro e w1 ⟨rfl, b1⟩
      have B1 := BW.out.trans (b1.mono ql)
      by_cases hgt : N < m
      · have hgz : (N : Int) < (m : Int) := by omega
        have HN3 : Hid (m = Ex.deeps (args.take (kk + 1))) := by
          show _ = _
          rw [← HN2.out]; omega
        go_wp2
        go_roundg (args.length - (kk + 1))
        case measure => omega
        case rel => exact ⟨kk + 1, m, by omega, by omega, by go_num, rfl, by omega, HN3, B1⟩
      · have hgz : ¬ (N : Int) < (m : Int) := by omega
        have HN3 : Hid (N = Ex.deeps (args.take (kk + 1))) := by
          show _ = _
          rw [← HN2.out]; omega
        go_wp2
        go_roundg (args.length - (kk + 1))
        case measure => omega
        case rel => exact ⟨kk + 1, N, by omega, by omega, by go_num, rfl, by omega, HN3, B1⟩
    · have hltz : ¬ (kk : Int) < (args.length : Int) := by omega
      have HF : N + 1 = S := by rw [HN.out, List.take_of_length_le (by omega)]; exact HS.out
      subst HF
      clear HN
      go_wp2
      go_ret
      exact ⟨by go_num, box_below BW.out⟩
/-- Are there no more than may be? -/
def Ex.small (x : Ex) : Bool := decide (x.size ≤ 200) && decide (x.deep ≤ 30)
set_option maxHeartbeats 1000000 in
theorem refSmall_any (x : Ex) (lo : Nat → Prop) (v : Value) (w : World) (h : ExIn w lo v x) (hsz : x.size ≤ 1048576) :
    Calls Tryz.prog 56 #[v] w fun e w' => e = .returned (.bool x.small) ∧ Below w.heap.size w w' := by
  have cS := refSize_any x lo v
  have cD := fun (W : World) (hh : ExIn W lo v x) => refDeep_any x lo v W hh hsz
  have hd := deep_le x
  have HX : Hid (x.small = (decide (x.size ≤ 200) && decide (x.deep ≤ 30))) := rfl
  obtain ⟨p, c, op, nm, vt, vn, vs, pos, args, hv⟩ : ∃ p c op nm vt vn vs pos args, x = .node op nm vt vn vs pos args ∧ v = .agg #[.string op, .string nm, .int .i64 vt, .int .i64 vn, .string vs, .slice p args.length c, .int .i64 pos] := by
    cases x with
    | node op nm vt vn vs pos args =>
      have h' := h
      rw [ExIn] at h'
      obtain ⟨p, c, hv, _⟩ := h'
      exact ⟨p, c, op, nm, vt, vn, vs, pos, args, rfl, hv⟩
  have B0 := (Below.refl w.heap.size w).alloc (Nat.le_refl _) (.cells #[.string op, .string nm, .int .i64 vt, .int .i64 vn, .string vs, .slice p args.length c, .int .i64 pos] 26)
  have h1 := h.on B0
  obtain ⟨_, rfl⟩ := hv
  generalize x.size = n at cS hsz HX hd
  generalize x.deep = d at cD hd HX
  obtain ⟨R, hR⟩ : ∃ R, x.small = R := ⟨_, rfl⟩
  rw [hR] at HX ⊢
  clear hR
  go_enter Tryz.func56, Tryz.ntmps56
  go_wp2_with fail
  refine (cS _ h1 hsz).mono ?_
  rintro e w1 ⟨rfl, b1⟩
  have B1 := B0.trans (b1.mono B0.size)
  have h2 := h1.on b1
  have q := fun i => box_kept (w := w) (wr := w1) (cs := #[.string op, .string nm, .int .i64 vt, .int .i64 vn, .string vs, .slice p args.length c, .int .i64 pos]) (b1.mono (by simp)) i
  have q0 := q 0
  have q1 := q 1
  have q2 := q 2
  have q3 := q 3
  have q4 := q 4
  have q5 := q 5
  have q6 := q 6
  simp at q0 q1 q2 q3 q4 q5 q6
  have ql : w.heap.size < w1.heap.size := by have := b1.size; simp at this; omega
  clear q cS
  go_wp2_with fail
  refine (cD _ h2).mono ?_
  rintro e w2 ⟨rfl, b2⟩
  have B2 := B1.trans (b2.mono B1.size)
  clear cD q0 q1 q2 q3 q4 q5 q6
  by_cases hn : n ≤ 200
  · have hnz : (n : Int) ≤ 200 := by omega
    by_cases hd : d ≤ 30
    · have hdz : (d : Int) ≤ 30 := by omega
      have HX2 : R = true := by rw [HX.out]; simp [hn, hd]
      subst HX2
      clear HX
      go_wp2
      go_ret
      exact ⟨rfl, B2⟩
    · have hdz : ¬ (d : Int) ≤ 30 := by omega
      have HX2 : R = false := by rw [HX.out]; simp [hd]
      subst HX2
      clear HX
      go_wp2
      go_ret
      exact ⟨congrArg (fun b => Ending.returned (.bool b)) (decide_eq_false (by omega)), B2⟩
  · have hnz : ¬ (n : Int) ≤ 200 := by omega
    have HX2 : R = false := by rw [HX.out]; simp [hn]
    subst HX2
    clear HX
    go_wp2
    go_ret
    exact ⟨rfl, B2⟩
end Go.Proofs.YtfhlhdddhgkinaaGreatDoor
namespace Go.Proofs.YtfhlhdddhgkinaaGreatDoor
open Go.RowKit Go.BigFrame
set_option linter.unusedVariables false

/-- The program's list of operations, and the document's Arity. -/
theorem arity_ops (x : List UInt8) : (apL x opsL).2 = decide (0 ≤ arityT x) ∧ (0 ≤ arityT x → (apL x opsL).1 = arityT x) := by
  by_cases h : x ∈ opsL.map (·.1)
  · have all : ∀ y ∈ opsL.map (·.1), (apL y opsL).2 = decide (0 ≤ arityT y) ∧ (0 ≤ arityT y → (apL y opsL).1 = arityT y) := by
      intro y hy
      simp only [opsL, List.map_cons, List.map_nil, List.mem_cons, List.not_mem_nil, or_false] at hy
      rcases hy with rfl | rfl | rfl | rfl | rfl | rfl | rfl | rfl | rfl | rfl | rfl | rfl | rfl | rfl | rfl | rfl | rfl | rfl | rfl <;> exact ⟨by decide, by decide⟩
    exact all x h
  · have hn : (apL x opsL).2 = false := by
      cases hf : (apL x opsL).2 with
      | false => rfl
      | true => exact absurd (List.mem_map.2 ⟨_, apL_mem hf, rfl⟩) h
    have ha : arityT x < 0 := by
      simp only [opsL, List.map_cons, List.map_nil, List.mem_cons, List.not_mem_nil, or_false, not_or] at h
      obtain ⟨n1, n2, n3, n4, n5, n6, n7, n8, n9, n10, n11, n12, n13, n14, n15, n16, n17, n18, n19⟩ := h
      unfold arityT
      rw [if_neg (by simp [n1, n2]), if_neg (by simp [n5, n17, n18]), if_neg n19]
      have hs : inSigns x = false := by
        unfold inSigns
        rw [Bool.eq_false_iff]
        intro ha
        rw [List.any_eq_true] at ha
        obtain ⟨y, hy, he⟩ := ha
        have he2 : y = x := by simpa using he
        subst he2
        simp [sgl] at hy
        rcases hy with h | h | h | h | h | h | h | h | h | h | h | h | h <;> simp_all
      rw [hs]
      decide
    exact ⟨by rw [hn]; symm; exact decide_eq_false (by omega), fun hh => by omega⟩
theorem size_pre : ∀ (x : Ex) (d : Nat), (x.pre d).length = x.size := by
  refine Ex.ind fun op nm vt vn vs pos l ih d => ?_
  rw [Ex.pre, Ex.size, List.length_cons]
  have : ∀ l : List Ex, (∀ y ∈ l, ∀ d, (y.pre d).length = y.size) → (Ex.pres (d + 1) l).length = Ex.sizes l := fun l => by
    induction l with
    | nil => intro _; rw [Ex.pres, Ex.sizes]; rfl
    | cons y ys ihl =>
      intro h
      rw [Ex.pres, Ex.sizes, List.length_append, h y (by simp), ihl fun z hz => h z (by simp [hz])]
  rw [this l ih]
  omega
theorem deep_pre : ∀ (x : Ex) (d m : Nat), (∀ q ∈ x.pre d, q.2 ≤ m) ↔ d + x.deep ≤ m + 1 := by
  refine Ex.ind fun op nm vt vn vs pos l ih d m => ?_
  have key : ∀ l : List Ex, (∀ y ∈ l, ∀ d m, (∀ q ∈ y.pre d, q.2 ≤ m) ↔ d + y.deep ≤ m + 1) → ((∀ q ∈ Ex.pres (d + 1) l, q.2 ≤ m) ↔ (l = [] ∨ d + 1 + Ex.deeps l ≤ m + 1)) := fun l => by
    induction l with
    | nil => intro _; rw [Ex.pres]; simp
    | cons y ys ihl =>
      intro h
      have i2 := ihl fun z hz => h z (by simp [hz])
      have hy := h y (by simp) (d + 1) m
      rw [Ex.pres, Ex.deeps]
      simp only [List.mem_append]
      constructor
      · intro hq
        have a1 := hy.1 fun q hq2 => hq q (.inl hq2)
        have a2 := i2.1 fun q hq2 => hq q (.inr hq2)
        right
        rcases a2 with rfl | a2
        · rw [Ex.deeps]; omega
        · omega
      · intro hq q hq2
        have hq3 : d + 1 + max y.deep (Ex.deeps ys) ≤ m + 1 := by simpa using hq
        rcases hq2 with hq2 | hq2
        · exact hy.2 (by omega) q hq2
        · exact i2.2 (.inr (by omega)) q hq2
  rw [Ex.pre, Ex.deep]
  have k := key l ih
  constructor
  · intro h
    have h0 := h _ (List.mem_cons_self ..)
    simp only at h0
    have h1 := k.1 fun q hq => h q (List.mem_cons_of_mem _ hq)
    rcases h1 with rfl | h1
    · rw [Ex.deeps]; omega
    · omega
  · intro h q hq
    rcases List.mem_cons.1 hq with rfl | hq
    · simp only; omega
    · exact k.2 (.inr (by omega)) q hq
/-- Too great, as the document says it. -/
theorem tg_small (x : Ex) : tgB x = !x.small := by
  have h := fold_tg (x.pre 1) 0
  rw [tgB, Ex.small]
  congr 1
  rw [Bool.eq_iff_iff, h, Bool.and_eq_true, decide_eq_true_eq, decide_eq_true_eq, size_pre, deep_pre]
  have hp : 1 ≤ x.size := by rw [← size_pre x 1, pre_eq]; simp
  constructor
  · rintro ⟨h1, h2⟩
    refine ⟨?_, by omega⟩
    rcases h1 with h1 | h1
    · have := congrArg List.length h1
      rw [size_pre] at this
      simp at this
      omega
    · omega
  · rintro ⟨h1, h2⟩
    exact ⟨.inr (by omega), by omega⟩
end Go.Proofs.YtfhlhdddhgkinaaGreatDoor
namespace Go.Proofs.YtfhlhdddhgkinaaGreatDoor
open Go.RowKit
set_option linter.unusedVariables false

def wordsA : Array Value := #[.string ⟨#[111, 114]⟩, .string ⟨#[97, 110, 100]⟩, .string ⟨#[110, 111, 116]⟩, .string ⟨#[116, 114, 117, 101]⟩, .string ⟨#[102, 97, 108, 115, 101]⟩, .string ⟨#[108, 101, 110]⟩, .string ⟨#[105, 102]⟩, .string ⟨#[115, 101, 108, 101, 99, 116]⟩, .string ⟨#[97, 115]⟩, .string ⟨#[102, 114, 111, 109]⟩, .string ⟨#[119, 104, 101, 114, 101]⟩, .string ⟨#[103, 114, 111, 117, 112]⟩, .string ⟨#[98, 121]⟩, .string ⟨#[119, 105, 110, 100, 111, 119]⟩, .string ⟨#[115, 108, 105, 100, 101]⟩, .string ⟨#[99, 111, 117, 110, 116]⟩, .string ⟨#[115, 117, 109]⟩, .string ⟨#[108, 101, 97, 115, 116]⟩, .string ⟨#[109, 111, 115, 116]⟩]
theorem words_at (k : Nat) (h : k < 19) : ∃ S : ByteArray, wordsA[k]? = some (.string S) ∧ wordsL[k]'h = S.data.toList := by
  have h : k = 0 ∨ k = 1 ∨ k = 2 ∨ k = 3 ∨ k = 4 ∨ k = 5 ∨ k = 6 ∨ k = 7 ∨ k = 8 ∨ k = 9 ∨ k = 10 ∨ k = 11 ∨ k = 12 ∨ k = 13 ∨ k = 14 ∨ k = 15 ∨ k = 16 ∨ k = 17 ∨ k = 18 := by omega
  rcases h with rfl | rfl | rfl | rfl | rfl | rfl | rfl | rfl | rfl | rfl | rfl | rfl | rfl | rfl | rfl | rfl | rfl | rfl | rfl
  · exact ⟨⟨#[111, 114]⟩, rfl, rfl⟩
  · exact ⟨⟨#[97, 110, 100]⟩, rfl, rfl⟩
  · exact ⟨⟨#[110, 111, 116]⟩, rfl, rfl⟩
  · exact ⟨⟨#[116, 114, 117, 101]⟩, rfl, rfl⟩
  · exact ⟨⟨#[102, 97, 108, 115, 101]⟩, rfl, rfl⟩
  · exact ⟨⟨#[108, 101, 110]⟩, rfl, rfl⟩
  · exact ⟨⟨#[105, 102]⟩, rfl, rfl⟩
  · exact ⟨⟨#[115, 101, 108, 101, 99, 116]⟩, rfl, rfl⟩
  · exact ⟨⟨#[97, 115]⟩, rfl, rfl⟩
  · exact ⟨⟨#[102, 114, 111, 109]⟩, rfl, rfl⟩
  · exact ⟨⟨#[119, 104, 101, 114, 101]⟩, rfl, rfl⟩
  · exact ⟨⟨#[103, 114, 111, 117, 112]⟩, rfl, rfl⟩
  · exact ⟨⟨#[98, 121]⟩, rfl, rfl⟩
  · exact ⟨⟨#[119, 105, 110, 100, 111, 119]⟩, rfl, rfl⟩
  · exact ⟨⟨#[115, 108, 105, 100, 101]⟩, rfl, rfl⟩
  · exact ⟨⟨#[99, 111, 117, 110, 116]⟩, rfl, rfl⟩
  · exact ⟨⟨#[115, 117, 109]⟩, rfl, rfl⟩
  · exact ⟨⟨#[108, 101, 97, 115, 116]⟩, rfl, rfl⟩
  · exact ⟨⟨#[109, 111, 115, 116]⟩, rfl, rfl⟩
theorem wany_take {l : List UInt8} {k : Nat} (h : k < wordsL.length) : (wordsL.take (k + 1)).any (· == l) = ((wordsL.take k).any (· == l) || wordsL[k] == l) := by
  rw [List.take_succ_eq_append_getElem h, List.any_append]
  simp only [List.any_cons, List.any_nil, Bool.or_false]
theorem wany_hit {l : List UInt8} {k : Nat} (h : k < wordsL.length) (he : (wordsL[k] == l) = true) : wordsL.any (· == l) = true := by
  rw [List.any_eq_true]
  exact ⟨_, List.getElem_mem h, he⟩
set_option maxHeartbeats 4000000 in
set_option maxRecDepth 20000 in
theorem refWord_any (s : ByteArray) (w : World) :
    Calls Tryz.prog 116 #[.string s] w fun e w' => e = .returned (.bool (wordsL.any (· == s.data.toList))) ∧ Below w.heap.size w w' := by
  obtain ⟨R, hR⟩ : ∃ R, wordsL.any (· == s.data.toList) = R := ⟨_, rfl⟩
  have HR : Hid (wordsL.any (· == s.data.toList) = R) := hR
  rw [hR]
  clear hR
  go_enter Tryz.func116, Tryz.ntmps116
  go_wp2
  go_loopg [4] 19 (fun gg s4 wr => ∃ kk : Nat, kk ≤ 19 ∧ 19 - kk ≤ gg ∧ s4 = .int .i64 kk ∧ wr = w.alloc (.cells #[.string ⟨#[111, 114]⟩, .string ⟨#[97, 110, 100]⟩, .string ⟨#[110, 111, 116]⟩, .string ⟨#[116, 114, 117, 101]⟩, .string ⟨#[102, 97, 108, 115, 101]⟩, .string ⟨#[108, 101, 110]⟩, .string ⟨#[105, 102]⟩, .string ⟨#[115, 101, 108, 101, 99, 116]⟩, .string ⟨#[97, 115]⟩, .string ⟨#[102, 114, 111, 109]⟩, .string ⟨#[119, 104, 101, 114, 101]⟩, .string ⟨#[103, 114, 111, 117, 112]⟩, .string ⟨#[98, 121]⟩, .string ⟨#[119, 105, 110, 100, 111, 119]⟩, .string ⟨#[115, 108, 105, 100, 101]⟩, .string ⟨#[99, 111, 117, 110, 116]⟩, .string ⟨#[115, 117, 109]⟩, .string ⟨#[108, 101, 97, 115, 116]⟩, .string ⟨#[109, 111, 115, 116]⟩] 9) ∧ Hid ((wordsL.take kk).any (· == s.data.toList) = false))
  case atStart => exact ⟨0, Nat.zero_le _, by omega, rfl, rfl, rfl⟩
  case round =>
    obtain ⟨kk, hkk, hg, rfl, rfl, HO⟩ := hrel
    by_cases hlt : kk < 19
    · have hltz : (kk : Int) < 19 := by omega
      have k0 : (0 : Int) ≤ (kk : Int) := by omega
      obtain ⟨S, hS, hS1⟩ := words_at kk hlt
      have hc : (w.alloc (.cells #[.string ⟨#[111, 114]⟩, .string ⟨#[97, 110, 100]⟩, .string ⟨#[110, 111, 116]⟩, .string ⟨#[116, 114, 117, 101]⟩, .string ⟨#[102, 97, 108, 115, 101]⟩, .string ⟨#[108, 101, 110]⟩, .string ⟨#[105, 102]⟩, .string ⟨#[115, 101, 108, 101, 99, 116]⟩, .string ⟨#[97, 115]⟩, .string ⟨#[102, 114, 111, 109]⟩, .string ⟨#[119, 104, 101, 114, 101]⟩, .string ⟨#[103, 114, 111, 117, 112]⟩, .string ⟨#[98, 121]⟩, .string ⟨#[119, 105, 110, 100, 111, 119]⟩, .string ⟨#[115, 108, 105, 100, 101]⟩, .string ⟨#[99, 111, 117, 110, 116]⟩, .string ⟨#[115, 117, 109]⟩, .string ⟨#[108, 101, 97, 115, 116]⟩, .string ⟨#[109, 111, 115, 116]⟩] 9)).cell? ⟨w.heap.size, kk, none⟩ = some (.string S) := by
        rw [World.cell?_alloc_at _ _ _ _ rfl]; exact hS
      cases hb : wordsL[kk] == s.data.toList
      · have hbt : (S.toList == s.toList) = false := by rw [Lib.toList_data, Lib.toList_data, ← hS1]; exact hb
        have HO2 : Hid ((wordsL.take (kk + 1)).any (· == s.data.toList) = false) := by
          show _ = _
          rw [wany_take hlt, HO.out, hb]; rfl
        clear hb hS hS1 HO
        go_wp2
        go_roundg (19 - (kk + 1))
        case measure => omega
        case rel => exact ⟨kk + 1, by omega, by omega, by go_num, rfl, HO2⟩
      · have hbt : (S.toList == s.toList) = true := by rw [Lib.toList_data, Lib.toList_data, ← hS1]; exact hb
        have hR : R = true := by rw [← HR.out]; exact wany_hit hlt hb
        subst hR
        clear hb hS hS1 HO
        go_wp2
        go_ret
        exact ⟨rfl, (Below.refl _ _).alloc (Nat.le_refl _) _⟩
    · have hltz : ¬ (kk : Int) < 19 := by omega
      have hR : R = false := by
        have h := HO.out
        rw [List.take_of_length_le (by show 19 ≤ kk; omega)] at h
        rw [← HR.out]; exact h
      subst hR
      clear HO
      go_wp2
      go_ret
      exact ⟨rfl, (Below.refl _ _).alloc (Nat.le_refl _) _⟩
theorem letT_take (s : ByteArray) (k : Nat) (h : k < s.size) : (s.data.toList.take (k + 1)).all letB = ((s.data.toList.take k).all letB && letB s[k]) := by
  have e : s.data.toList.take (k + 1) = s.data.toList.take k ++ [s[k]] := by
    rw [List.take_succ_eq_append_getElem (by simpa using h)]; rfl
  rw [e]; simp [List.all_append]
theorem letT_not (s : ByteArray) (k : Nat) (h : k < s.size) (hc : letB s[k] = false) : s.data.toList.all letB = false := by
  rw [List.all_eq_false]
  exact ⟨s[k], by rw [show s[k] = s.data.toList[k]'(by simpa using h) from rfl]; exact List.getElem_mem _, by simp [hc]⟩
theorem letB_f {c : UInt8} (h : (c.toNat : Int) < 97 ∨ 122 < (c.toNat : Int)) : letB c = false := by
  rw [letB, Bool.and_eq_false_iff, decide_eq_false_iff_not, decide_eq_false_iff_not]; omega
theorem letB_t {c : UInt8} (h1 : 97 ≤ (c.toNat : Int)) (h2 : (c.toNat : Int) ≤ 122) : letB c = true := by
  rw [letB, Bool.and_eq_true, decide_eq_true_eq, decide_eq_true_eq]; exact ⟨h1, h2⟩
set_option maxHeartbeats 4000000 in
set_option maxRecDepth 20000 in
theorem refLetters_any (s : ByteArray) (w : World) (hs : s.size ≤ maxLen) :
    Calls Tryz.prog 58 #[.string s] w fun e w' => e = .returned (.bool (lettersB s.data.toList)) ∧ w' = w := by
  unfold maxLen at hs
  have hl : s.data.toList.length = s.size := by simp
  by_cases h0 : s.size = 0
  · have he : s.data.toList = [] := List.length_eq_zero_iff.1 (by omega)
    have het : s.toList.isEmpty = true := by rw [Lib.toList_data, he]; rfl
    have hL : lettersB s.data.toList = false := by rw [he]; rfl
    rw [hL]
    clear he hl hL
    go_enter Tryz.func58, Tryz.ntmps58
    go_wp2
    go_ret
    exact ⟨rfl, rfl⟩
  · have hne : s.data.toList ≠ [] := fun e => h0 (by rw [e] at hl; simpa using hl.symm)
    have het : s.toList.isEmpty = false := by rw [Lib.toList_data, List.isEmpty_eq_false_iff]; exact hne
    by_cases h8 : 8 < s.size
    · have h8z : (8 : Int) < (s.size : Int) := by omega
      have hL : lettersB s.data.toList = false := by simp [lettersB]; omega
      rw [hL]
      clear hne hl hL
      go_enter Tryz.func58, Tryz.ntmps58
      go_wp2
      go_ret
      exact ⟨rfl, rfl⟩
    · have h8z : ¬ (8 : Int) < (s.size : Int) := by omega
      have hL : lettersB s.data.toList = s.data.toList.all letB := by
        rw [lettersB]
        have h1 : decide (s.data.toList ≠ []) = true := decide_eq_true hne
        have h2 : decide (s.data.toList.length ≤ 8) = true := decide_eq_true (by omega)
        rw [h1, h2]; rfl
      rw [hL]
      obtain ⟨R, hR⟩ : ∃ R, s.data.toList.all letB = R := ⟨_, rfl⟩
      have HR : Hid (s.data.toList.all letB = R) := hR
      rw [hR]
      clear hR hL hne hl
      go_enter Tryz.func58, Tryz.ntmps58
      go_wp2
      go_loop [3] (fun i => ∃ k : Nat, k ≤ s.size ∧ i = .int .i64 k ∧ Hid ((s.data.toList.take k).all letB = true)) (fun i => s.size - (intOf i).toNat)
      case atStart => exact ⟨0, Nat.zero_le _, rfl, rfl⟩
      case round =>
        obtain ⟨k, hk, rfl, HP⟩ := hrel
        by_cases hlt : k < s.size
        · cases hc : letB s[k]
          · have hR : R = false := by rw [← HR.out]; exact letT_not s k hlt hc
            subst hR
            have HC : Hid (letB s[k] = false) := hc
            clear hc HP
            by_cases h1 : (s[k].toNat : Int) < 97
            · go_wp2
              go_ret
              exact ⟨rfl, rfl⟩
            · have h2 : 122 < (s[k].toNat : Int) := by
                rcases Int.lt_or_le 122 (s[k].toNat : Int) with h | h
                · exact h
                · have := letB_t (c := s[k]) (by omega) h
                  rw [HC.out] at this; cases this
              go_wp2
              go_ret
              exact ⟨rfl, rfl⟩
          · have HP2 : Hid ((s.data.toList.take (k + 1)).all letB = true) := by
              show _ = _
              rw [letT_take s k hlt, HP.out, hc]; rfl
            have hb : 97 ≤ (s[k].toNat : Int) ∧ (s[k].toNat : Int) ≤ 122 := by
              rw [letB, Bool.and_eq_true, decide_eq_true_eq, decide_eq_true_eq] at hc; exact hc
            have h1 : ¬ (s[k].toNat : Int) < 97 := by omega
            have h2 : ¬ 122 < (s[k].toNat : Int) := by omega
            clear hc HP hb
            go_wp2
            go_round
            case rel => exact ⟨k + 1, by omega, by go_num, HP2⟩
            case measure => simp [intOf]; omega
        · have hR : R = true := by
            have h := HP.out
            rw [List.take_of_length_le (by simp; omega)] at h
            rw [← HR.out]; exact h
          subst hR
          go_wp2
          go_ret
          exact ⟨rfl, rfl⟩
set_option maxHeartbeats 1000000 in
theorem refName_any (s : ByteArray) (w : World) (hs : s.size ≤ maxLen) :
    Calls Tryz.prog 87 #[.string s] w fun e w' => e = .returned (.bool (nameT s.data.toList)) ∧ Below w.heap.size w w' := by
  have cL := fun W => refLetters_any s W hs
  have cW := refWord_any s
  rw [nameT]
  generalize lettersB s.data.toList = A at cL ⊢
  generalize wordsL.any (· == s.data.toList) = B at cW ⊢
  go_enter Tryz.func87, Tryz.ntmps87
  go_wp2_with fail
  refine (cL _).mono ?_
  rintro e w1 ⟨rfl, hq⟩
  obtain rfl : w = w1 := hq.symm
  go_wp2_with fail
  refine (cW _).mono ?_
  rintro e w2 ⟨rfl, b2⟩
  cases A <;> cases B
  all_goals
    go_wp2
    go_ret
    exact ⟨rfl, b2⟩
end Go.Proofs.YtfhlhdddhgkinaaGreatDoor
namespace Go.Proofs.YtfhlhdddhgkinaaGreatDoor
open Go.RowKit Go.BigFrame
set_option linter.unusedVariables false

mutual
/-- The first node that is wrong. -/
def ndE : Ex → Int
  | .node op nm vt vn vs pos l => if nodeE (.node op nm vt vn vs pos l) ≠ 0 then nodeE (.node op nm vt vn vs pos l) else ndsE l
def ndsE : List Ex → Int
  | [] => 0
  | x :: xs => if ndE x ≠ 0 then ndE x else ndsE xs
end
theorem fold_app (s : Int) (hs : s = 0) : ∀ (l m : List (Ex × Nat)), (foldP fck s (l ++ m)).1 = if (foldP fck s l).1 ≠ 0 then (foldP fck s l).1 else (foldP fck s m).1
  | [], m => by rw [List.nil_append, foldP]; simp [hs]
  | q :: r, m => by
    rw [List.cons_append, foldP, foldP]
    by_cases h : nodeE q.1 = 0
    · have h2 : (fck s q.1 q.2).2 = true := by simp [fck, h]
      rw [if_pos h2, if_pos h2]
      have h3 : (fck s q.1 q.2).1 = s := by rw [hs]; exact h
      rw [h3]
      exact fold_app s hs r m
    · have h2 : ¬ (fck s q.1 q.2).2 = true := by simp [fck, h]
      rw [if_neg h2, if_neg h2]
      have h3 : (fck s q.1 q.2).1 ≠ 0 := h
      simp only
      rw [if_pos h3]
theorem fold_nd : ∀ (x : Ex) (d : Nat), (foldP fck 0 (x.pre d)).1 = ndE x := by
  refine Ex.ind fun op nm vt vn vs pos l ih d => ?_
  have key : ∀ l : List Ex, (∀ y ∈ l, ∀ d, (foldP fck 0 (y.pre d)).1 = ndE y) → (foldP fck 0 (Ex.pres (d + 1) l)).1 = ndsE l := fun l => by
    induction l with
    | nil => intro _; rw [Ex.pres, ndsE, foldP]
    | cons y ys ihl =>
      intro h
      rw [Ex.pres, ndsE, fold_app 0 rfl, h y (by simp), ihl fun z hz => h z (by simp [hz])]
  rw [Ex.pre, ndE, foldP]
  by_cases h : nodeE (.node op nm vt vn vs pos l) = 0
  · have h2 : (fck 0 (.node op nm vt vn vs pos l) d).2 = true := by simp [fck, h]
    rw [if_pos h2, if_neg (fun hh => hh h)]
    have h3 : (fck 0 (.node op nm vt vn vs pos l) d).1 = 0 := h
    rw [h3]
    exact key l ih
  · have h2 : ¬ (fck 0 (.node op nm vt vn vs pos l) d).2 = true := by simp [fck, h]
    rw [if_neg h2, if_pos h]
    rfl
theorem ckP_nd (x : Ex) : ckP x = if x.small = false then 4 else ndE x := by
  rw [ckP, tg_small, fold_nd]
  cases x.small <;> simp
/-- What is wrong with a node, by the document's Arity. -/
theorem node_ar (x : Ex) : nodeE x = nodeB (decide (0 ≤ arityT x.op.data.toList)) (x.op.toList == [99, 111, 108]) (nameT x.nm.data.toList) ((x.args.length : Int) != arityT x.op.data.toList) (!(x.nm.toList == [])) (x.op.toList == [118, 97, 108]) (!((x.vt == 0) && ((x.vn == 0) && (x.vs.toList == [])))) (ckV x.vt x.vn x.vs.data.toList) := by
  obtain ⟨h1, h2⟩ := arity_ops x.op.data.toList
  rw [nodeE, h1]
  by_cases h : 0 ≤ arityT x.op.data.toList
  · rw [h2 h]
  · rw [decide_eq_false h]
    simp [nodeB]
end Go.Proofs.YtfhlhdddhgkinaaGreatDoor
namespace Go.Proofs.YtfhlhdddhgkinaaGreatDoor
open Go.RowKit Go.BigFrame
set_option linter.unusedVariables false

theorem ndsE_at {l : List Ex} {k : Nat} (h : k < l.length) : ndsE (l.drop k) = if ndE l[k] ≠ 0 then ndE l[k] else ndsE (l.drop (k + 1)) := by
  rw [List.drop_eq_getElem_cons h, ndsE]
set_option maxHeartbeats 8000000 in
set_option maxRecDepth 20000 in
theorem refNodes_any : ∀ (x : Ex) (lo : Nat → Prop) (v : Value) (w : World), ExIn w lo v x →
    Calls Tryz.prog 57 #[v] w fun e w' => e = .returned (.int .i64 (ndE x)) ∧ Below w.heap.size w w' := by
  refine Ex.ind fun op nm vt vn vs pos l ih lo v w hx => ?_
  rw [ExIn] at hx
  obtain ⟨p, ca, rfl, ⟨hm, hmc⟩, ho, hnm, hvs, hparts⟩ := hx
  obtain ⟨K, hK⟩ : ∃ K, ndE (.node op nm vt vn vs pos l) = K := ⟨_, rfl⟩
  rw [hK]
  obtain ⟨N0, hN0⟩ : ∃ N0, nodeE (.node op nm vt vn vs pos l) = N0 := ⟨_, rfl⟩
  rw [ndE, hN0] at hK
  rw [node_ar] at hN0
  simp only [Ex.op, Ex.nm, Ex.vt, Ex.vn, Ex.vs, Ex.args] at hN0
  unfold maxLen at hm
  have b1 : Below w.heap.size w (w.alloc (.cells #[.string op, .string nm, .int .i64 vt, .int .i64 vn, .string vs, .slice p l.length ca, .int .i64 pos] 26)) := (Below.refl _ w).alloc (Nat.le_refl _) _
  have cA := refArity_any op (w.alloc (.cells #[.string op, .string nm, .int .i64 vt, .int .i64 vn, .string vs, .slice p l.length ca, .int .i64 pos] 26))
  have cN := fun W => refName_any nm W hnm
  have cV := fun W => refVal_any vt vn vs W hvs
  obtain ⟨A, hAr⟩ : ∃ A, arityT op.data.toList = A := ⟨_, rfl⟩
  obtain ⟨NT, hNT⟩ : ∃ NT, nameT nm.data.toList = NT := ⟨_, rfl⟩
  rw [hAr] at cA
  rw [hNT] at cN
  simp only [hAr, hNT] at hN0
  have HAR : Hid (arityT op.data.toList = A) := hAr
  clear hAr hNT
  have HI : Aside (∀ y ∈ l, ∀ (lo : Nat → Prop) (v : Value) (w : World), ExIn w lo v y → Calls Tryz.prog 57 #[v] w fun e w' => e = .returned (.int .i64 (ndE y)) ∧ Below w.heap.size w w') := ih
  have HPA : Aside (l.length = 0 ∨ ∃ b off, p = some ⟨b, off, none⟩ ∧ b < w.heap.size ∧ lo b ∧ ExsIn w lo b off l) := hparts
  have box : Hid (∀ wr, Below (w.heap.size + 1) (w.alloc (.cells #[.string op, .string nm, .int .i64 vt, .int .i64 vn, .string vs, .slice p l.length ca, .int .i64 pos] 26)) wr → (wr.cell? ⟨w.heap.size, 0, none⟩ = some (.string op) ∧ wr.cell? ⟨w.heap.size, 1, none⟩ = some (.string nm) ∧ wr.cell? ⟨w.heap.size, 2, none⟩ = some (.int .i64 vt) ∧ wr.cell? ⟨w.heap.size, 3, none⟩ = some (.int .i64 vn) ∧ wr.cell? ⟨w.heap.size, 4, none⟩ = some (.string vs) ∧ wr.cell? ⟨w.heap.size, 5, none⟩ = some (.slice p l.length ca)) ∧ w.heap.size < wr.heap.size ∧ Below w.heap.size w wr) := fun wr hb => by
    obtain ⟨h1, _, h3⟩ := box_at w _ _ hb (Nat.lt_succ_self _)
    exact ⟨⟨h1 0, h1 1, h1 2, h1 3, h1 4, h1 5⟩, h3, b1.trans (hb.mono (Nat.le_succ _))⟩
  clear ih hparts b1
  by_cases hA : A < 0
  · have hA0 : ¬ 0 ≤ A := by omega
    simp [nodeB, hA0] at hN0
    subst hN0
    simp at hK
    subst hK
    go_enter Tryz.func57, Tryz.ntmps57
    go_wp2_with fail
    refine cA.mono ?_
    rintro e w1 ⟨rfl, b2⟩
    have B2 : Below (w.heap.size + 1) (w.alloc (.cells #[.string op, .string nm, .int .i64 vt, .int .i64 vn, .string vs, .slice p l.length ca, .int .i64 pos] 26)) w1 := b2.mono (by simp)
    obtain ⟨⟨k0, k1, k2, k3, k4, k5⟩, hl1, _⟩ := box.out w1 B2
    clear cA b2
    go_wp2_with fail
    refine (cN _).mono ?_
    rintro e w2 ⟨rfl, b3⟩
    have B3 : Below (w.heap.size + 1) (w.alloc (.cells #[.string op, .string nm, .int .i64 vt, .int .i64 vn, .string vs, .slice p l.length ca, .int .i64 pos] 26)) w2 := B2.trans (b3.mono hl1)
    obtain ⟨⟨j0, j1, j2, j3, j4, j5⟩, hl2, bw2⟩ := box.out w2 B3
    clear cN b3 k0 k1 k2 k3 k4 k5 B2
    go_wp2
    go_ret
    exact ⟨rfl, bw2⟩
  · have hA0 : 0 ≤ A := by omega
    cases hic : (op.toList == [99, 111, 108])
    · skip
      cases hln : ((l.length : Int) != A)
      · skip
        cases hnn : (nm.toList == [])
        · skip
          simp [nodeB, hA0, hic, hln, hnn] at hN0
          subst hN0
          simp at hK
          subst hK
          go_enter Tryz.func57, Tryz.ntmps57
          go_wp2_with fail
          refine cA.mono ?_
          rintro e w1 ⟨rfl, b2⟩
          have B2 : Below (w.heap.size + 1) (w.alloc (.cells #[.string op, .string nm, .int .i64 vt, .int .i64 vn, .string vs, .slice p l.length ca, .int .i64 pos] 26)) w1 := b2.mono (by simp)
          obtain ⟨⟨k0, k1, k2, k3, k4, k5⟩, hl1, _⟩ := box.out w1 B2
          clear cA b2
          go_wp2_with fail
          refine (cN _).mono ?_
          rintro e w2 ⟨rfl, b3⟩
          have B3 : Below (w.heap.size + 1) (w.alloc (.cells #[.string op, .string nm, .int .i64 vt, .int .i64 vn, .string vs, .slice p l.length ca, .int .i64 pos] 26)) w2 := B2.trans (b3.mono hl1)
          obtain ⟨⟨j0, j1, j2, j3, j4, j5⟩, hl2, bw2⟩ := box.out w2 B3
          clear cN b3 k0 k1 k2 k3 k4 k5 B2
          go_wp2
          go_ret
          exact ⟨rfl, bw2⟩
        · skip
          cases hiv : (op.toList == [118, 97, 108])
          · skip
            by_cases h1 : vt = 0
            · have g1 : (vt != 0) = false := by simpa using h1
              by_cases h2 : vn = 0
              · have g2 : (vn != 0) = false := by simpa using h2
                cases g3 : (vs.toList == [])
                · skip
                  simp [nodeB, hA0, hic, hln, hnn, hiv, h1, h2, g3] at hN0
                  subst hN0
                  simp at hK
                  subst hK
                  clear h1 h2
                  go_enter Tryz.func57, Tryz.ntmps57
                  go_wp2_with fail
                  refine cA.mono ?_
                  rintro e w1 ⟨rfl, b2⟩
                  have B2 : Below (w.heap.size + 1) (w.alloc (.cells #[.string op, .string nm, .int .i64 vt, .int .i64 vn, .string vs, .slice p l.length ca, .int .i64 pos] 26)) w1 := b2.mono (by simp)
                  obtain ⟨⟨k0, k1, k2, k3, k4, k5⟩, hl1, _⟩ := box.out w1 B2
                  clear cA b2
                  go_wp2_with fail
                  refine (cN _).mono ?_
                  rintro e w2 ⟨rfl, b3⟩
                  have B3 : Below (w.heap.size + 1) (w.alloc (.cells #[.string op, .string nm, .int .i64 vt, .int .i64 vn, .string vs, .slice p l.length ca, .int .i64 pos] 26)) w2 := B2.trans (b3.mono hl1)
                  obtain ⟨⟨j0, j1, j2, j3, j4, j5⟩, hl2, bw2⟩ := box.out w2 B3
                  clear cN b3 k0 k1 k2 k3 k4 k5 B2
                  go_wp2
                  go_ret
                  exact ⟨rfl, bw2⟩
                · skip
                  simp [nodeB, hA0, hic, hln, hnn, hiv, h1, h2, g3] at hN0
                  subst hN0
                  simp at hK
                  have HK : Hid (ndsE l = K) := hK
                  clear hK h1 h2 cV
                  go_enter Tryz.func57, Tryz.ntmps57
                  go_wp2_with fail
                  refine cA.mono ?_
                  rintro e w1 ⟨rfl, b2⟩
                  have B2 : Below (w.heap.size + 1) (w.alloc (.cells #[.string op, .string nm, .int .i64 vt, .int .i64 vn, .string vs, .slice p l.length ca, .int .i64 pos] 26)) w1 := b2.mono (by simp)
                  obtain ⟨⟨k0, k1, k2, k3, k4, k5⟩, hl1, _⟩ := box.out w1 B2
                  clear cA b2
                  go_wp2_with fail
                  refine (cN _).mono ?_
                  rintro e w2 ⟨rfl, b3⟩
                  have B3 : Below (w.heap.size + 1) (w.alloc (.cells #[.string op, .string nm, .int .i64 vt, .int .i64 vn, .string vs, .slice p l.length ca, .int .i64 pos] 26)) w2 := B2.trans (b3.mono hl1)
                  obtain ⟨⟨j0, j1, j2, j3, j4, j5⟩, hl2, bw2⟩ := box.out w2 B3
                  clear cN b3 k0 k1 k2 k3 k4 k5 B2
                  go_wp2
                  go_loopg [6, 7] l.length (fun gg s6 _ wr => ∃ kk : Nat, kk ≤ l.length ∧ l.length - kk ≤ gg ∧ s6 = .int .i64 kk ∧ Aside (Below (w.heap.size + 1) (w.alloc (.cells #[.string op, .string nm, .int .i64 vt, .int .i64 vn, .string vs, .slice p l.length ca, .int .i64 pos] 26)) wr) ∧ Hid (ndsE (l.drop kk) = K))
                  case atStart => exact ⟨0, Nat.zero_le _, by omega, rfl, B3, HK⟩
                  case round =>
                    obtain ⟨kk, hkk, hg, rfl, BW, HG⟩ := hrel
                    obtain ⟨⟨r0, r1, r2, r3, r4, r5⟩, hlr, bwr⟩ := box.out wr BW.out
                    clear j0 j1 j2 j3 j4 j5 B3
                    by_cases hlt : kk < l.length
                    · have hltz : (kk : Int) < (l.length : Int) := by omega
                      have h0z : (0 : Int) ≤ (kk : Int) := by omega
                      rcases HPA.out with h | ⟨ba, oa, rfl, hbl, hlo, hE⟩
                      · exact absurd h (by omega)
                      obtain ⟨v0, v1, v2, v3, v4, v5, v6, e0, e1, e2, e3, e4, e5, e6, hy⟩ := exsIn_at w lo ba l oa hE kk hlt
                      obtain ⟨u0, u1, u2, u3, u4, u5, u6, u7, u8, huu⟩ := hy.agg
                      injection huu with huu
                      simp only [Array.mk.injEq, List.cons.injEq, and_true] at huu
                      obtain ⟨rfl, rfl, rfl, rfl, rfl, rfl, rfl⟩ := huu
                      have kA : ∀ o, wr.cell? ⟨ba, o, none⟩ = w.cell? ⟨ba, o, none⟩ := fun o => bwr.cell (p := ⟨ba, o, none⟩) hbl
                      rw [← kA] at e0 e1 e2 e3 e4 e5 e6
                      have hblr : ba < wr.heap.size := by have := bwr.size; omega
                      have cY := HI.out _ (List.getElem_mem hlt) lo _ wr (hy.on bwr)
                      have hat := (ndsE_at hlt).symm.trans HG.out
                      generalize ndE l[kk] = E at cY hat
                      have HKL : Hid (kk < l.length) := hlt
                      clear hE kA hy HG
                      by_cases hE0 : E = 0
                      · subst hE0
                        rw [if_neg (by simp)] at hat
                        have HG2 : Hid (ndsE (l.drop (kk + 1)) = K) := hat
                        clear hat
                        go_wp2_with fail
                        refine cY.mono ?_
                        rintro e w4 ⟨rfl, b4⟩
                        have BW4 : Aside (Below (w.heap.size + 1) (w.alloc (.cells #[.string op, .string nm, .int .i64 vt, .int .i64 vn, .string vs, .slice (some ⟨ba, oa, none⟩) l.length ca, .int .i64 pos] 26)) w4) := BW.out.trans (b4.mono hlr)
                        clear cY b4
                        go_wp2
                        go_roundg (l.length - (kk + 1))
                        case measure => have := HKL.out; omega
                        case rel => exact ⟨kk + 1, by have := HKL.out; omega, by omega, by go_num, BW4, HG2⟩
                      · rw [if_pos hE0] at hat
                        subst hat
                        have hEb : (E != 0) = true := by simpa using hE0
                        clear hE0
                        go_wp2_with fail
                        refine cY.mono ?_
                        rintro e w4 ⟨rfl, b4⟩
                        have b5 : Below w.heap.size w w4 := bwr.trans (b4.mono bwr.size)
                        clear cY b4
                        go_wp2
                        go_ret
                        exact ⟨rfl, b5⟩
                    · have hltz : ¬ (kk : Int) < (l.length : Int) := by omega
                      have hk0 : K = 0 := by rw [← HG.out, List.drop_eq_nil_of_le (by omega), ndsE]
                      subst hk0
                      clear HG HK
                      go_wp2
                      go_ret
                      exact ⟨rfl, bwr⟩
              · have g2 : (vn != 0) = true := by simpa using h2
                simp [nodeB, hA0, hic, hln, hnn, hiv, h1, h2] at hN0
                subst hN0
                simp at hK
                subst hK
                clear h1 h2
                go_enter Tryz.func57, Tryz.ntmps57
                go_wp2_with fail
                refine cA.mono ?_
                rintro e w1 ⟨rfl, b2⟩
                have B2 : Below (w.heap.size + 1) (w.alloc (.cells #[.string op, .string nm, .int .i64 vt, .int .i64 vn, .string vs, .slice p l.length ca, .int .i64 pos] 26)) w1 := b2.mono (by simp)
                obtain ⟨⟨k0, k1, k2, k3, k4, k5⟩, hl1, _⟩ := box.out w1 B2
                clear cA b2
                go_wp2_with fail
                refine (cN _).mono ?_
                rintro e w2 ⟨rfl, b3⟩
                have B3 : Below (w.heap.size + 1) (w.alloc (.cells #[.string op, .string nm, .int .i64 vt, .int .i64 vn, .string vs, .slice p l.length ca, .int .i64 pos] 26)) w2 := B2.trans (b3.mono hl1)
                obtain ⟨⟨j0, j1, j2, j3, j4, j5⟩, hl2, bw2⟩ := box.out w2 B3
                clear cN b3 k0 k1 k2 k3 k4 k5 B2
                go_wp2
                go_ret
                exact ⟨rfl, bw2⟩
            · have g1 : (vt != 0) = true := by simpa using h1
              simp [nodeB, hA0, hic, hln, hnn, hiv, h1] at hN0
              subst hN0
              simp at hK
              subst hK
              clear h1
              go_enter Tryz.func57, Tryz.ntmps57
              go_wp2_with fail
              refine cA.mono ?_
              rintro e w1 ⟨rfl, b2⟩
              have B2 : Below (w.heap.size + 1) (w.alloc (.cells #[.string op, .string nm, .int .i64 vt, .int .i64 vn, .string vs, .slice p l.length ca, .int .i64 pos] 26)) w1 := b2.mono (by simp)
              obtain ⟨⟨k0, k1, k2, k3, k4, k5⟩, hl1, _⟩ := box.out w1 B2
              clear cA b2
              go_wp2_with fail
              refine (cN _).mono ?_
              rintro e w2 ⟨rfl, b3⟩
              have B3 : Below (w.heap.size + 1) (w.alloc (.cells #[.string op, .string nm, .int .i64 vt, .int .i64 vn, .string vs, .slice p l.length ca, .int .i64 pos] 26)) w2 := B2.trans (b3.mono hl1)
              obtain ⟨⟨j0, j1, j2, j3, j4, j5⟩, hl2, bw2⟩ := box.out w2 B3
              clear cN b3 k0 k1 k2 k3 k4 k5 B2
              go_wp2
              go_ret
              exact ⟨rfl, bw2⟩
          · skip
            simp [nodeB, hA0, hic, hln, hnn, hiv] at hN0
            have hop : op.data.toList = [118, 97, 108] := by rw [← Lib.toList_data]; simpa using hiv
            have hA2 : A = 0 := by rw [← HAR.out, hop]; decide
            have hl0z : (l.length : Int) = A := by simpa using hln
            have hl0 : l.length = 0 := by omega
            have hnil : l = [] := List.length_eq_zero_iff.1 hl0
            have hKc : ckV vt vn vs.data.toList = K := by rw [← hK, hnil, ndsE, ← hN0]; by_cases h : ckV vt vn vs.data.toList = 0 <;> simp [h]
            clear hK hN0 hnil hl0 hl0z hA2 hop HPA HI
            obtain ⟨C, hC⟩ : ∃ C, chk vt vn vs.data.toList = C := ⟨_, rfl⟩
            rw [ckV, hC] at hKc
            rw [hC] at cV
            clear hC
            by_cases hC0 : C = 0
            · subst hC0
              rw [if_neg (by simp)] at hKc
              by_cases hv1 : vt = 1
              · have g1 : (vt == 1) = true := by simpa using hv1
                by_cases hv2 : vn < 0
                · rw [if_pos ⟨hv1, hv2⟩] at hKc
                  subst hKc
                  clear hv1
                  go_enter Tryz.func57, Tryz.ntmps57
                  go_wp2_with fail
                  refine cA.mono ?_
                  rintro e w1 ⟨rfl, b2⟩
                  have B2 : Below (w.heap.size + 1) (w.alloc (.cells #[.string op, .string nm, .int .i64 vt, .int .i64 vn, .string vs, .slice p l.length ca, .int .i64 pos] 26)) w1 := b2.mono (by simp)
                  obtain ⟨⟨k0, k1, k2, k3, k4, k5⟩, hl1, _⟩ := box.out w1 B2
                  clear cA b2
                  go_wp2_with fail
                  refine (cN _).mono ?_
                  rintro e w2 ⟨rfl, b3⟩
                  have B3 : Below (w.heap.size + 1) (w.alloc (.cells #[.string op, .string nm, .int .i64 vt, .int .i64 vn, .string vs, .slice p l.length ca, .int .i64 pos] 26)) w2 := B2.trans (b3.mono hl1)
                  obtain ⟨⟨j0, j1, j2, j3, j4, j5⟩, hl2, bw2⟩ := box.out w2 B3
                  clear cN b3 k0 k1 k2 k3 k4 k5 B2
                  go_wp2_with fail
                  refine (cV _).mono ?_
                  rintro e w3 ⟨rfl, b4⟩
                  have B4 : Below (w.heap.size + 1) (w.alloc (.cells #[.string op, .string nm, .int .i64 vt, .int .i64 vn, .string vs, .slice p l.length ca, .int .i64 pos] 26)) w3 := B3.trans (b4.mono hl2)
                  obtain ⟨⟨m0, m1, m2, m3, m4, m5⟩, hl3, bw3⟩ := box.out w3 B4
                  clear cV b4
                  go_wp2
                  go_ret
                  exact ⟨rfl, bw3⟩
                · rw [if_neg (fun hh => hv2 hh.2)] at hKc
                  subst hKc
                  clear hv1
                  go_enter Tryz.func57, Tryz.ntmps57
                  go_wp2_with fail
                  refine cA.mono ?_
                  rintro e w1 ⟨rfl, b2⟩
                  have B2 : Below (w.heap.size + 1) (w.alloc (.cells #[.string op, .string nm, .int .i64 vt, .int .i64 vn, .string vs, .slice p l.length ca, .int .i64 pos] 26)) w1 := b2.mono (by simp)
                  obtain ⟨⟨k0, k1, k2, k3, k4, k5⟩, hl1, _⟩ := box.out w1 B2
                  clear cA b2
                  go_wp2_with fail
                  refine (cN _).mono ?_
                  rintro e w2 ⟨rfl, b3⟩
                  have B3 : Below (w.heap.size + 1) (w.alloc (.cells #[.string op, .string nm, .int .i64 vt, .int .i64 vn, .string vs, .slice p l.length ca, .int .i64 pos] 26)) w2 := B2.trans (b3.mono hl1)
                  obtain ⟨⟨j0, j1, j2, j3, j4, j5⟩, hl2, bw2⟩ := box.out w2 B3
                  clear cN b3 k0 k1 k2 k3 k4 k5 B2
                  go_wp2_with fail
                  refine (cV _).mono ?_
                  rintro e w3 ⟨rfl, b4⟩
                  have B4 : Below (w.heap.size + 1) (w.alloc (.cells #[.string op, .string nm, .int .i64 vt, .int .i64 vn, .string vs, .slice p l.length ca, .int .i64 pos] 26)) w3 := B3.trans (b4.mono hl2)
                  obtain ⟨⟨m0, m1, m2, m3, m4, m5⟩, hl3, bw3⟩ := box.out w3 B4
                  clear cV b4
                  go_wp2
                  go_ret
                  exact ⟨rfl, bw3⟩
              · have g1 : (vt == 1) = false := by simpa using hv1
                rw [if_neg (fun hh => hv1 hh.1)] at hKc
                subst hKc
                clear hv1
                go_enter Tryz.func57, Tryz.ntmps57
                go_wp2_with fail
                refine cA.mono ?_
                rintro e w1 ⟨rfl, b2⟩
                have B2 : Below (w.heap.size + 1) (w.alloc (.cells #[.string op, .string nm, .int .i64 vt, .int .i64 vn, .string vs, .slice p l.length ca, .int .i64 pos] 26)) w1 := b2.mono (by simp)
                obtain ⟨⟨k0, k1, k2, k3, k4, k5⟩, hl1, _⟩ := box.out w1 B2
                clear cA b2
                go_wp2_with fail
                refine (cN _).mono ?_
                rintro e w2 ⟨rfl, b3⟩
                have B3 : Below (w.heap.size + 1) (w.alloc (.cells #[.string op, .string nm, .int .i64 vt, .int .i64 vn, .string vs, .slice p l.length ca, .int .i64 pos] 26)) w2 := B2.trans (b3.mono hl1)
                obtain ⟨⟨j0, j1, j2, j3, j4, j5⟩, hl2, bw2⟩ := box.out w2 B3
                clear cN b3 k0 k1 k2 k3 k4 k5 B2
                go_wp2_with fail
                refine (cV _).mono ?_
                rintro e w3 ⟨rfl, b4⟩
                have B4 : Below (w.heap.size + 1) (w.alloc (.cells #[.string op, .string nm, .int .i64 vt, .int .i64 vn, .string vs, .slice p l.length ca, .int .i64 pos] 26)) w3 := B3.trans (b4.mono hl2)
                obtain ⟨⟨m0, m1, m2, m3, m4, m5⟩, hl3, bw3⟩ := box.out w3 B4
                clear cV b4
                go_wp2
                go_ret
                exact ⟨rfl, bw3⟩
            · have g0 : (C == 0) = false := by simpa using hC0
              rw [if_pos hC0] at hKc
              subst hKc
              go_enter Tryz.func57, Tryz.ntmps57
              go_wp2_with fail
              refine cA.mono ?_
              rintro e w1 ⟨rfl, b2⟩
              have B2 : Below (w.heap.size + 1) (w.alloc (.cells #[.string op, .string nm, .int .i64 vt, .int .i64 vn, .string vs, .slice p l.length ca, .int .i64 pos] 26)) w1 := b2.mono (by simp)
              obtain ⟨⟨k0, k1, k2, k3, k4, k5⟩, hl1, _⟩ := box.out w1 B2
              clear cA b2
              go_wp2_with fail
              refine (cN _).mono ?_
              rintro e w2 ⟨rfl, b3⟩
              have B3 : Below (w.heap.size + 1) (w.alloc (.cells #[.string op, .string nm, .int .i64 vt, .int .i64 vn, .string vs, .slice p l.length ca, .int .i64 pos] 26)) w2 := B2.trans (b3.mono hl1)
              obtain ⟨⟨j0, j1, j2, j3, j4, j5⟩, hl2, bw2⟩ := box.out w2 B3
              clear cN b3 k0 k1 k2 k3 k4 k5 B2
              go_wp2_with fail
              refine (cV _).mono ?_
              rintro e w3 ⟨rfl, b4⟩
              have B4 : Below (w.heap.size + 1) (w.alloc (.cells #[.string op, .string nm, .int .i64 vt, .int .i64 vn, .string vs, .slice p l.length ca, .int .i64 pos] 26)) w3 := B3.trans (b4.mono hl2)
              obtain ⟨⟨m0, m1, m2, m3, m4, m5⟩, hl3, bw3⟩ := box.out w3 B4
              clear cV b4
              go_wp2
              go_ret
              exact ⟨rfl, bw3⟩
      · skip
        simp [nodeB, hA0, hic, hln] at hN0
        subst hN0
        simp at hK
        subst hK
        go_enter Tryz.func57, Tryz.ntmps57
        go_wp2_with fail
        refine cA.mono ?_
        rintro e w1 ⟨rfl, b2⟩
        have B2 : Below (w.heap.size + 1) (w.alloc (.cells #[.string op, .string nm, .int .i64 vt, .int .i64 vn, .string vs, .slice p l.length ca, .int .i64 pos] 26)) w1 := b2.mono (by simp)
        obtain ⟨⟨k0, k1, k2, k3, k4, k5⟩, hl1, _⟩ := box.out w1 B2
        clear cA b2
        go_wp2_with fail
        refine (cN _).mono ?_
        rintro e w2 ⟨rfl, b3⟩
        have B3 : Below (w.heap.size + 1) (w.alloc (.cells #[.string op, .string nm, .int .i64 vt, .int .i64 vn, .string vs, .slice p l.length ca, .int .i64 pos] 26)) w2 := B2.trans (b3.mono hl1)
        obtain ⟨⟨j0, j1, j2, j3, j4, j5⟩, hl2, bw2⟩ := box.out w2 B3
        clear cN b3 k0 k1 k2 k3 k4 k5 B2
        go_wp2
        go_ret
        exact ⟨rfl, bw2⟩
    · cases hnt : NT
      · skip
        simp [nodeB, hA0, hic, hnt] at hN0
        subst hN0
        simp at hK
        subst hK
        subst hnt
        go_enter Tryz.func57, Tryz.ntmps57
        go_wp2_with fail
        refine cA.mono ?_
        rintro e w1 ⟨rfl, b2⟩
        have B2 : Below (w.heap.size + 1) (w.alloc (.cells #[.string op, .string nm, .int .i64 vt, .int .i64 vn, .string vs, .slice p l.length ca, .int .i64 pos] 26)) w1 := b2.mono (by simp)
        obtain ⟨⟨k0, k1, k2, k3, k4, k5⟩, hl1, _⟩ := box.out w1 B2
        clear cA b2
        go_wp2_with fail
        refine (cN _).mono ?_
        rintro e w2 ⟨rfl, b3⟩
        have B3 : Below (w.heap.size + 1) (w.alloc (.cells #[.string op, .string nm, .int .i64 vt, .int .i64 vn, .string vs, .slice p l.length ca, .int .i64 pos] 26)) w2 := B2.trans (b3.mono hl1)
        obtain ⟨⟨j0, j1, j2, j3, j4, j5⟩, hl2, bw2⟩ := box.out w2 B3
        clear cN b3 k0 k1 k2 k3 k4 k5 B2
        go_wp2
        go_ret
        exact ⟨rfl, bw2⟩
      · skip
        subst hnt
        cases hln : ((l.length : Int) != A)
        · skip
          have hiv : (op.toList == [118, 97, 108]) = false := by
            have h := hic
            rw [beq_iff_eq] at h
            rw [h]; decide
          by_cases h1 : vt = 0
          · have g1 : (vt != 0) = false := by simpa using h1
            by_cases h2 : vn = 0
            · have g2 : (vn != 0) = false := by simpa using h2
              cases g3 : (vs.toList == [])
              · skip
                simp [nodeB, hA0, hic, hln, hiv, h1, h2, g3] at hN0
                subst hN0
                simp at hK
                subst hK
                clear h1 h2
                go_enter Tryz.func57, Tryz.ntmps57
                go_wp2_with fail
                refine cA.mono ?_
                rintro e w1 ⟨rfl, b2⟩
                have B2 : Below (w.heap.size + 1) (w.alloc (.cells #[.string op, .string nm, .int .i64 vt, .int .i64 vn, .string vs, .slice p l.length ca, .int .i64 pos] 26)) w1 := b2.mono (by simp)
                obtain ⟨⟨k0, k1, k2, k3, k4, k5⟩, hl1, _⟩ := box.out w1 B2
                clear cA b2
                go_wp2_with fail
                refine (cN _).mono ?_
                rintro e w2 ⟨rfl, b3⟩
                have B3 : Below (w.heap.size + 1) (w.alloc (.cells #[.string op, .string nm, .int .i64 vt, .int .i64 vn, .string vs, .slice p l.length ca, .int .i64 pos] 26)) w2 := B2.trans (b3.mono hl1)
                obtain ⟨⟨j0, j1, j2, j3, j4, j5⟩, hl2, bw2⟩ := box.out w2 B3
                clear cN b3 k0 k1 k2 k3 k4 k5 B2
                go_wp2
                go_ret
                exact ⟨rfl, bw2⟩
              · skip
                simp [nodeB, hA0, hic, hln, hiv, h1, h2, g3] at hN0
                subst hN0
                simp at hK
                have HK : Hid (ndsE l = K) := hK
                clear hK h1 h2 cV
                go_enter Tryz.func57, Tryz.ntmps57
                go_wp2_with fail
                refine cA.mono ?_
                rintro e w1 ⟨rfl, b2⟩
                have B2 : Below (w.heap.size + 1) (w.alloc (.cells #[.string op, .string nm, .int .i64 vt, .int .i64 vn, .string vs, .slice p l.length ca, .int .i64 pos] 26)) w1 := b2.mono (by simp)
                obtain ⟨⟨k0, k1, k2, k3, k4, k5⟩, hl1, _⟩ := box.out w1 B2
                clear cA b2
                go_wp2_with fail
                refine (cN _).mono ?_
                rintro e w2 ⟨rfl, b3⟩
                have B3 : Below (w.heap.size + 1) (w.alloc (.cells #[.string op, .string nm, .int .i64 vt, .int .i64 vn, .string vs, .slice p l.length ca, .int .i64 pos] 26)) w2 := B2.trans (b3.mono hl1)
                obtain ⟨⟨j0, j1, j2, j3, j4, j5⟩, hl2, bw2⟩ := box.out w2 B3
                clear cN b3 k0 k1 k2 k3 k4 k5 B2
                go_wp2
                go_loopg [6, 7] l.length (fun gg s6 _ wr => ∃ kk : Nat, kk ≤ l.length ∧ l.length - kk ≤ gg ∧ s6 = .int .i64 kk ∧ Aside (Below (w.heap.size + 1) (w.alloc (.cells #[.string op, .string nm, .int .i64 vt, .int .i64 vn, .string vs, .slice p l.length ca, .int .i64 pos] 26)) wr) ∧ Hid (ndsE (l.drop kk) = K))
                case atStart => exact ⟨0, Nat.zero_le _, by omega, rfl, B3, HK⟩
                case round =>
                  obtain ⟨kk, hkk, hg, rfl, BW, HG⟩ := hrel
                  obtain ⟨⟨r0, r1, r2, r3, r4, r5⟩, hlr, bwr⟩ := box.out wr BW.out
                  clear j0 j1 j2 j3 j4 j5 B3
                  by_cases hlt : kk < l.length
                  · have hltz : (kk : Int) < (l.length : Int) := by omega
                    have h0z : (0 : Int) ≤ (kk : Int) := by omega
                    rcases HPA.out with h | ⟨ba, oa, rfl, hbl, hlo, hE⟩
                    · exact absurd h (by omega)
                    obtain ⟨v0, v1, v2, v3, v4, v5, v6, e0, e1, e2, e3, e4, e5, e6, hy⟩ := exsIn_at w lo ba l oa hE kk hlt
                    obtain ⟨u0, u1, u2, u3, u4, u5, u6, u7, u8, huu⟩ := hy.agg
                    injection huu with huu
                    simp only [Array.mk.injEq, List.cons.injEq, and_true] at huu
                    obtain ⟨rfl, rfl, rfl, rfl, rfl, rfl, rfl⟩ := huu
                    have kA : ∀ o, wr.cell? ⟨ba, o, none⟩ = w.cell? ⟨ba, o, none⟩ := fun o => bwr.cell (p := ⟨ba, o, none⟩) hbl
                    rw [← kA] at e0 e1 e2 e3 e4 e5 e6
                    have hblr : ba < wr.heap.size := by have := bwr.size; omega
                    have cY := HI.out _ (List.getElem_mem hlt) lo _ wr (hy.on bwr)
                    have hat := (ndsE_at hlt).symm.trans HG.out
                    generalize ndE l[kk] = E at cY hat
                    have HKL : Hid (kk < l.length) := hlt
                    clear hE kA hy HG
                    by_cases hE0 : E = 0
                    · subst hE0
                      rw [if_neg (by simp)] at hat
                      have HG2 : Hid (ndsE (l.drop (kk + 1)) = K) := hat
                      clear hat
                      go_wp2_with fail
                      refine cY.mono ?_
                      rintro e w4 ⟨rfl, b4⟩
                      have BW4 : Aside (Below (w.heap.size + 1) (w.alloc (.cells #[.string op, .string nm, .int .i64 vt, .int .i64 vn, .string vs, .slice (some ⟨ba, oa, none⟩) l.length ca, .int .i64 pos] 26)) w4) := BW.out.trans (b4.mono hlr)
                      clear cY b4
                      go_wp2
                      go_roundg (l.length - (kk + 1))
                      case measure => have := HKL.out; omega
                      case rel => exact ⟨kk + 1, by have := HKL.out; omega, by omega, by go_num, BW4, HG2⟩
                    · rw [if_pos hE0] at hat
                      subst hat
                      have hEb : (E != 0) = true := by simpa using hE0
                      clear hE0
                      go_wp2_with fail
                      refine cY.mono ?_
                      rintro e w4 ⟨rfl, b4⟩
                      have b5 : Below w.heap.size w w4 := bwr.trans (b4.mono bwr.size)
                      clear cY b4
                      go_wp2
                      go_ret
                      exact ⟨rfl, b5⟩
                  · have hltz : ¬ (kk : Int) < (l.length : Int) := by omega
                    have hk0 : K = 0 := by rw [← HG.out, List.drop_eq_nil_of_le (by omega), ndsE]
                    subst hk0
                    clear HG HK
                    go_wp2
                    go_ret
                    exact ⟨rfl, bwr⟩
            · have g2 : (vn != 0) = true := by simpa using h2
              simp [nodeB, hA0, hic, hln, hiv, h1, h2] at hN0
              subst hN0
              simp at hK
              subst hK
              clear h1 h2
              go_enter Tryz.func57, Tryz.ntmps57
              go_wp2_with fail
              refine cA.mono ?_
              rintro e w1 ⟨rfl, b2⟩
              have B2 : Below (w.heap.size + 1) (w.alloc (.cells #[.string op, .string nm, .int .i64 vt, .int .i64 vn, .string vs, .slice p l.length ca, .int .i64 pos] 26)) w1 := b2.mono (by simp)
              obtain ⟨⟨k0, k1, k2, k3, k4, k5⟩, hl1, _⟩ := box.out w1 B2
              clear cA b2
              go_wp2_with fail
              refine (cN _).mono ?_
              rintro e w2 ⟨rfl, b3⟩
              have B3 : Below (w.heap.size + 1) (w.alloc (.cells #[.string op, .string nm, .int .i64 vt, .int .i64 vn, .string vs, .slice p l.length ca, .int .i64 pos] 26)) w2 := B2.trans (b3.mono hl1)
              obtain ⟨⟨j0, j1, j2, j3, j4, j5⟩, hl2, bw2⟩ := box.out w2 B3
              clear cN b3 k0 k1 k2 k3 k4 k5 B2
              go_wp2
              go_ret
              exact ⟨rfl, bw2⟩
          · have g1 : (vt != 0) = true := by simpa using h1
            simp [nodeB, hA0, hic, hln, hiv, h1] at hN0
            subst hN0
            simp at hK
            subst hK
            clear h1
            go_enter Tryz.func57, Tryz.ntmps57
            go_wp2_with fail
            refine cA.mono ?_
            rintro e w1 ⟨rfl, b2⟩
            have B2 : Below (w.heap.size + 1) (w.alloc (.cells #[.string op, .string nm, .int .i64 vt, .int .i64 vn, .string vs, .slice p l.length ca, .int .i64 pos] 26)) w1 := b2.mono (by simp)
            obtain ⟨⟨k0, k1, k2, k3, k4, k5⟩, hl1, _⟩ := box.out w1 B2
            clear cA b2
            go_wp2_with fail
            refine (cN _).mono ?_
            rintro e w2 ⟨rfl, b3⟩
            have B3 : Below (w.heap.size + 1) (w.alloc (.cells #[.string op, .string nm, .int .i64 vt, .int .i64 vn, .string vs, .slice p l.length ca, .int .i64 pos] 26)) w2 := B2.trans (b3.mono hl1)
            obtain ⟨⟨j0, j1, j2, j3, j4, j5⟩, hl2, bw2⟩ := box.out w2 B3
            clear cN b3 k0 k1 k2 k3 k4 k5 B2
            go_wp2
            go_ret
            exact ⟨rfl, bw2⟩
        · skip
          simp [nodeB, hA0, hic, hln] at hN0
          subst hN0
          simp at hK
          subst hK
          go_enter Tryz.func57, Tryz.ntmps57
          go_wp2_with fail
          refine cA.mono ?_
          rintro e w1 ⟨rfl, b2⟩
          have B2 : Below (w.heap.size + 1) (w.alloc (.cells #[.string op, .string nm, .int .i64 vt, .int .i64 vn, .string vs, .slice p l.length ca, .int .i64 pos] 26)) w1 := b2.mono (by simp)
          obtain ⟨⟨k0, k1, k2, k3, k4, k5⟩, hl1, _⟩ := box.out w1 B2
          clear cA b2
          go_wp2_with fail
          refine (cN _).mono ?_
          rintro e w2 ⟨rfl, b3⟩
          have B3 : Below (w.heap.size + 1) (w.alloc (.cells #[.string op, .string nm, .int .i64 vt, .int .i64 vn, .string vs, .slice p l.length ca, .int .i64 pos] 26)) w2 := B2.trans (b3.mono hl1)
          obtain ⟨⟨j0, j1, j2, j3, j4, j5⟩, hl2, bw2⟩ := box.out w2 B3
          clear cN b3 k0 k1 k2 k3 k4 k5 B2
          go_wp2
          go_ret
          exact ⟨rfl, bw2⟩
end Go.Proofs.YtfhlhdddhgkinaaGreatDoor
