/-
  Expressions that the law makes of others, and what Eval, and tree's Check, say of them.
-/
import Derived.Test.YtomakklbfjkdpabDoorEvEv
import Derived.Test.YtomakklbfjkdpabDoorEvSd
namespace Go.Proofs.YtomakklbfjkdpabDoor
open Go.RowKit Go.BigFrame
set_option linter.unusedVariables false

abbrev anyB : Nat → Prop := fun _ => True
theorem bd_mk {op : ByteArray} {l : List Ex} (h : ∀ y ∈ l, ExB y) : ExB (mkN op l) := by
  intro q hq
  rw [mkN, Ex.pre] at hq
  rcases List.mem_cons.1 hq with rfl | hq
  · show inB 0
    unfold inB
    omega
  · obtain ⟨y, hy, hq⟩ := mem_pres hq
    have hs : y.pre 2 = (y.pre 1).map fun q => (q.1, q.2 + 1) := pre_shift y 1
    rw [hs] at hq
    obtain ⟨r, hr, rfl⟩ := List.mem_map.1 hq
    exact h y hy r hr
theorem ExB_yes : ExB yesX := by
  intro q hq
  rw [yesX, Ex.pre, Ex.pres] at hq
  obtain rfl := List.mem_singleton.1 hq
  show inB 1
  unfold inB
  omega
theorem ExB_no : ExB noX := by
  intro q hq
  rw [noX, Ex.pre, Ex.pres] at hq
  obtain rfl := List.mem_singleton.1 hq
  show inB 0
  unfold inB
  omega
theorem len_mk {op : ByteArray} {l : List Ex} : ((mkN op l).pre 1).length = (Ex.pres 2 l).length + 1 := by
  rw [mkN, Ex.pre, List.length_cons]
theorem len_two (y : Ex) : (y.pre 2).length = (y.pre 1).length := by rw [pre_shift y 1]; simp
theorem pres_one (a : Ex) : (Ex.pres 2 [a]).length = (a.pre 2).length := by
  rw [Ex.pres, Ex.pres]; simp
theorem mk1_in (op : ByteArray) (hop : op.size ≤ maxLen) {X : World} {x : Ex} {a0 a1 a2 a3 a4 a5 a6 : Value} (ha : ExIn X anyB (.agg #[a0, a1, a2, a3, a4, a5, a6]) x) (g : Nat) (hg : g = X.heap.size) : ExIn (X.alloc (.cells #[a0, a1, a2, a3, a4, a5, a6] 26)) anyB (.agg #[.string op, .string ⟨#[]⟩, .int .i64 0, .int .i64 0, .string ⟨#[]⟩, .slice (some ⟨g, 0, none⟩) 1 1, .int .i64 0]) (mkN op [x]) := by
  subst hg
  have bb : Below X.heap.size X (X.alloc (.cells #[a0, a1, a2, a3, a4, a5, a6] 26)) := (Below.refl _ X).alloc (Nat.le_refl _) _
  rw [mkN, ExIn]
  refine ⟨some ⟨X.heap.size, 0, none⟩, 1, rfl, ⟨by simp [maxLen], by simp⟩, hop, by decide, by decide, .inr ⟨X.heap.size, 0, rfl, by simp, trivial, ?_⟩⟩
  rw [ExsIn, ExsIn]
  have hcl : ∀ i, (X.alloc (.cells #[a0, a1, a2, a3, a4, a5, a6] 26)).cell? ⟨X.heap.size, i, none⟩ = (#[a0, a1, a2, a3, a4, a5, a6] : Array Value)[i]? := fun i => World.cell?_alloc_at _ _ _ _ rfl
  exact ⟨⟨a0, a1, a2, a3, a4, a5, a6, hcl 0, hcl 1, hcl 2, hcl 3, hcl 4, hcl 5, hcl 6, ha.on bb⟩, trivial⟩
theorem ev1_any (op : ByteArray) (hop : op.size ≤ maxLen) {X : World} {x : Ex} {a0 a1 a2 a3 a4 a5 a6 : Value} (ha : ExIn X anyB (.agg #[a0, a1, a2, a3, a4, a5, a6]) x) (la : (x.pre 1).length ≤ 90) (da : ExB x) (vl vr : Value) (zs : List (ByteArray × Int)) (rs : List V3) (henv : KEnv X) (hcv : ColsV X vl zs) (hrv : ValsV X vr rs) (hrs : SizedV rs) (t k : Int) (s : ByteArray) (e : Int) (hR : evP zs rs (mkN op [x]) = ((t, k, s), e)) (g : Nat) (hg : g = X.heap.size) :
    Calls Tryd.prog 5 #[.agg #[.string op, .string ⟨#[]⟩, .int .i64 0, .int .i64 0, .string ⟨#[]⟩, .slice (some ⟨g, 0, none⟩) 1 1, .int .i64 0], vl, vr] (X.alloc (.cells #[a0, a1, a2, a3, a4, a5, a6] 26)) fun e' w' => e' = .returned (.tuple #[.agg #[.int .i64 t, .int .i64 k, .string s], errV e]) ∧ Below X.heap.size X w' := by
  have bb : Below X.heap.size X (X.alloc (.cells #[a0, a1, a2, a3, a4, a5, a6] 26)) := (Below.refl _ X).alloc (Nat.le_refl _) _
  refine (eval_any (mkN op [x]) anyB _ vl vr zs rs _ (henv.on bb) (mk1_in op hop ha g hg) ?_ (bd_mk fun y hy => ?_) (hcv.on bb) (hrv.on bb) hrs t k s e hR).mono fun e' w' h => ⟨h.1, bb.trans (h.2.mono bb.size)⟩
  · rw [len_mk, pres_one, len_two x]
    omega
  · simp only [List.mem_cons, List.not_mem_nil, or_false] at hy
    subst hy
    exact da
theorem mk2_in (op : ByteArray) (hop : op.size ≤ maxLen) {X : World} {x y : Ex} {a0 a1 a2 a3 a4 a5 a6 b0 b1 b2 b3 b4 b5 b6 : Value} (ha : ExIn X anyB (.agg #[a0, a1, a2, a3, a4, a5, a6]) x) (hb : ExIn X anyB (.agg #[b0, b1, b2, b3, b4, b5, b6]) y) (g : Nat) (hg : g = X.heap.size) : ExIn (X.alloc (.cells #[a0, a1, a2, a3, a4, a5, a6, b0, b1, b2, b3, b4, b5, b6] 26)) anyB (.agg #[.string op, .string ⟨#[]⟩, .int .i64 0, .int .i64 0, .string ⟨#[]⟩, .slice (some ⟨g, 0, none⟩) 2 2, .int .i64 0]) (mkN op [x, y]) := by
  subst hg
  have bb : Below X.heap.size X (X.alloc (.cells #[a0, a1, a2, a3, a4, a5, a6, b0, b1, b2, b3, b4, b5, b6] 26)) := (Below.refl _ X).alloc (Nat.le_refl _) _
  rw [mkN, ExIn]
  refine ⟨some ⟨X.heap.size, 0, none⟩, 2, rfl, ⟨by simp [maxLen], by simp⟩, hop, by decide, by decide, .inr ⟨X.heap.size, 0, rfl, by simp, trivial, ?_⟩⟩
  rw [ExsIn, ExsIn, ExsIn]
  have hcl : ∀ i, (X.alloc (.cells #[a0, a1, a2, a3, a4, a5, a6, b0, b1, b2, b3, b4, b5, b6] 26)).cell? ⟨X.heap.size, i, none⟩ = (#[a0, a1, a2, a3, a4, a5, a6, b0, b1, b2, b3, b4, b5, b6] : Array Value)[i]? := fun i => World.cell?_alloc_at _ _ _ _ rfl
  exact ⟨⟨a0, a1, a2, a3, a4, a5, a6, hcl 0, hcl 1, hcl 2, hcl 3, hcl 4, hcl 5, hcl 6, ha.on bb⟩, ⟨⟨b0, b1, b2, b3, b4, b5, b6, hcl 7, hcl 8, hcl 9, hcl 10, hcl 11, hcl 12, hcl 13, hb.on bb⟩, trivial⟩⟩
theorem ev2_any (op : ByteArray) (hop : op.size ≤ maxLen) {X : World} {x y : Ex} {a0 a1 a2 a3 a4 a5 a6 b0 b1 b2 b3 b4 b5 b6 : Value} (ha : ExIn X anyB (.agg #[a0, a1, a2, a3, a4, a5, a6]) x) (hb : ExIn X anyB (.agg #[b0, b1, b2, b3, b4, b5, b6]) y) (la : (x.pre 1).length ≤ 90) (lb : (y.pre 1).length ≤ 90) (da : ExB x) (db : ExB y) (vl vr : Value) (zs : List (ByteArray × Int)) (rs : List V3) (henv : KEnv X) (hcv : ColsV X vl zs) (hrv : ValsV X vr rs) (hrs : SizedV rs) (t k : Int) (s : ByteArray) (e : Int) (hR : evP zs rs (mkN op [x, y]) = ((t, k, s), e)) (g : Nat) (hg : g = X.heap.size) :
    Calls Tryd.prog 5 #[.agg #[.string op, .string ⟨#[]⟩, .int .i64 0, .int .i64 0, .string ⟨#[]⟩, .slice (some ⟨g, 0, none⟩) 2 2, .int .i64 0], vl, vr] (X.alloc (.cells #[a0, a1, a2, a3, a4, a5, a6, b0, b1, b2, b3, b4, b5, b6] 26)) fun e' w' => e' = .returned (.tuple #[.agg #[.int .i64 t, .int .i64 k, .string s], errV e]) ∧ Below X.heap.size X w' := by
  have bb : Below X.heap.size X (X.alloc (.cells #[a0, a1, a2, a3, a4, a5, a6, b0, b1, b2, b3, b4, b5, b6] 26)) := (Below.refl _ X).alloc (Nat.le_refl _) _
  refine (eval_any (mkN op [x, y]) anyB _ vl vr zs rs _ (henv.on bb) (mk2_in op hop ha hb g hg) ?_ (bd_mk fun y hy => ?_) (hcv.on bb) (hrv.on bb) hrs t k s e hR).mono fun e' w' h => ⟨h.1, bb.trans (h.2.mono bb.size)⟩
  · rw [len_mk, pres_two, len_two x, len_two y]
    omega
  · simp only [List.mem_cons, List.not_mem_nil, or_false] at hy
    rcases hy with rfl | rfl
    · exact da
    · exact db
theorem mk3_in (op : ByteArray) (hop : op.size ≤ maxLen) {X : World} {x y z : Ex} {a0 a1 a2 a3 a4 a5 a6 b0 b1 b2 b3 b4 b5 b6 c0 c1 c2 c3 c4 c5 c6 : Value} (ha : ExIn X anyB (.agg #[a0, a1, a2, a3, a4, a5, a6]) x) (hb : ExIn X anyB (.agg #[b0, b1, b2, b3, b4, b5, b6]) y) (hc : ExIn X anyB (.agg #[c0, c1, c2, c3, c4, c5, c6]) z) (g : Nat) (hg : g = X.heap.size) : ExIn (X.alloc (.cells #[a0, a1, a2, a3, a4, a5, a6, b0, b1, b2, b3, b4, b5, b6, c0, c1, c2, c3, c4, c5, c6] 26)) anyB (.agg #[.string op, .string ⟨#[]⟩, .int .i64 0, .int .i64 0, .string ⟨#[]⟩, .slice (some ⟨g, 0, none⟩) 3 3, .int .i64 0]) (mkN op [x, y, z]) := by
  subst hg
  have bb : Below X.heap.size X (X.alloc (.cells #[a0, a1, a2, a3, a4, a5, a6, b0, b1, b2, b3, b4, b5, b6, c0, c1, c2, c3, c4, c5, c6] 26)) := (Below.refl _ X).alloc (Nat.le_refl _) _
  rw [mkN, ExIn]
  refine ⟨some ⟨X.heap.size, 0, none⟩, 3, rfl, ⟨by simp [maxLen], by simp⟩, hop, by decide, by decide, .inr ⟨X.heap.size, 0, rfl, by simp, trivial, ?_⟩⟩
  rw [ExsIn, ExsIn, ExsIn, ExsIn]
  have hcl : ∀ i, (X.alloc (.cells #[a0, a1, a2, a3, a4, a5, a6, b0, b1, b2, b3, b4, b5, b6, c0, c1, c2, c3, c4, c5, c6] 26)).cell? ⟨X.heap.size, i, none⟩ = (#[a0, a1, a2, a3, a4, a5, a6, b0, b1, b2, b3, b4, b5, b6, c0, c1, c2, c3, c4, c5, c6] : Array Value)[i]? := fun i => World.cell?_alloc_at _ _ _ _ rfl
  exact ⟨⟨a0, a1, a2, a3, a4, a5, a6, hcl 0, hcl 1, hcl 2, hcl 3, hcl 4, hcl 5, hcl 6, ha.on bb⟩, ⟨⟨b0, b1, b2, b3, b4, b5, b6, hcl 7, hcl 8, hcl 9, hcl 10, hcl 11, hcl 12, hcl 13, hb.on bb⟩, ⟨⟨c0, c1, c2, c3, c4, c5, c6, hcl 14, hcl 15, hcl 16, hcl 17, hcl 18, hcl 19, hcl 20, hc.on bb⟩, trivial⟩⟩⟩
theorem ev3_any (op : ByteArray) (hop : op.size ≤ maxLen) {X : World} {x y z : Ex} {a0 a1 a2 a3 a4 a5 a6 b0 b1 b2 b3 b4 b5 b6 c0 c1 c2 c3 c4 c5 c6 : Value} (ha : ExIn X anyB (.agg #[a0, a1, a2, a3, a4, a5, a6]) x) (hb : ExIn X anyB (.agg #[b0, b1, b2, b3, b4, b5, b6]) y) (hc : ExIn X anyB (.agg #[c0, c1, c2, c3, c4, c5, c6]) z) (la : (x.pre 1).length ≤ 90) (lb : (y.pre 1).length ≤ 90) (lc : (z.pre 1).length ≤ 90) (da : ExB x) (db : ExB y) (dc : ExB z) (vl vr : Value) (zs : List (ByteArray × Int)) (rs : List V3) (henv : KEnv X) (hcv : ColsV X vl zs) (hrv : ValsV X vr rs) (hrs : SizedV rs) (t k : Int) (s : ByteArray) (e : Int) (hR : evP zs rs (mkN op [x, y, z]) = ((t, k, s), e)) (g : Nat) (hg : g = X.heap.size) :
    Calls Tryd.prog 5 #[.agg #[.string op, .string ⟨#[]⟩, .int .i64 0, .int .i64 0, .string ⟨#[]⟩, .slice (some ⟨g, 0, none⟩) 3 3, .int .i64 0], vl, vr] (X.alloc (.cells #[a0, a1, a2, a3, a4, a5, a6, b0, b1, b2, b3, b4, b5, b6, c0, c1, c2, c3, c4, c5, c6] 26)) fun e' w' => e' = .returned (.tuple #[.agg #[.int .i64 t, .int .i64 k, .string s], errV e]) ∧ Below X.heap.size X w' := by
  have bb : Below X.heap.size X (X.alloc (.cells #[a0, a1, a2, a3, a4, a5, a6, b0, b1, b2, b3, b4, b5, b6, c0, c1, c2, c3, c4, c5, c6] 26)) := (Below.refl _ X).alloc (Nat.le_refl _) _
  refine (eval_any (mkN op [x, y, z]) anyB _ vl vr zs rs _ (henv.on bb) (mk3_in op hop ha hb hc g hg) ?_ (bd_mk fun y hy => ?_) (hcv.on bb) (hrv.on bb) hrs t k s e hR).mono fun e' w' h => ⟨h.1, bb.trans (h.2.mono bb.size)⟩
  · rw [len_mk, pres_three, len_two x, len_two y, len_two z]
    omega
  · simp only [List.mem_cons, List.not_mem_nil, or_false] at hy
    rcases hy with rfl | rfl | rfl
    · exact da
    · exact db
    · exact dc
theorem ck3_any (op : ByteArray) (hop : op.size ≤ maxLen) {X : World} {x y z : Ex} {a0 a1 a2 a3 a4 a5 a6 b0 b1 b2 b3 b4 b5 b6 c0 c1 c2 c3 c4 c5 c6 : Value} (ha : ExIn X anyB (.agg #[a0, a1, a2, a3, a4, a5, a6]) x) (hb : ExIn X anyB (.agg #[b0, b1, b2, b3, b4, b5, b6]) y) (hc : ExIn X anyB (.agg #[c0, c1, c2, c3, c4, c5, c6]) z) (la : (x.pre 1).length ≤ 90) (lb : (y.pre 1).length ≤ 90) (lc : (z.pre 1).length ≤ 90) (henv : TEnv X) (E : Int) (hR : ckP (mkN op [x, y, z]) = E) (g : Nat) (hg : g = X.heap.size) :
    Calls Tryd.prog 9 #[.agg #[.string op, .string ⟨#[]⟩, .int .i64 0, .int .i64 0, .string ⟨#[]⟩, .slice (some ⟨g, 0, none⟩) 3 3, .int .i64 0]] (X.alloc (.cells #[a0, a1, a2, a3, a4, a5, a6, b0, b1, b2, b3, b4, b5, b6, c0, c1, c2, c3, c4, c5, c6] 26)) fun e' w' => e' = .returned (errV E) ∧ Below X.heap.size X w' := by
  have bb : Below X.heap.size X (X.alloc (.cells #[a0, a1, a2, a3, a4, a5, a6, b0, b1, b2, b3, b4, b5, b6, c0, c1, c2, c3, c4, c5, c6] 26)) := (Below.refl _ X).alloc (Nat.le_refl _) _
  have h := check_tree (mkN op [x, y, z]) anyB _ _ (henv.on bb) (mk3_in op hop ha hb hc g hg) (by
    rw [len_mk, pres_three, len_two x, len_two y, len_two z]
    omega)
  rw [hR] at h
  exact h.mono fun e' w' h => ⟨h.1, bb.trans (h.2.mono bb.size)⟩
theorem yes_in (X : World) : ExIn X anyB (.agg #[.string ⟨#[118, 97, 108]⟩, .string ⟨#[]⟩, .int .i64 2, .int .i64 1, .string ⟨#[]⟩, .slice none 0 0, .int .i64 0]) yesX := by
  rw [yesX, ExIn]
  exact ⟨none, 0, rfl, ⟨by decide, by decide⟩, by decide, by decide, by decide, .inl rfl⟩
theorem no_in (X : World) : ExIn X anyB (.agg #[.string ⟨#[118, 97, 108]⟩, .string ⟨#[]⟩, .int .i64 2, .int .i64 0, .string ⟨#[]⟩, .slice none 0 0, .int .i64 0]) noX := by
  rw [noX, ExIn]
  exact ⟨none, 0, rfl, ⟨by decide, by decide⟩, by decide, by decide, by decide, .inl rfl⟩
theorem ev_fact : evP [(⟨#[120]⟩, 1)] [(1, 3, ⟨#[]⟩)] (mkN ⟨#[110, 111, 116]⟩ [noX]) = ((2, 1, ⟨#[]⟩), 0) := by kernel_rfl
end Go.Proofs.YtomakklbfjkdpabDoor
