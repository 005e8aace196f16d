/-
  KdOf, ColV, KdOfB, ColsOpen, KdOpen, in one text.
-/
import Derived.Test.YtkoejkpjkcejcaaGreatDoorQKdTy
import Derived.Test.YtkoejkpjkcejcaaGreatDoorGrAl
import Derived.Test.YtkoejkpjkcejcaaGreatDoorGrAa
import Derived.Test.YtkoejkpjkcejcaaGreatDoorRows
import Derived.Deep.SlicePairs
import Derived.OpenShut
import Derived.Carry
import Derived.ProofKit
import Derived.Deep.Strs
namespace Go.Proofs.YtkoejkpjkcejcaaGreatDoor
open Go.RowKit Go.BigFrame
set_option linter.unusedVariables false

theorem fold_ck : ∀ (l : List (Ex × Nat)) (s : Int), s = 0 → (foldP fck s l).1 = 0 → ∀ q ∈ l, nodeE q.1 = 0
  | [], _, _, _, q, hq => absurd hq (by simp)
  | p :: r, s, hs, h, q, hq => by
    rw [foldP] at h
    by_cases h0 : nodeE p.1 = 0
    · have h1 : (fck s p.1 p.2).2 = true := by rw [fck]; simpa using h0
      rw [if_pos h1] at h
      rcases List.mem_cons.1 hq with rfl | hq
      · exact h0
      · exact fold_ck r _ (by rw [fck]; exact h0) h q hq
    · have h1 : ¬ (fck s p.1 p.2).2 = true := by rw [fck]; simpa using h0
      rw [if_neg h1] at h
      exact absurd h h0
theorem fold_ck' : ∀ (l : List (Ex × Nat)) (s : Int), s = 0 → (∀ q ∈ l, nodeE q.1 = 0) → (foldP fck s l).1 = 0
  | [], s, hs, _ => hs
  | p :: r, s, hs, h => by
    have h0 := h p (List.mem_cons_self ..)
    have h1 : (fck s p.1 p.2).2 = true := by rw [fck]; simpa using h0
    rw [foldP, if_pos h1]
    exact fold_ck' r _ (by rw [fck]; exact h0) fun q hq => h q (List.mem_cons_of_mem _ hq)
theorem fold_tg : ∀ (l : List (Ex × Nat)) (s : Nat), (foldP ftg s l).2 = true ↔ (l = [] ∨ s + l.length ≤ 200) ∧ ∀ q ∈ l, q.2 ≤ 30
  | [], s => by simp [foldP]
  | p :: r, s => by
    rw [foldP]
    by_cases h : (ftg s p.1 p.2).2 = true
    · rw [if_pos h, fold_tg r]
      rw [ftg] at h ⊢
      simp at h ⊢
      constructor
      · rintro ⟨h1, h2⟩
        refine ⟨?_, h.2, h2⟩
        rcases h1 with rfl | h1
        · simp; omega
        · omega
      · rintro ⟨h1, h2, h3⟩
        exact ⟨.inr (by omega), h3⟩
    · rw [if_neg h]
      rw [ftg] at h
      simp at h ⊢
      intro h1 h2
      have := h (by omega)
      omega
theorem pre_shift : ∀ (x : Ex) (d : Nat), x.pre (d + 1) = (x.pre d).map fun q => (q.1, q.2 + 1) := by
  refine Ex.ind fun op nm vt vn vs pos l ih d => ?_
  rw [Ex.pre, Ex.pre, List.map_cons]
  congr 1
  induction l with
  | nil => rfl
  | cons y ys ihl =>
    rw [Ex.pres, Ex.pres, List.map_append, ih y (List.mem_cons_self ..) (d + 1), ihl fun z hz => ih z (List.mem_cons_of_mem _ hz)]
theorem pres_len {d : Nat} {y : Ex} : ∀ {l : List Ex}, y ∈ l → (y.pre d).length ≤ (Ex.pres d l).length
  | [], h => absurd h (by simp)
  | x :: xs, h => by
    rw [Ex.pres, List.length_append]
    rcases List.mem_cons.1 h with rfl | h
    · omega
    · have := pres_len (d := d) h; omega
theorem ckP_zero {x : Ex} (h : ckP x = 0) : tgB x = false ∧ ∀ q ∈ x.pre 1, nodeE q.1 = 0 := by
  rw [ckP] at h
  cases ht : tgB x
  · rw [ht, if_neg (by simp)] at h
    exact ⟨rfl, fold_ck _ 0 rfl h⟩
  · rw [ht, if_pos rfl] at h
    exact absurd h (by decide)
/-- A part of what is right is right. -/
theorem ckP_part {x y : Ex} (h : ckP x = 0) (hy : y ∈ x.args) : ckP y = 0 := by
  obtain ⟨h1, h2⟩ := ckP_zero h
  have hsub : ∀ q ∈ y.pre 2, q ∈ x.pre 1 := fun q hq => by rw [pre_eq]; exact List.mem_cons_of_mem _ (pres_mem hy q hq)
  have hlen : (y.pre 2).length ≤ (x.pre 1).length := by rw [pre_eq 1 x, List.length_cons]; have h := pres_len (d := 1 + 1) hy; exact Nat.le_succ_of_le h
  have hs := pre_shift y 1
  have hin : ∀ q ∈ y.pre 1, ((q.1, q.2 + 1) : Ex × Nat) ∈ x.pre 1 := fun q hq => hsub _ (by rw [hs]; exact List.mem_map.2 ⟨q, hq, rfl⟩)
  have ht : (foldP ftg 0 (x.pre 1)).2 = true := by rw [tgB] at h1; simpa using h1
  obtain ⟨g1, g2⟩ := (fold_tg _ 0).1 ht
  have hty : tgB y = false := by
    rw [tgB, (fold_tg (y.pre 1) 0).2 ⟨?_, fun q hq => by have := g2 _ (hin q hq); simp at this; omega⟩]
    · rfl
    · right
      have e1 : (y.pre 1).length = (y.pre 2).length := by rw [hs]; simp
      rcases g1 with g1 | g1
      · rw [pre_eq] at g1; simp at g1
      · omega
  rw [ckP, hty, if_neg (by simp)]
  exact fold_ck' (y.pre 1) 0 rfl (fun q hq => h2 (q.1, q.2 + 1) (hin q hq))
theorem apL_le (x : List UInt8) : (apL x opsL).2 = true → (apL x opsL).1 ≤ 3 ∧ 0 ≤ (apL x opsL).1 := by
  have h : ∀ l : List (List UInt8 × Int), (∀ o ∈ l, o.2 ≤ 3 ∧ 0 ≤ o.2) → (apL x l).2 = true → (apL x l).1 ≤ 3 ∧ 0 ≤ (apL x l).1 := fun l => by
    induction l with
    | nil => intro _ h; simp [apL] at h
    | cons o os ih =>
      intro ho
      rw [apL]
      split
      · exact fun _ => ho o (List.mem_cons_self ..)
      · exact ih fun q hq => ho q (List.mem_cons_of_mem _ hq)
  exact h opsL (by decide)
theorem node_ok {x : Ex} (h : nodeE x = 0) : (apL x.op.data.toList opsL).2 = true ∧ (x.args.length : Int) = (apL x.op.data.toList opsL).1 ∧ ((x.op.toList == [118, 97, 108]) = true → ckV x.vt x.vn x.vs.data.toList = 0) := by
  rw [nodeE, nodeB] at h
  split at h
  · exact absurd h (by decide)
  · rename_i h1
    split at h
    · exact absurd h (by decide)
    · rename_i h2
      simp at h1 h2
      refine ⟨h1.1, ?_, fun hv => ?_⟩
      · have := h2.1
        simpa using this
      · rwa [if_pos hv] at h
theorem ck_small {x : Ex} (h : ckP x = 0) : ∀ q ∈ x.pre 1, q.1.args.length ≤ 3 := fun q hq => by
  obtain ⟨h1, h2, _⟩ := node_ok ((ckP_zero h).2 q hq)
  have := apL_le _ h1
  omega
end Go.Proofs.YtkoejkpjkcejcaaGreatDoor
namespace Go.Proofs.YtkoejkpjkcejcaaGreatDoor
open Go.RowKit
set_option linter.unusedVariables false

/-- A slice of columns. -/
def ColsV (w : World) (v : Value) (zs : List (ByteArray × Int)) : Prop := ∃ q c, v = .slice q zs.length c ∧ (zs.length = 0 ∨ ∃ b off, q = some ⟨b, off, none⟩ ∧ zs.length ≤ c ∧ (∀ z ∈ zs, z.1.size ≤ maxLen) ∧ ColsIn w b off zs)
theorem ColsV.on {w w' : World} {v : Value} {zs : List (ByteArray × Int)} (h : ColsV w v zs) (hb : Below w.heap.size w w') : ColsV w' v zs := by
  obtain ⟨q, c, e, h⟩ := h
  refine ⟨q, c, e, ?_⟩
  rcases h with h | ⟨b, off, e2, h1, h2, h3⟩
  · exact .inl h
  · exact .inr ⟨b, off, e2, h1, h2, h3.on hb⟩
end Go.Proofs.YtkoejkpjkcejcaaGreatDoor
namespace Go.Proofs.YtkoejkpjkcejcaaGreatDoor
open Go.RowKit Go.BigFrame
set_option linter.unusedVariables false

/-- What Of says. -/
def ofP (zs : List (ByteArray × Int)) (x : Ex) : Int × Int × Int := if ckP x ≠ 0 then (0, ckP x, 0) else if schE zs ≠ 0 then (0, schE zs, 0) else tyP zs x
end Go.Proofs.YtkoejkpjkcejcaaGreatDoor
namespace Go.Proofs.YtkoejkpjkcejcaaGreatDoor
open Go.ChangeShapes Go.WideShapes Go.ChangeAt Go.RowKit Go.Deep

theorem laidOut : laidOutB Tryz.prog = true := by kernel_rfl
theorem cellsStr : Tryz.prog.cellsOf 9 = 1 := by kernel_rfl
theorem cellsInt : Tryz.prog.cellsOf 3 = 1 := by kernel_rfl
end Go.Proofs.YtkoejkpjkcejcaaGreatDoor
namespace Go.Proofs.YtkoejkpjkcejcaaGreatDoor
open Go.ChangeShapes Go.WideShapes Go.ChangeAt Go.RowKit Go.Deep
set_option linter.unusedVariables false

instance : Inhabited Ex := ⟨.node ⟨#[]⟩ ⟨#[]⟩ 0 0 ⟨#[]⟩ 0 []⟩
theorem pres_bulk {H : Type} : ∀ (l : List Ex) (es : List (DataW H)), l.length = es.length → (∀ i (h : i < l.length) (h2 : i < es.length), (l[i].pre 1).length ≤ Rows.uptoBulk es[i]) → (Ex.pres 2 l).length ≤ Rows.uptoBulkAll es
  | [], [], _, _ => by rw [Ex.pres]; simp
  | x :: xs, e :: es, hl, h => by
    rw [Ex.pres, List.length_append, Rows.uptoBulkAll]
    have h0 := h 0 (by simp) (by simp)
    have h1 : (x.pre 1).length = (x.pre 2).length := by rw [pre_shift x 1]; simp
    have h2 := pres_bulk xs es (by simpa using hl) fun i a b => by
      have := h (i + 1) (by simpa using a) (by simpa using b)
      simpa using this
    simp only [List.getElem_cons_zero] at h0
    omega
  | [], _ :: _, hl, _ => by simp at hl
  | _ :: _, [], hl, _ => by simp at hl
theorem cellsEx : Tryz.prog.cellsOf 26 = 7 := by kernel_rfl
theorem cellsVl : Tryz.prog.cellsOf 23 = 3 := by kernel_rfl
theorem cellsSx : Tryz.prog.cellsOf 24 = 1 := by kernel_rfl
/-- The numbers of an expression are a machine's. -/
def Ex.bd (x : Ex) : Prop := ∀ d, ∀ q ∈ x.pre d, -9223372036854775808 ≤ q.1.vn ∧ q.1.vn ≤ 9223372036854775807
theorem mem_presO {d : Nat} {q : Ex × Nat} : ∀ {l : List Ex}, q ∈ Ex.pres d l → ∃ y ∈ l, q ∈ y.pre d
  | [], h => by rw [Ex.pres] at h; cases h
  | x :: xs, h => by
    rw [Ex.pres] at h
    rcases List.mem_append.1 h with h | h
    · exact ⟨x, by simp, h⟩
    · obtain ⟨y, hy, h⟩ := mem_presO h
      exact ⟨y, by simp [hy], h⟩
theorem bd_node {op nm vs : ByteArray} {vt vn pos : Int} {l : List Ex} (h : -9223372036854775808 ≤ vn ∧ vn ≤ 9223372036854775807) (hl : ∀ y ∈ l, y.bd) : (Ex.node op nm vt vn vs pos l).bd := by
  intro d q hq
  rw [Ex.pre] at hq
  rcases List.mem_cons.1 hq with rfl | hq
  · exact h
  · obtain ⟨y, hy, hq⟩ := mem_presO hq
    exact hl y hy _ q hq
theorem int_bd {x : Int} (h : (Lit.int .i64 x).wf = true) : -9223372036854775808 ≤ x ∧ x ≤ 9223372036854775807 := by
  simpa [Lit.wf, IntKind.min, IntKind.max, IntKind.signed, IntKind.bits] using h
/-- Expressions one behind the other, each opened. -/
theorem exs_of {W : World} {a : Addr} {len : Nat} {B : Nat → Nat} (hel : ∀ i, i < len → ∃ x : Ex, ∃ ci : List Value, W.cells? 0 (a.add (i * 7)) 7 = some ci ∧ ExIn W (fun _ => True) (.agg ci.toArray) x ∧ ci.length = 7 ∧ (x.pre 1).length ≤ B i ∧ x.bd) :
    ∃ l : List Ex, l.length = len ∧ (len = 0 ∨ ∃ b off, some a = some (⟨b, off, none⟩ : Addr) ∧ b < W.heap.size ∧ True ∧ ExsIn W (fun _ => True) b off l) ∧ ∀ i (h : i < l.length), (l[i].pre 1).length ≤ B i ∧ l[i].bd := by
  obtain ⟨f, hF⟩ := choose_lt hel
  refine ⟨(List.range len).map f, by simp, ?_, fun i h => ?_⟩
  · by_cases h0 : len = 0
    · exact .inl h0
    · right
      obtain ⟨b, off, spot⟩ := a
      obtain ⟨c0, hc0, _, hl0, _⟩ := hF 0 (by omega)
      have he := (World.cells?_some hc0).2.2 0 (by omega)
      rw [List.getElem?_eq_getElem (by omega)] at he
      have hspot : spot = none := by simpa [Addr.add] using World.cell?_spot he
      subst hspot
      refine ⟨b, off, rfl, cell_lt' (o := off) (by simpa [Addr.add] using he), trivial, exsIn_mk _ _ _ _ _ fun j hj => ?_⟩
      have hj' : j < len := by simpa using hj
      obtain ⟨cj, hcj, hxj, hlj, _⟩ := hF j hj'
      have hc := (World.cells?_some hcj).2.2
      match cj, hlj with
      | [v0, v1, v2, v3, v4, v5, v6], _ =>
        refine ⟨v0, v1, v2, v3, v4, v5, v6, ?_, ?_, ?_, ?_, ?_, ?_, ?_, ?_⟩
        · simpa [add_plain] using hc 0 (by decide)
        · simpa [add_plain, Nat.add_assoc] using hc 1 (by decide)
        · simpa [add_plain, Nat.add_assoc] using hc 2 (by decide)
        · simpa [add_plain, Nat.add_assoc] using hc 3 (by decide)
        · simpa [add_plain, Nat.add_assoc] using hc 4 (by decide)
        · simpa [add_plain, Nat.add_assoc] using hc 5 (by decide)
        · simpa [add_plain, Nat.add_assoc] using hc 6 (by decide)
        · simp only [List.getElem_map, List.getElem_range]
          exact hxj
  · have hi : i < len := by simpa using h
    obtain ⟨_, _, _, _, hb, hd⟩ := hF i hi
    simp only [List.getElem_map, List.getElem_range]
    exact ⟨hb, hd⟩
set_option maxHeartbeats 1000000 in
set_option maxRecDepth 100000 in
theorem open_ex {H : Type} {enc : TypeId × Value → H} {W : World} : ∀ (fuel : Nat) (cs : List Value) (d : DataW H) (ps : List MemPlace), DataW.trod enc Tryz.prog W 0 (fun _ => true) true fuel 26 cs = some (d, ps) → ∃ x, ExIn W (fun _ => True) (.agg cs.toArray) x ∧ cs.length = 7 ∧ (x.pre 1).length ≤ Rows.uptoBulk d ∧ x.bd := by
  intro fuel
  induction fuel using Nat.strongRecOn with
  | ind fuel ih =>
    intro cs d ps h
    obtain ⟨xs, n, hfu, hx, hl, hlen, hf⟩ := DataW.trod_struct Tryz.underlying26 h
    rw [cellsEx] at hl
    match cs, hl, xs, hlen with
    | [c0, c1, c2, c3, c4, c5, c6], _, [y0, y1, y2, y3, y4], _ =>
      have t0 := hf 0 _ rfl
      have t1 := hf 1 _ rfl
      have t2 := hf 2 _ rfl
      have t3 := hf 3 _ rfl
      have t4 := hf 4 _ rfl
      simp [cellsStr, cellsInt, cellsVl, cellsSx] at t0 t1 t2 t3 t4
      obtain ⟨s0, e0, r0, z0⟩ := DataW.trod_string Tryz.underlying9 t0
      obtain ⟨s1, e1, r1, z1⟩ := DataW.trod_string Tryz.underlying9 t1
      obtain ⟨k6, e6, r6, z6⟩ := DataW.trod_int Tryz.underlying3 t4
      obtain ⟨w0, w1, w2, m2, r2, _, v0, v1, v2⟩ := trod_struct3 Tryz.underlying23 t2
      simp [cellsStr, cellsInt] at v0 v1 v2
      obtain ⟨k2, e2, q2, _⟩ := DataW.trod_int Tryz.underlying3 v0
      obtain ⟨k3, e3, q3, z3⟩ := DataW.trod_int Tryz.underlying3 v1
      obtain ⟨s4, e4, q4, z4⟩ := DataW.trod_string Tryz.underlying9 v2
      simp at e0 e1 e2 e3 e4 e6
      subst e0 e1 e2 e3 e4 e6
      obtain ⟨rfl, rfl⟩ := Prod.mk.inj hx
      rcases DataW.trod_slice Tryz.underlying24 t3 with ⟨hcs, hy⟩ | ⟨a, len, cap, elems, rest, m, hm, hcs, hy, _, hlc, hcm, hle, hel, _, _⟩
      · simp at hcs
        subst hcs
        refine ⟨.node s0 s1 k2 k3 s4 k6 [], ?_, rfl, ?_, bd_node (int_bd z3) (fun y hy => by cases hy)⟩
        · rw [ExIn]; exact ⟨none, 0, rfl, ⟨by simp, by simp⟩, z0, z1, z4, .inl rfl⟩
        · rw [Ex.pre, Ex.pres]
          simp [Rows.uptoBulk]
      · simp at hcs
        subst hcs
        rw [cellsEx] at hel
        have hel' : ∀ i, i < len → ∃ x : Ex, ∃ ci : List Value, W.cells? 0 (a.add (i * 7)) 7 = some ci ∧ ExIn W (fun _ => True) (.agg ci.toArray) x ∧ ci.length = 7 ∧ (x.pre 1).length ≤ Rows.uptoBulk ((elems[i]?.map (·.1)).getD .nil) ∧ x.bd := fun i hi => by
          have h1 := hel i hi
          have h2 : elems[i]? = some (elems[i]'(by omega)) := List.getElem?_eq_getElem (by omega)
          rw [h2, Option.bind_eq_some_iff] at h1
          obtain ⟨ci, hci, hti⟩ := h1
          obtain ⟨x, hx1, hx2, hx3, hx4⟩ := ih m (by omega) ci _ _ hti
          exact ⟨x, ci, hci, hx1, hx2, by rw [h2]; exact hx3, hx4⟩
        obtain ⟨l, rfl, hin, hbl⟩ := exs_of (B := fun i => Rows.uptoBulk ((elems[i]?.map (·.1)).getD .nil)) hel'
        refine ⟨.node s0 s1 k2 k3 s4 k6 l, ?_, rfl, ?_, bd_node (int_bd z3) (fun y hy => by
          obtain ⟨i, hi, rfl⟩ := List.mem_iff_getElem.1 hy
          exact (hbl i hi).2)⟩
        · rw [ExIn]
          exact ⟨some a, cap, rfl, ⟨by omega, hlc⟩, z0, z1, z4, hin⟩
        · rw [Ex.pre, List.length_cons]
          have hb : (Ex.pres 2 l).length ≤ Rows.uptoBulkAll (elems.map (·.1)) := by
            refine pres_bulk _ _ (by simp [hle]) fun i h1 h2 => ?_
            have hb := (hbl i h1).1
            rw [List.getElem?_eq_getElem (by omega)] at hb
            simpa using hb
          have hy1 := congrArg Prod.fst hy
          simp only at hy1
          simp only [List.map_cons, List.map_nil, Rows.uptoBulk, Rows.uptoBulkAll, hy1]
          have : (Ex.pres (1 + 1) l).length = (Ex.pres 2 l).length := rfl
          omega
set_option maxRecDepth 100000 in
theorem open_args {H : Type} {enc : TypeId × Value → H} {W : World} {base : Nat} {v : Value} {d : DataW H} {p : List MemPlace} (hv : Value.okWide Tryz.prog W .any base 24 v) (h : DataW.Trod enc Tryz.prog W 0 (fun _ => true) true 24 v d p) :
    ∃ l, ArgsIs W (fun _ => True) v l ∧ (Ex.pres 2 l).length ≤ Rows.uptoBulk d := by
  obtain ⟨a0, len0, cap0, rfl⟩ := okWide_slice Tryz.underlying24 hv
  obtain ⟨fuel, hf⟩ := h
  rcases DataW.trod_slice Tryz.underlying24 hf with ⟨hcs, hy⟩ | ⟨a, len, cap, elems, rest, m, hm, hcs, hy, _, hlc, hcm, hle, hel, _, _⟩
  · simp [Value.cells] at hcs
    obtain ⟨rfl, rfl, rfl⟩ := hcs
    exact ⟨[], ⟨_, _, rfl, ⟨by simp, by simp⟩, .inl rfl⟩, by rw [Ex.pres]; simp⟩
  · simp [Value.cells] at hcs
    obtain ⟨rfl, rfl, rfl⟩ := hcs
    rw [cellsEx] at hel
    have hel' : ∀ i, i < len0 → ∃ x : Ex, ∃ ci : List Value, W.cells? 0 (a.add (i * 7)) 7 = some ci ∧ ExIn W (fun _ => True) (.agg ci.toArray) x ∧ ci.length = 7 ∧ (x.pre 1).length ≤ Rows.uptoBulk ((elems[i]?.map (·.1)).getD .nil) ∧ x.bd := fun i hi => by
      have h1 := hel i hi
      have h2 : elems[i]? = some (elems[i]'(by omega)) := List.getElem?_eq_getElem (by omega)
      rw [h2, Option.bind_eq_some_iff] at h1
      obtain ⟨ci, hci, hti⟩ := h1
      obtain ⟨x, hx1, hx2, hx3, hx4⟩ := open_ex m ci _ _ hti
      exact ⟨x, ci, hci, hx1, hx2, by rw [h2]; exact hx3, hx4⟩
    obtain ⟨l, rfl, hin, hbl⟩ := exs_of (B := fun i => Rows.uptoBulk ((elems[i]?.map (·.1)).getD .nil)) hel'
    refine ⟨l, ⟨_, _, rfl, ⟨by omega, hlc⟩, hin⟩, ?_⟩
    have hb : (Ex.pres 2 l).length ≤ Rows.uptoBulkAll (elems.map (·.1)) := by
      refine pres_bulk _ _ (by simp [hle]) fun i h1 h2 => ?_
      have hb := (hbl i h1).1
      rw [List.getElem?_eq_getElem (by omega)] at hb
      simpa using hb
    have hy1 := congrArg Prod.fst hy
    simp only at hy1
    simp only [Rows.uptoBulk, hy1]
    omega
set_option maxRecDepth 100000 in
/-- An expression that is handed in. -/
theorem open_expr {H : Type} {enc : TypeId × Value → H} {W : World} {base : Nat} {v : Value} {d : DataW H} {p : List MemPlace} (hv : Value.okWide Tryz.prog W .any base 26 v) (h : DataW.Trod enc Tryz.prog W 0 (fun _ => true) true 26 v d p) :
    ∃ x, ExIn W (fun _ => True) v x ∧ (x.pre 1).length ≤ Rows.uptoBulk d ∧ x.bd := by
  obtain ⟨cs, rfl, _⟩ := okWide_struct Tryz.underlying26 hv
  obtain ⟨fuel, hf⟩ := h
  obtain ⟨x, h1, _, h3, h4⟩ := open_ex fuel _ _ _ hf
  exact ⟨x, by simpa [Value.cells] using h1, h3, h4⟩
end Go.Proofs.YtkoejkpjkcejcaaGreatDoor
