/-
  QyOpen, QkP, QkA, in one text.
-/
import Derived.Test.YtkbhmghdonomnaaGreatDoorGzAx
import Derived.Test.YtkbhmghdonomnaaGreatDoorGzAl
import Derived.Test.YtkbhmghdonomnaaGreatDoorGzAw
namespace Go.Proofs.YtkbhmghdonomnaaGreatDoor
open Go.ChangeShapes Go.WideShapes Go.ChangeAt Go.RowKit Go.Deep
set_option linter.unusedVariables false
theorem cellsQy : Tryz.prog.cellsOf 30 = 14 := by kernel_rfl
theorem cellsAg : Tryz.prog.cellsOf 49 = 9 := by kernel_rfl
theorem cellsSs : Tryz.prog.cellsOf 27 = 1 := by kernel_rfl
theorem cellsSa : Tryz.prog.cellsOf 28 = 1 := by kernel_rfl
theorem bulk_pos {H : Type} (d : DataW H) : 1 ≤ Rows.uptoBulk d := by
 match d with
 | .lit (.string l) => simp [Rows.uptoBulk]
 | .lit (.int _ _) => simp [Rows.uptoBulk]
 | .lit (.bool _) => simp [Rows.uptoBulk]
 | .lit (.float _ _) => simp [Rows.uptoBulk]
 | .lit .nil => simp [Rows.uptoBulk]
 | .nil => simp [Rows.uptoBulk]
 | .ptr _ => simp [Rows.uptoBulk]
 | .slice _ _ => simp [Rows.uptoBulk]
 | .agg _ => simp [Rows.uptoBulk]
 | .iface _ _ => simp [Rows.uptoBulk]
 | .map _ => simp [Rows.uptoBulk]
 | .held _ => simp [Rows.uptoBulk]
theorem bulk_len {H : Type} : ∀ (l : List (DataW H)), l.length ≤ Rows.uptoBulkAll l
 | [] => by simp [Rows.uptoBulkAll]
 | d :: l => by
  rw [Rows.uptoBulkAll, List.length_cons]
  have := bulk_pos d
  have := bulk_len l
  omega
theorem bulk_mem {H : Type} : ∀ (l : List (DataW H)) (i : Nat) (h : i < l.length), Rows.uptoBulk l[i] ≤ Rows.uptoBulkAll l
 | d :: l, 0, h => by rw [Rows.uptoBulkAll]; simp
 | d :: l, i + 1, h => by
  rw [Rows.uptoBulkAll]
  have := bulk_mem l i (by simpa using h)
  simp only [List.getElem_cons_succ]
  omega
set_option maxRecDepth 100000 in
/-- Texts that are handed in. -/
theorem open_sts {H : Type} {enc : TypeId × Value → H} {W : World} {fuel : Nat} {cs : List Value} {d : DataW H} {ps : List MemPlace} (h : DataW.trod enc Tryz.prog W 0 (fun _ => true) true fuel 27 cs = some (d, ps)) (hb : Rows.uptoBulk d ≤ 1048576) :
  ∃ p c ts, cs = [.slice p ts.length c] ∧ StsA W (.slice p ts.length c) ts ∧ (∀ s ∈ ts, s.size ≤ 1048576) := by
 rcases open_strs Tryz.underlying27 Tryz.underlying9 cellsStr h with ⟨rfl, hx⟩ | ⟨a, len, cap, m, Sx, rfl, _, hl, hm, hmm, hx, hall⟩
 ·exact ⟨none, 0, [], rfl, StsA.nil _, fun s hs => by cases hs⟩
 ·simp only [if_true] at hmm
  obtain rfl : cap = m := hmm.symm
  have hlen : ((List.range len).map Sx).length = len := by simp
  have hd := congrArg Prod.fst hx
  simp only at hd
  subst hd
  have hbl : len ≤ 1048576 := by
   rw [Rows.uptoBulk] at hb
   have := bulk_len ((List.range len).map fun i => (DataW.lit (.string (Sx i).data.toList) : DataW H))
   simp at this
   omega
  refine ⟨some a, cap, (List.range len).map Sx, by rw [hlen], ⟨some a, cap, by rw [hlen], ⟨by omega, by omega⟩, (fun hp => nomatch hp), fun b hb => ?_⟩, fun s hs => ?_⟩
  ·injection hb with hb
   subst hb
   by_cases h0 : len = 0
   ·exact .inl (by omega)
   ·right
    obtain ⟨sb, so, spot⟩ := a
    have hspot : spot = none := by simpa [Addr.add] using World.cell?_spot (hall 0 (by omega)).1
    subst hspot
    refine ⟨sb, so, rfl, ?_, fun j hj => ?_⟩
    ·have := (hall 0 (by omega)).1
     exact cell_lt' (o := so + 0) (by simpa [Addr.add] using this)
    ·have hj' : j < len := by omega
     have := (hall j (by omega)).1
     simp only [List.getElem_map, List.getElem_range]
     simpa [add_plain] using this
  ·obtain ⟨i, hi, rfl⟩ := List.mem_map.1 hs
   have hi2 := List.mem_range.1 hi
   rw [Rows.uptoBulk] at hb
   have h4 := bulk_mem ((List.range len).map fun i => (DataW.lit (.string (Sx i).data.toList) : DataW H)) i (by simpa using hi2)
   rw [List.getElem_map, List.getElem_range, Rows.uptoBulk] at h4
   simp only [Array.length_toList] at h4
   have h5 : (Sx i).data.size = (Sx i).size := rfl
   omega
set_option maxRecDepth 100000 in
/-- Expressions that are handed in. -/
theorem open_exs {H : Type} {enc : TypeId × Value → H} {W : World} {fuel : Nat} {cs : List Value} {d : DataW H} {ps : List MemPlace} (h : DataW.trod enc Tryz.prog W 0 (fun _ => true) true fuel 24 cs = some (d, ps)) (hb : Rows.uptoBulk d ≤ 1048576) :
  ∃ p c l, cs = [.slice p l.length c] ∧ ArgsIs W (fun _ => True) (.slice p l.length c) l ∧ l.length ≤ 1048576 ∧ (∀ x ∈ l, (x.pre 1).length ≤ 1048576 ∧ x.bd) := by
 rcases DataW.trod_slice Tryz.underlying24 h with ⟨rfl, hy⟩ | ⟨a, len, cap, elems, rest, m, hm, rfl, hy, _, hlc, hcm, hle, hel, _, _⟩
 ·exact ⟨none, 0, [], rfl, ⟨_, _, rfl, ⟨by simp, by simp⟩, .inl rfl⟩, Nat.zero_le _, fun x hx => by cases hx⟩
 ·rw [cellsEx] at hel
  have hel' : ∀ i, i < len → ∃ x : Ex, ∃ ci : List Value, W.cells? 0 (a.add (i * 7)) 7 = some ci ∧ ExIn W (fun _ => True) (.agg ci.toArray) x ∧ ci.length = 7 ∧ (x.pre 1).length ≤ Rows.uptoBulk ((elems[i]?.map (·.1)).getD .nil) ∧ x.bd := fun i hi => by
   have h1 := hel i hi
   have h2 : elems[i]? = some (elems[i]'(by omega)) := List.getElem?_eq_getElem (by omega)
   rw [h2, Option.bind_eq_some_iff] at h1
   obtain ⟨ci, hci, hti⟩ := h1
   obtain ⟨x, hx1, hx2, hx3, hx4⟩ := open_ex m ci _ _ hti
   exact ⟨x, ci, hci, hx1, hx2, by rw [h2]; exact hx3, hx4⟩
  obtain ⟨l, rfl, hin, hbl⟩ := exs_of (B := fun i => Rows.uptoBulk ((elems[i]?.map (·.1)).getD .nil)) hel'
  have hy1 := congrArg Prod.fst hy
  simp only at hy1
  subst hy1
  rw [Rows.uptoBulk] at hb
  have hbl2 := bulk_len (elems.map (·.1))
  rw [List.length_map] at hbl2
  refine ⟨some a, cap, l, rfl, ⟨_, _, rfl, ⟨by omega, hlc⟩, hin⟩, by omega, fun x hx => ?_⟩
  obtain ⟨i, hi, rfl⟩ := List.mem_iff_getElem.1 hx
  refine ⟨?_, (hbl i hi).2⟩
  have h3 := (hbl i hi).1
  rw [List.getElem?_eq_getElem (by omega)] at h3
  have h4 := bulk_mem (elems.map (·.1)) i (by rw [List.length_map]; omega)
  rw [List.getElem_map] at h4
  simp only [Option.map_some, Option.getD_some] at h3
  omega
instance : Inhabited Ag := ⟨⟨⟨#[]⟩, .node ⟨#[]⟩ ⟨#[]⟩ 0 0 ⟨#[]⟩ 0 [], ⟨#[]⟩⟩⟩
set_option maxHeartbeats 1000000 in
set_option maxRecDepth 100000 in
/-- Aggregates that are handed in. -/
theorem open_ags {H : Type} {enc : TypeId × Value → H} {W : World} {fuel : Nat} {cs : List Value} {d : DataW H} {ps : List MemPlace} (h : DataW.trod enc Tryz.prog W 0 (fun _ => true) true fuel 28 cs = some (d, ps)) (hb : Rows.uptoBulk d ≤ 1048576) :
  ∃ p c l, cs = [.slice p l.length c] ∧ AgsIs W (fun _ => True) p l ∧ l.length ≤ c ∧ (∀ a ∈ l, (a.arg.pre 1).length ≤ 1048576 ∧ a.arg.bd ∧ a.what.size ≤ 1048576 ∧ a.name.size ≤ 1048576) := by
 rcases DataW.trod_slice Tryz.underlying28 h with ⟨rfl, hy⟩ | ⟨a, len, cap, elems, rest, m, hm, rfl, hy, _, hlc, hcm, hle, hel, _, _⟩
 ·exact ⟨none, 0, [], rfl, ⟨Nat.zero_le _, .inl rfl⟩, Nat.le_refl _, fun x hx => by cases hx⟩
 ·rw [cellsAg] at hel
  have hy1 := congrArg Prod.fst hy
  simp only at hy1
  subst hy1
  rw [Rows.uptoBulk] at hb
  have hbl2 := bulk_len (elems.map (·.1))
  rw [List.length_map] at hbl2
  have hel' : ∀ i, i < len → ∃ g : Ag, ∃ ap ac, W.cells? 0 (a.add (i * 9)) 9 = some [.string g.what, .string g.arg.op, .string g.arg.nm, .int .i64 g.arg.vt, .int .i64 g.arg.vn, .string g.arg.vs, .slice ap g.arg.args.length ac, .int .i64 g.arg.pos, .string g.name] ∧ ExIn W (fun _ => True) (exV g.arg ap ac) g.arg ∧ (g.arg.pre 1).length ≤ 1048576 ∧ g.arg.bd ∧ g.what.size ≤ 1048576 ∧ g.name.size ≤ 1048576 := fun i hi => by
   have h1 := hel i hi
   have h2 : elems[i]? = some (elems[i]'(by omega)) := List.getElem?_eq_getElem (by omega)
   rw [h2, Option.bind_eq_some_iff] at h1
   obtain ⟨ci, hci, hti⟩ := h1
   obtain ⟨y0, y1, y2, n, hx, hl, t0, t1, t2⟩ := trod_struct3 Tryz.underlying49 hti
   rw [cellsAg] at hl
   match ci, hl with
   | [c0, c1, c2, c3, c4, c5, c6, c7, c8], _ =>
    simp [cellsStr, cellsEx] at t0 t1 t2
    obtain ⟨s0, e0, r0, z0⟩ := DataW.trod_string Tryz.underlying9 t0
    obtain ⟨s2, e2, r2, z2⟩ := DataW.trod_string Tryz.underlying9 t2
    simp at e0 e2
    subst e0 e2
    obtain ⟨x, hx1, _, hx3, hx4⟩ := open_ex n _ _ _ t1
    obtain ⟨xp, xc, hw, -⟩ := hx1.whole
    injection hw with hw
    simp only [Array.mk.injEq, List.cons.injEq, and_true] at hw
    obtain ⟨rfl, rfl, rfl, rfl, rfl, rfl, rfl⟩ := hw
    have h4 := bulk_mem (elems.map (·.1)) i (by rw [List.length_map]; omega)
    rw [List.getElem_map, hx] at h4
    simp only [Rows.uptoBulk, Rows.uptoBulkAll] at h4
    have hd0 := congrArg Prod.fst r0
    have hd2 := congrArg Prod.fst r2
    simp only at hd0 hd2
    rw [hd0, hd2] at h4
    simp only [Rows.uptoBulk, Array.length_toList] at h4
    have h50 : s0.data.size = s0.size := rfl
    have h52 : s2.data.size = s2.size := rfl
    exact ⟨⟨s0, x, s2⟩, xp, xc, hci, hx1, (show (x.pre 1).length ≤ 1048576 by omega), hx4, (show s0.size ≤ 1048576 by omega), (show s2.size ≤ 1048576 by omega)⟩
  obtain ⟨f, hF⟩ := choose_lt hel'
  have hlen : ((List.range len).map f).length = len := by simp
  refine ⟨some a, cap, (List.range len).map f, by rw [hlen], ⟨by omega, ?_⟩, by omega, fun g hg => ?_⟩
  ·by_cases h0 : len = 0
   ·exact .inl (by omega)
   ·right
    obtain ⟨b, off, spot⟩ := a
    obtain ⟨_, _, hc0, _⟩ := hF 0 (by omega)
    have he := (World.cells?_some hc0).2.2 0 (by simp)
    have hspot : spot = none := by
     simp only [List.getElem?_cons_zero] at he
     simpa [Addr.add] using World.cell?_spot he
    subst hspot
    refine ⟨b, off, rfl, cell_lt' (o := off) (by simpa [Addr.add] using he), trivial, fun j hj => ?_⟩
    have hj' : j < len := by omega
    obtain ⟨ap, ac, hcj, hxj, _⟩ := hF j hj'
    have hc := (World.cells?_some hcj).2.2
    simp only [List.getElem_map, List.getElem_range]
    refine ⟨ap, ac, ?_, ?_, ?_, ?_, ?_, ?_, ?_, ?_, ?_, hxj⟩
    ·simpa [add_plain] using hc 0 (by decide)
    ·simpa [add_plain, Nat.add_assoc] using hc 1 (by decide)
    ·simpa [add_plain, Nat.add_assoc] using hc 2 (by decide)
    ·simpa [add_plain, Nat.add_assoc] using hc 3 (by decide)
    ·simpa [add_plain, Nat.add_assoc] using hc 4 (by decide)
    ·simpa [add_plain, Nat.add_assoc] using hc 5 (by decide)
    ·simpa [add_plain, Nat.add_assoc] using hc 6 (by decide)
    ·simpa [add_plain, Nat.add_assoc] using hc 7 (by decide)
    ·simpa [add_plain, Nat.add_assoc] using hc 8 (by decide)
  ·obtain ⟨i, hi, rfl⟩ := List.mem_map.1 hg
   obtain ⟨_, _, _, _, h5, h6, h7, h8⟩ := hF i (List.mem_range.1 hi)
   exact ⟨h5, h6, h7, h8⟩
structure QyOk (q : Qy) : Prop where
 wn : (q.whr.pre 1).length ≤ 1048576
 wb : q.whr.bd
 cn : ∀ x ∈ q.cols, (x.pre 1).length ≤ 1048576 ∧ x.bd
 an : ∀ a ∈ q.aggs, (a.arg.pre 1).length ≤ 1048576 ∧ a.arg.bd ∧ a.what.size ≤ 1048576 ∧ a.name.size ≤ 1048576
 ns : ∀ s ∈ q.names, s.size ≤ 1048576
 gs : ∀ s ∈ q.group, s.size ≤ 1048576
 fs : q.frm.size ≤ 1048576
 z1 : -9223372036854775808 ≤ q.size ∧ q.size ≤ 9223372036854775807
 z2 : -9223372036854775808 ≤ q.slide ∧ q.slide ≤ 9223372036854775807
set_option maxHeartbeats 2000000 in
set_option maxRecDepth 100000 in
/-- A query that is handed in. -/
theorem open_query {H : Type} {enc : TypeId × Value → H} {W : World} {base : Nat} {v : Value} {d : DataW H} {p : List MemPlace} (hv : Value.okWide Tryz.prog W .any base 30 v) (h : DataW.Trod enc Tryz.prog W 0 (fun _ => true) true 30 v d p) (hb : Rows.uptoBulk d ≤ 1048576) :
  ∃ q, QyIn W (fun _ => True) v q ∧ QyOk q := by
 obtain ⟨cs, rfl, _⟩ := okWide_struct Tryz.underlying30 hv
 obtain ⟨fuel, hf⟩ := h
 obtain ⟨xs, n, hfu, hx, hl, hlen, hf⟩ := DataW.trod_struct Tryz.underlying30 hf
 rw [cellsQy] at hl
 obtain ⟨cs⟩ := cs
 simp only [Value.cells] at hl hf ⊢
 match cs, hl, xs, hlen with
 | [c0, c1, c2, c3, c4, c5, c6, c7, c8, c9, c10, c11, c12, c13], _, [y0, y1, y2, y3, y4, y5, y6, y7], _ =>
  have t0 := hf 0 _ rfl
  have t1 := hf 1 _ rfl
  have t2 := hf 2 _ rfl
  have t3 := hf 3 _ rfl
  have t4 := hf 4 _ rfl
  have t5 := hf 5 _ rfl
  have t6 := hf 6 _ rfl
  have t7 := hf 7 _ rfl
  simp [cellsStr, cellsInt, cellsEx, cellsSx, cellsSs, cellsSa] at t0 t1 t2 t3 t4 t5 t6 t7
  obtain ⟨rfl, rfl⟩ := Prod.mk.inj hx
  simp only [List.map_cons, List.map_nil, Rows.uptoBulk, Rows.uptoBulkAll] at hb
  obtain ⟨s0, e0, r0, z0⟩ := DataW.trod_string Tryz.underlying9 t0
  obtain ⟨k5, e5, r5, z5⟩ := DataW.trod_int Tryz.underlying3 t5
  obtain ⟨k6, e6, r6, z6⟩ := DataW.trod_int Tryz.underlying3 t6
  simp at e0 e5 e6
  subst e0 e5 e6
  have hd0 := congrArg Prod.fst r0
  simp only at hd0
  rw [hd0] at hb
  simp only [Rows.uptoBulk, Array.length_toList] at hb
  have h50 : s0.data.size = s0.size := rfl
  obtain ⟨x, hx1, _, hx3, hx4⟩ := open_ex n _ _ _ t1
  obtain ⟨xp, xc, hw, -⟩ := hx1.whole
  injection hw with hw
  simp only [Array.mk.injEq, List.cons.injEq, and_true] at hw
  obtain ⟨rfl, rfl, rfl, rfl, rfl, rfl, rfl⟩ := hw
  obtain ⟨cp, cc, cl, e2, hc1, hc2, hc3⟩ := open_exs t2 (by omega)
  obtain ⟨np, nc, nl, e3, hn1, hn2⟩ := open_sts t3 (by omega)
  obtain ⟨gp, gc, gl, e4, hg1, hg2⟩ := open_sts t4 (by omega)
  obtain ⟨ap, ac, al, e7, ha1, _, ha2⟩ := open_ags t7 (by omega)
  simp at e2 e3 e4 e7
  subst e2 e3 e4 e7
  exact ⟨⟨s0, x, cl, nl, gl, k5, k6, al⟩, ⟨xp, xc, cp, cc, np, nc, gp, gc, ap, ac, rfl, ⟨hx1, hc1, hc2, hn1, hg1, ha1⟩⟩, ⟨by simp only; omega, hx4, hc3, ha2, hn2, hg2, (show s0.size ≤ 1048576 by omega), int_bd z5, int_bd z6⟩⟩
end Go.Proofs.YtkbhmghdonomnaaGreatDoor
namespace Go.Proofs.YtkbhmghdonomnaaGreatDoor
open Go.RowKit Go.BigFrame
set_option linter.unusedVariables false
set_option linter.unusedSimpArgs false
def kS : ByteArray := ⟨#[115, 101, 108, 101, 99, 116, 32, 97, 32, 43, 32, 49, 32, 97, 115, 32, 98, 32, 102, 114, 111, 109, 32, 99, 32, 119, 104, 101, 114, 101, 32, 97, 32, 62, 32, 50]⟩
def kX : Ex := .node ⟨#[43]⟩ ⟨#[]⟩ 0 0 ⟨#[]⟩ 9 [.node ⟨#[99, 111, 108]⟩ ⟨#[97]⟩ 0 0 ⟨#[]⟩ 7 [], .node ⟨#[118, 97, 108]⟩ ⟨#[]⟩ 1 1 ⟨#[]⟩ 11 []]
def kY : Ex := .node ⟨#[62]⟩ ⟨#[]⟩ 0 0 ⟨#[]⟩ 33 [.node ⟨#[99, 111, 108]⟩ ⟨#[97]⟩ 0 0 ⟨#[]⟩ 31 [], .node ⟨#[118, 97, 108]⟩ ⟨#[]⟩ 1 2 ⟨#[]⟩ 35 []]
def kQ : Qy := ⟨⟨#[99]⟩, kY, [kX], [⟨#[98]⟩], [], 0, 0, []⟩
theorem k_lex : (lexAll kS.data.toList).2 = (0, 0) := by kernel_rfl
theorem k_read : qU (lexAll kS.data.toList).1 = (some kQ, []) := by kernel_rfl
theorem k_ck {x : Ex} (hs : tgB x = false) (hm : x ∈ exsQ kQ) (hp : x.pos ≠ 0) : ckB x = false := by
 rw [ckB, ckP, hs, if_neg (by decide)]
 have hok : OkN x := by
  obtain ⟨h, _⟩ := qU_rd (lexAll_gk (s := kS.data.toList) (R := (lexAll kS.data.toList).1) (p := 0) (by rw [← k_lex])).1 (by rw [k_read])
  rcases ok_exs h x hm with h | h
  ·exact absurd (by rw [h]; rfl) hp
  ·exact h
 rw [fold_ck' _ 0 rfl (fun q hq => (hok 1 q hq).1)]
 rfl
theorem k_any : (exsQ kQ).any ckB = false := by
 have h1 : ckB kX = false := k_ck (by rw [tg_small]; simp [kX, Ex.small, Ex.size, Ex.sizes, Ex.deep, Ex.deeps]) (by simp [exsQ, kQ]) (by decide)
 have h2 : ckB kY = false := k_ck (by rw [tg_small]; simp [kY, Ex.small, Ex.size, Ex.sizes, Ex.deep, Ex.deeps]) (by simp [exsQ, kQ]) (by decide)
 simp [exsQ, kQ, h1, h2]
theorem k_parse : qpC kS.data.toList = (kQ, 0, 0) := qpC_all (R := (lexAll kS.data.toList).1) (by rw [← k_lex]) k_read k_any
theorem qpC_zero {l : List UInt8} {q : Qy} {P : Nat} (h : qpC l = (q, 0, P)) : P = 0 ∧ ∃ R p, lexAll l = (R, 0, p) ∧ (qU R).1 = some q := by
 rw [qpC] at h
 split at h
 ·rename_i h0
  exact absurd (Prod.mk.inj (Prod.mk.inj h).2).1 h0
 rename_i h0
 have h1 : (lexAll l).2.1 = 0 := by simpa using h0
 split at h
 ·rename_i q1 hq
  split at h
  ·exact absurd (Prod.mk.inj (Prod.mk.inj h).2).1 (by decide)
  ·obtain ⟨rfl, h2⟩ := Prod.mk.inj h
   obtain ⟨-, rfl⟩ := Prod.mk.inj h2
   exact ⟨rfl, (lexAll l).1, (lexAll l).2.2, by rw [← h1], by rw [hq]⟩
 ·exact absurd (Prod.mk.inj (Prod.mk.inj h).2).1 (by decide)
theorem placeT_le {l : List UInt8} {R rs : List Tok} {p : Nat} (hL : lexAll l = (R, 0, p)) (hs : rs <:+ R) : placeT rs l.length ≤ l.length := by
 obtain ⟨_, _, h3, _⟩ := lexAll_ok hL
 have h4 := (stand_small l R 0 (Nat.zero_le _) h3).2
 cases rs with
 | nil => exact Nat.le_refl _
 | cons t q => exact (h4 t (hs.subset (by simp))).2
theorem qU_suf (ts : List Tok) : (qU ts).2 <:+ ts := by
 rw [qU]
 refine thU_suf (jU_suf _ _) fun _ rs => ?_
 split
 ·rw [qTwoU]
  exact thU_suf (sevU_suf aggU_suf _ _ _) fun a rs => thU_suf (frU_suf rs) fun f rs => thU_suf (by
   rw [grU]
   exact thU_suf (jU_suf _ _) fun _ rs => thU_suf (jU_suf _ _) fun _ rs => thU_suf (sevU_suf nU_suf _ _ _) fun g rs => thU_suf (jU_suf _ _) fun _ rs => thU_suf (iU_suf _) fun z rs => thU_suf (by
    rw [slU]
    cases h : nxT (sgT [wSlide]) rs with
    | none => exact List.suffix_rfl
    | some p => exact (iU_suf _).trans (nx_suf h)) fun s rs => List.suffix_rfl) fun g rs => List.suffix_rfl
 ·rw [qOneU]
  exact thU_suf (sevU_suf colU_suf _ _ _) fun a rs => thU_suf (frU_suf rs) fun f rs => List.suffix_rfl
theorem qpC_at {l : List UInt8} {q : Qy} {E : Int} {P : Nat} (h : qpC l = (q, E, P)) : P ≤ l.length := by
 rw [qpC] at h
 split at h
 ·rename_i h0
  obtain ⟨-, h2⟩ := Prod.mk.inj h
  obtain ⟨-, rfl⟩ := Prod.mk.inj h2
  exact (lexAll_bad (s := l) rfl h0).2.1
 rename_i h0
 have h1 : (lexAll l).2.1 = 0 := by simpa using h0
 have hL : lexAll l = ((lexAll l).1, 0, (lexAll l).2.2) := by rw [← h1]
 split at h
 ·split at h
  ·obtain ⟨-, h2⟩ := Prod.mk.inj h
   obtain ⟨-, rfl⟩ := Prod.mk.inj h2
   exact Nat.zero_le _
  ·obtain ⟨-, h2⟩ := Prod.mk.inj h
   obtain ⟨-, rfl⟩ := Prod.mk.inj h2
   exact Nat.zero_le _
 ·rename_i o r hne hq
  obtain ⟨-, h2⟩ := Prod.mk.inj h
  obtain ⟨-, rfl⟩ := Prod.mk.inj h2
  have := qU_suf (lexAll l).1
  rw [hq] at this
  exact placeT_le hL this
theorem prQ_ok {q : Qy} (h : (prQ q).2 = 0) : (prQ q).1 = wrQ q ∧ ∃ p, qpC (wrQ q) = (p, 0, 0) ∧ sameQ p q = true := by
 rw [prQ] at h ⊢
 split at h
 ·rename_i h1
  rw [if_pos h1]
  refine ⟨rfl, (qpC (wrQ q)).1, ?_, h1.2⟩
  have e : qpC (wrQ q) = ((qpC (wrQ q)).1, 0, (qpC (wrQ q)).2.2) := by
   have := h1.1
   rw [← this]
  obtain ⟨h3, _⟩ := qpC_zero e
  rw [e, h3]
 ·exact absurd h (by decide)
theorem prQ_back {s : List UInt8} {q : Qy} {P : Nat} (h : qpC s = (q, 0, P)) (hl : s.length ≤ 100) : (prQ q).2 = 0 := by
 obtain ⟨q', h1, h2⟩ := query_back h hl
 rw [prQ, h1, if_pos ⟨rfl, h2⟩]
theorem ex0_in : ∀ q ∈ ex0.pre 1, inI q.1.vn := by
 intro q hq
 rw [ex0, Ex.pre] at hq
 simp [Ex.pres] at hq
 subst hq
 exact in0
theorem name_size {n : ByteArray} (h : nameT n.data.toList = true) : n.size ≤ 1048576 := by
 simp only [nameT, lettersB, Bool.and_eq_true, decide_eq_true_eq] at h
 have e : n.data.toList.length = n.size := by rw [Lib.size_eq]
 omega
theorem qyW_read {l : List UInt8} {q : Qy} {P : Nat} (h : qpC l = (q, 0, P)) : QyW q := by
 have hsm := qpC_small h
 obtain ⟨_, R, p, hL, hq⟩ := qpC_zero h
 obtain ⟨hok, _⟩ := qU_rd (lexAll_gk hL).1 hq
 have hx : ∀ x ∈ exsQ q, ExO x := fun x hx => ⟨by rw [pre_len]; have := hsm x hx; omega, by
  rcases ok_exs hok x hx with rfl | h
  ·exact ex0_in
  ·exact fun q hq => (h 1 q hq).2⟩
 have hag : ∀ a ∈ q.aggs, OkA a := by
  rcases hok.2.2 with ⟨h1, _⟩ | ⟨_, _, _, h4, _⟩
  ·rw [h1]; exact fun a ha => absurd ha (by simp)
  ·exact h4
 have hn : (∀ s ∈ q.names, nameT s.data.toList = true) ∧ (∀ s ∈ q.group, nameT s.data.toList = true) := by
  rcases hok.2.2 with ⟨_, h2, _, _, c, _, _, h7, h8⟩ | ⟨_, h2, _, _, h5, _⟩
  ·rw [h7, h2]
   refine ⟨fun s hs => ?_, fun s hs => absurd hs (by simp)⟩
   obtain ⟨p, hp, rfl⟩ := List.mem_map.1 hs
   exact (h8 p hp).2
  ·rw [h2]
   exact ⟨fun s hs => absurd hs (by simp), h5⟩
 have hzz : inI q.size ∧ inI q.slide := by
  rcases hok.2.2 with ⟨_, _, h3, h4, _⟩ | ⟨_, _, _, _, _, _, h7, h8⟩
  ·rw [h3, h4]; exact ⟨in0, in0⟩
  ·exact ⟨⟨by have := h7.1; omega, by have := h7.2; omega⟩, ⟨by have := h8.1; omega, by have := h8.2; omega⟩⟩
 refine ⟨hx _ (by simp [exsQ]), fun x h => hx x (by simp only [exsQ, List.mem_cons, List.mem_append]; exact .inr (.inl h)), fun a ha => ⟨hx _ (by simp only [exsQ, List.mem_cons, List.mem_append, List.mem_map]; exact .inr (.inr ⟨a, ha, rfl⟩)), ?_, name_size (hag a ha).2.2⟩, fun s hs => name_size (hn.1 s hs), fun s hs => name_size (hn.2 s hs), name_size hok.1, hzz.1, hzz.2⟩
 have h1 := (hag a ha).1
 have e : a.what.data.toList.length = a.what.size := by rw [Lib.size_eq]
 simp only [isAg, Bool.or_eq_true, decide_eq_true_eq] at h1
 rcases h1 with h | h | h | h <;> rw [h] at e <;> simp at e <;> omega
theorem qyW_ok {q : Qy} (h : QyOk q) : QyW q := ⟨⟨h.wn, h.wb 1⟩, fun x hx => ⟨(h.cn x hx).1, (h.cn x hx).2 1⟩, fun a ha => ⟨⟨(h.an a ha).1, (h.an a ha).2.1 1⟩, (h.an a ha).2.2.1, (h.an a ha).2.2.2⟩, h.ns, h.gs, h.fs, h.z1, h.z2⟩
structure StF (w3 : World) (PC : Array Value) (E : Int) (P : Nat) (W : World) : Prop where
 bel : Below w3.heap.size w3 W
 pc : Blk W w3.heap.size PC 30
 ft : Blk W (w3.heap.size + 1) #[.int .i64 E, .int .i64 (P : Nat)] 34
theorem StF.on {w3 W W' : World} {PC : Array Value} {E : Int} {P : Nat} (h : StF w3 PC E P W) (hb : Below W.heap.size W W') : StF w3 PC E P W' := ⟨h.bel.trans (hb.mono h.bel.size), h.pc.on hb, h.ft.on hb⟩
theorem store_facts (w3 : World) (PC : Array Value) (E : Int) (P : Nat) (H : PcO PC) : ∃ W9 : World, (∀ (ops : Array Oper) (rest : List Oper) (op : Oper) (a : Act) (Q : Exit → Act → World → Prop), op.guard = none → ∀ p y : Operand, op.op = .store 30 p y → a.eval p = .pointer (some ⟨w3.heap.size, 0, none⟩) → a.eval y = .agg PC → wpList Tryz.prog ops Q rest (a.put op.dst undef) W9 → wpList Tryz.prog ops Q (op :: rest) a ((w3.alloc (.cells q0D 30)).alloc (.cells #[.int .i64 0, .int .i64 0] 34))) ∧ W9.cell? ⟨w3.heap.size + 1, 0, none⟩ = some (.int .i64 0) ∧ W9.cell? ⟨w3.heap.size + 1, 1, none⟩ = some (.int .i64 0) ∧ W9.frozen? ⟨w3.heap.size + 1, 0, none⟩ = false ∧ W9.frozen? ⟨w3.heap.size + 1, 1, none⟩ = false ∧ w3.heap.size + 1 < W9.heap.size ∧ StF w3 PC E P ((W9.setCell ⟨w3.heap.size + 1, 0, none⟩ (.int .i64 E)).setCell ⟨w3.heap.size + 1, 1, none⟩ (.int .i64 (P : Nat))) := by
 have bV : Below w3.heap.size w3 ((w3.alloc (.cells q0D 30)).alloc (.cells #[.int .i64 0, .int .i64 0] 34)) := (al w3 _).alloc (by simp) _
 have XV : Blk ((w3.alloc (.cells q0D 30)).alloc (.cells #[.int .i64 0, .int .i64 0] 34)) w3.heap.size q0D 30 := (blk_alloc w3 _ _).on (al _ _)
 have YV : Blk ((w3.alloc (.cells q0D 30)).alloc (.cells #[.int .i64 0, .int .i64 0] 34)) (w3.heap.size + 1) #[.int .i64 0, .int .i64 0] 34 := by
  have := blk_alloc (w3.alloc (.cells q0D 30)) #[.int .i64 0, .int .i64 0] 34
  rwa [show (w3.alloc (.cells q0D 30)).heap.size = w3.heap.size + 1 by simp] at this
 have X9 := H.blk _ _ _ XV rfl
 have Y9 : Blk (((w3.alloc (.cells q0D 30)).alloc (.cells #[.int .i64 0, .int .i64 0] 34)).setCells w3.heap.size 0 PC.toList) (w3.heap.size + 1) #[.int .i64 0, .int .i64 0] 34 := YV.keep (cellsD_far _ _ _ _ (by omega))
 have b9 : Below w3.heap.size w3 (((w3.alloc (.cells q0D 30)).alloc (.cells #[.int .i64 0, .int .i64 0] 34)).setCells w3.heap.size 0 PC.toList) := belowD_cells (Nat.le_refl _) _ _ _ bV
 refine ⟨((w3.alloc (.cells q0D 30)).alloc (.cells #[.int .i64 0, .int .i64 0] 34)).setCells w3.heap.size 0 PC.toList, fun ops rest op a Q hg p y ho hx hy h => st14 XV rfl H.size H.one _ rfl hg p y ho hx hy h, Y9.cell 0, Y9.cell 1, Y9.frozen 0, Y9.frozen 1, Y9.lt, ⟨(b9.setCell (p := ⟨w3.heap.size + 1, 0, none⟩) (by simp) _).setCell (p := ⟨w3.heap.size + 1, 1, none⟩) (by simp) _, (X9.far (by omega) 0 _).far (by omega) 1 _, (Y9.set 0 _).set 1 _⟩⟩
structure QkC (w : World) (s : ByteArray) (QC : Array Value) (vl : Value) (RL : List Cl) (RE : Int) (T1 : ByteArray) (K1 : Int) (E : Int) (P : Nat) (T2 : ByteArray) (K2 : Int) : Prop where
 fact : ∀ W, Below w.heap.size w W → Calls Tryz.prog 5 #[.string kS] W fun e w' => (∃ (PC : Array Value) (cp : Option Addr) (cc nb no nc : Nat), e = .returned (.tuple #[.agg PC, .agg #[.int .i64 0, .int .i64 0]]) ∧ Aside (PcO PC) ∧ Aside (PC[0]? = some (.string ⟨#[99]⟩) ∧ PC[1]? = some (.string ⟨#[62]⟩) ∧ PC[8]? = some (.slice cp 1 cc) ∧ PC[9]? = some (.slice (some ⟨nb, no, none⟩) 1 nc)) ∧ nb < w'.heap.size ∧ w'.cell? ⟨nb, no, none⟩ = some (.string ⟨#[98]⟩)) ∧ Below W.heap.size W w'
 print1 : ∀ W, Below w.heap.size w W → Calls Tryz.prog 6 #[.agg QC] W fun e w' => e = .returned (.tuple #[.string T1, errV K1]) ∧ Below W.heap.size W w'
 parse1 : K1 = 0 → ∀ W, Below w.heap.size w W → Calls Tryz.prog 5 #[.string T1] W fun e w' => (∃ PC : Array Value, e = .returned (.tuple #[.agg PC, .agg #[.int .i64 0, .int .i64 0]]) ∧ Aside (PcO PC) ∧ Aside (∀ V, Below w'.heap.size w' V → Calls Tryz.prog 7 #[.agg PC, .agg QC, .bool false] V fun e v' => e = .returned (.bool true) ∧ Below V.heap.size V v')) ∧ Below W.heap.size W w'
 check : ∀ W, Below w.heap.size w W → Calls Tryz.prog 8 #[.agg QC, vl] W fun e w' => (∃ u, e = .returned (.tuple #[u, errV RE]) ∧ Aside (ColsV w' u RL)) ∧ Below W.heap.size W w'
 schema : RE = 0 → ∀ W u, Below w.heap.size w W → ColsV W u RL → Calls Tryz.prog 9 #[u] W fun e w' => e = .returned .nilIface ∧ Below W.heap.size W w'
 parse2 : ∀ W, Below w.heap.size w W → Calls Tryz.prog 5 #[.string s] W fun e w' => (∃ PC : Array Value, e = .returned (.tuple #[.agg PC, .agg #[.int .i64 E, .int .i64 (P : Nat)]]) ∧ Aside (PcO PC) ∧ Aside (E = 0 → ∀ V, Below w'.heap.size w' V → Calls Tryz.prog 6 #[.agg PC] V fun e v' => e = .returned (.tuple #[.string T2, errV K2]) ∧ Below V.heap.size V v')
    ∧ Aside (E = 0 → K2 = 0 → ∀ V, Below w'.heap.size w' V → Calls Tryz.prog 5 #[.string T2] V fun e v' => (∃ PC3 : Array Value, e = .returned (.tuple #[.agg PC3, .agg #[.int .i64 0, .int .i64 0]]) ∧ Aside (PcO PC3) ∧ Aside (∀ U, Below v'.heap.size v' U → Calls Tryz.prog 7 #[.agg PC3, .agg PC, .bool false] U fun e u' => e = .returned (.bool true) ∧ Below U.heap.size U u')) ∧ Below V.heap.size V v')) ∧ Below W.heap.size W w'
 at_ : P ≤ s.size
 k2 : E = 0 → K2 ≠ 0 → 100 < s.size
 sz : s.size ≤ 1048576
end Go.Proofs.YtkbhmghdonomnaaGreatDoor
