/-
  ValA, AgL, ApM, AgK, AgKn, in one text.
-/
import Derived.Test.YtfonalmgdjboeaaDoorGrAa
import Derived.Test.YtfonalmgdjboeaaDoorGrAe
import Derived.Laws.AppendOwn
import Derived.Deep.RegionLaw
import Derived.Deep.RegionHeld3
namespace Go.Proofs.YtfonalmgdjboeaaDoor
open Go.RowKit
set_option linter.unusedVariables false

theorem one3v (t n : Int) (s : ByteArray) : ∀ u ∈ ([.int .i64 t, .int .i64 n, .string s] : List Value), u.oneCell' = true := by
  intro u hu
  simp at hu
  rcases hu with rfl | rfl | rfl <;> rfl
theorem news1 {w : World} {T : TypeId} {g : Nat} (hg : w.heap.size = g) (cs : List Value) : ∀ j u, cs[j]? = some u → (w.alloc (.cells cs.toArray T)).cell? ((⟨g, 0, none⟩ : Addr).add j) = some u := by
  intro j u hu
  rw [Go.WideShapes.add_plain, World.cell?_alloc_at _ _ _ _ (by simp [hg])]
  simpa using hu
/-- A value is appended to a list of one's own. -/
theorem wpList_append_val {w : World} {ops : Array Oper} {rest : List Oper} {o : Oper} {a : Act} {Q : Exit → Act → World → Prop} (hgd : o.guard = none) (s x : Operand)
    (ho : o.op = .call { callee := .builtin .append, args := #[s, x], argTypes := #[38, 38] })
    (base : Nat) (v : Value) (n : Nat) (vs : List V3) (hs : a.eval s = v) (hown : w.ownsRow base 26 3 v n (vcells vs))
    (g c : Nat) (t k : Int) (b : ByteArray) (hx : a.eval x = .slice (some ⟨g, 0, none⟩) 1 c) (hc : ∀ j u, ([.int .i64 t, .int .i64 k, .string b] : List Value)[j]? = some u → w.cell? ((⟨g, 0, none⟩ : Addr).add j) = some u)
    (hsm : n ≤ 1000000000) (hbase : base ≤ w.heap.size)
    (h : ∀ q' c' w', w'.ownsRow base 26 3 (.slice q' (n + 1) c') (n + 1) (vcells (vs ++ [(t, k, b)])) → w.grownBy w' v.ownBlock → wpList Tryd.prog ops Q rest (a.put o.dst (.slice q' (n + 1) c')) w') : wpList Tryd.prog ops Q (o :: rest) a w := by
  obtain ⟨i0, hi, hz0, hz1, hzz⟩ := info_parts info_val
  refine wpList_append_own w hgd s x 38 ho base 26 i0 _ 3 32 Tryd.underlying38 hi hz0 hz1 hzz rfl (by decide) v n (vcells vs) hs hown ⟨g, 0, none⟩ 1 c [.int .i64 t, .int .i64 k, .string b] hx rfl hc (one3v t k b) (by unfold maxLen; omega) (by omega) hbase (fun v' w' o1 o2 _ => ?_)
  obtain ⟨q', c', rfl⟩ : ∃ q' c', v' = .slice q' (n + 1) c' := by
    rcases o1.2 with ⟨_, h0⟩ | ⟨g', cap, cur, e, _⟩
    · omega
    · exact ⟨_, _, e⟩
  exact h q' c' w' (by rw [vcells_append]; exact o1) o2
end Go.Proofs.YtfonalmgdjboeaaDoor
namespace Go.Proofs.YtfonalmgdjboeaaDoor
open Go.RowKit
set_option linter.unusedVariables false

theorem ent_res : ∀ (args : Array Value) (W : World), Sem.run Tryd.prog (callFunc 30 args) W = .ok (.enter 30 args) W := fun args W => by kernel_rfl
/-- What is gathered in Result's list. -/
structure ReSt (w : World) (LA LL a : Nat) (vs : List V3) (W : World) : Prop where
  old : Below LA w W
  ca : W.cell? ⟨LA, 0, none⟩ = some (.pointer (some ⟨a, 0, none⟩))
  la : LA < LL
  ll : ∃ lv, Blk W LL #[lv] 38 ∧ W.ownsRow (LL + 1) 26 3 lv vs.length (vcells vs)
theorem ReSt.on {w W W' : World} {LA LL a : Nat} {vs : List V3} (h : ReSt w LA LL a vs W) (hb : Below W.heap.size W W') : ReSt w LA LL a vs W' := by
  obtain ⟨lv, h1, h2⟩ := h.ll
  have hl := h1.lt
  have := h.la
  have hlow : LA ≤ W.heap.size := by omega
  refine ⟨h.old.trans (hb.mono hlow), by rw [hb.cell (p := ⟨LA, 0, none⟩) (by show LA < _; omega)]; exact h.ca, h.la, lv, h1.on hb, ?_⟩
  refine ⟨h2.1, ?_⟩
  rcases h2.2 with hn | ⟨g, cap, cur, rfl, h3, hgg, rest⟩
  · exact .inl hn
  · exact .inr ⟨g, cap, cur, rfl, h3, by rw [hb.block g (Array.getElem?_eq_some_iff.1 hgg).1]; exact hgg, rest⟩
theorem ReSt.push {w W W1 W2 : World} {LA LL a : Nat} {vs : List V3} {lv : Value} {q' : Option Addr} {c' N : Nat} {x : V3} (h : ReSt w LA LL a vs W) (hN : vs.length = N) (h1 : Blk W LL #[lv] 38) (h2 : W.ownsRow (LL + 1) 26 3 lv N (vcells vs)) (hb : Below W.heap.size W W1) (hg : W1.grownBy W2 lv.ownBlock) (ho : W2.ownsRow (LL + 1) 26 3 (.slice q' (N + 1) c') (N + 1) (vcells (vs ++ [x]))) :
    (W2.cell? ⟨LL, 0, none⟩ = some lv ∧ W2.frozen? ⟨LL, 0, none⟩ = false) ∧ ReSt w LA LL a (vs ++ [x]) (W2.setCell ⟨LL, 0, none⟩ (.slice q' (N + 1) c')) := by
  subst hN
  have hl := h1.lt
  have hla := h.la
  have hs := hb.size
  have hown : ∀ k, lv.ownBlock = some k → LL + 1 ≤ k := fun k hk => (h2.lt k hk).1
  have hk : ∀ k, k ≤ LL → W2.heap[k]? = W1.heap[k]? := fun k hk' => hg.block k (by omega) (fun e => by have := hown k e.symm; omega)
  have hB2 : Blk W2 LL #[lv] 38 := (h1.on hb).keep (hk LL (Nat.le_refl _))
  refine ⟨⟨hB2.cell 0, hB2.frozen 0⟩, ?_⟩
  have hb12 : Below (LL + 1) W1 W2 := (Below.refl _ W1).grown hg (by omega) hown
  refine ⟨(((h.old.trans (hb.mono (by omega))).trans (hb12.mono (by omega))).setCell (p := ⟨LL, 0, none⟩) (by show LA ≤ LL; omega) _), ?_, hla, _, by simpa using hB2.set 0 (.slice q' (vs.length + 1) c'), ?_⟩
  · rw [World.cell?_of_block (w := W2) (a := ⟨LA, 0, none⟩) (Below.heap_setCell _ _ _ _ (by show LA ≠ LL; omega)), hb12.cell (p := ⟨LA, 0, none⟩) (by show LA < _; omega), hb.cell (p := ⟨LA, 0, none⟩) (by show LA < _; omega)]
    exact h.ca
  · rw [List.length_append, List.length_singleton]
    exact ownsRow_setCell_below ho (by show LL < LL + 1; omega) _
set_option maxHeartbeats 4000000 in
set_option maxRecDepth 20000 in
theorem res1_any (w : World) (a g i : Nat) (p : Pt) (q : Option Addr) (pc : Nat) (rows : Int) (LA LL : Nat) (vs : List V3) (W : World) (hS : ReSt w LA LL a vs W) (ha : W.cell? ⟨a, 0, none⟩ = some (.int .i64 rows)) (hal : a < LA) (hp : PartIs W g (i * 6) p q pc) (hok : OkPt p) (hn : vs.length ≤ 6) (T K : Int) (S : ByteArray) (E : Int) (hR : resP p rows = ((T, K, S), E)) :
    Calls Tryd.prog 30 #[.int .i64 (i : Int), .pointer (some ⟨g, i * 6, none⟩), .pointer (some ⟨LA, 0, none⟩), .pointer (some ⟨LL, 0, none⟩)] W fun e w' => e = .returned (errV E) ∧ Aside (ReSt w LA LL a (vs ++ [(T, K, S)]) w') := by
  have cR := ptResult_any g (i * 6) p q pc rows W hp hok T K S E hR
  have hca := hS.ca
  have HS : Aside (ReSt w LA LL a vs W) := hS
  obtain ⟨RV, hRV⟩ : ∃ RV, errV E = RV := ⟨_, rfl⟩
  rw [hRV] at cR ⊢
  clear hp hok hR hS
  go_enter Tryd.func30, Tryd.ntmps30
  go_wp2_with fail
  refine cR.mono ?_
  rintro e W1 ⟨rfl, B1⟩
  clear cR
  have S1 := HS.out.on B1
  obtain ⟨lv, L1, O1⟩ := S1.ll
  obtain ⟨lq, lc, rfl⟩ := lown_slice O1
  have hl1 := L1.cell 0
  have hll := L1.lt
  simp at hl1
  have HS1 : Aside (ReSt w LA LL a vs W1) := S1
  have HO1 : Aside (W1.ownsRow (LL + 1) 26 3 (.slice lq vs.length lc) vs.length (vcells vs)) := O1
  have HL1 : Aside (Blk W1 LL #[.slice lq vs.length lc] 38) := L1
  have hls := HS.out.la
  clear S1 O1 L1 B1 HS hca ha
  generalize hN : vs.length = N at *
  have HN : Hid (vs.length = N) := hN
  go_wp2_with (refine wpList_append_val rfl (.tmp 18) (.tmp 20) rfl (LL + 1) (.slice lq N lc) N vs rfl (lown_below HO1.out (al2 W1 _ _)) (W1.heap.size + 1) 1 T K S rfl (news1 (by simp) _) (by omega) (by simp; omega) ?_; intro q' c' W3 o1 g1; obtain ⟨⟨f1, f2⟩, S3⟩ := HS1.out.push HN.out HL1.out HO1.out (al2 W1 _ _) g1 o1)
  go_ret
  exact ⟨rfl, S3⟩
def reV (ps : List Pt) (rows : Int) : List V3 := ps.map fun p => (resP p rows).1
def reE (ps : List Pt) (rows : Int) : Int := fstE (ps.map fun p => (resP p rows).2)
theorem res_each (a : Nat) (q : Option Addr) (c : Nat) (rows : Int) (ps : List Pt) (w : World) (hA : AccAt w a (.slice q ps.length c) rows ps) (hok : AccOk rows ps) (W0 : World) (h0 : ReSt w w.heap.size (w.heap.size + 1) a [] W0) :
    Calls Tryd.prog 20 #[.pointer (some ⟨a, 0, none⟩), .func (.func 30) #[] #[.pointer (some ⟨w.heap.size, 0, none⟩), .pointer (some ⟨w.heap.size + 1, 0, none⟩)]] W0 fun e w' => e = .returned (errV (reE ps rows)) ∧ Aside (if reE ps rows = 0 then ReSt w w.heap.size (w.heap.size + 1) a (reV ps rows) w' else Below w.heap.size w w') := by
  have hlen : (reV ps rows).length = ps.length := by simp [reV]
  have hE : (ps.map fun p => (resP p rows).2).length = ps.length := by simp
  refine (each_any 30 ent_res #[.pointer (some ⟨w.heap.size, 0, none⟩), .pointer (some ⟨w.heap.size + 1, 0, none⟩)] a q ps.length c (ps.map fun p => (resP p rows).2) hE hok.len (fun i W => ReSt w w.heap.size (w.heap.size + 1) a ((reV ps rows).take i) W) (fun W => Below w.heap.size w W) W0 (by simpa using h0) (fun i W hW => (hA.on hW.old).cell1) (fun h0 => ?_) (fun g i W hi hq hW => ?_) (fun W hW => hW.old) (reE ps rows) rfl).mono fun e w' hh => ⟨hh.1, by have := hh.2.out; rw [← hlen, List.take_length] at this; exact this⟩
  · obtain ⟨g, c', cur, e, _⟩ := hA.at h0
    injection e with e
    exact ⟨g, e⟩
  · have hi1 : i < ps.length := by omega
    obtain ⟨g', c', cur, e, hP⟩ := (hA.on hW.old).at hi1
    injection e with e
    rw [hq] at e
    injection e with e
    injection e with e
    subst e
    obtain ⟨pq, pc, hp⟩ := hP.part i hi1
    have hl6 := hok.len
    have := res1_any w a g i ps[i] pq pc rows w.heap.size (w.heap.size + 1) ((reV ps rows).take i) W hW (hA.on hW.old).cell0 hA.blk.lt hp (hok.ok _ (List.getElem_mem _)).ok (by rw [List.length_take]; omega) (resP ps[i] rows).1.1 (resP ps[i] rows).1.2.1 (resP ps[i] rows).1.2.2 (resP ps[i] rows).2 rfl
    have hEi : (ps.map fun p => (resP p rows).2)[i] = (resP ps[i] rows).2 := by simp
    have ht : (reV ps rows).take (i + 1) = (reV ps rows).take i ++ [((resP ps[i] rows).1.1, (resP ps[i] rows).1.2.1, (resP ps[i] rows).1.2.2)] := by
      rw [List.take_succ_eq_append_getElem (by omega)]
      simp [reV]
    rw [hEi]
    refine this.mono fun e w' hh => ⟨hh.1, ?_⟩
    show ite _ _ _
    split
    · show ReSt _ _ _ _ ((reV ps rows).take (i + 1)) w'
      rw [ht]; exact hh.2.out
    · exact hh.2.out.old
set_option maxHeartbeats 4000000 in
set_option maxRecDepth 20000 in
theorem result_ok (a : Nat) (v : Value) (rows : Int) (ps : List Pt) (w : World) (hA : AccAt w a v rows ps) (hok : AccOk rows ps) (hE : reE ps rows = 0) :
    Calls Tryd.prog 12 #[.pointer (some ⟨a, 0, none⟩)] w fun e w' => (∃ q c, e = .returned (.tuple #[.slice q (reV ps rows).length c, .nilIface]) ∧ Aside (ValsAt w' q (reV ps rows)) ∧ Aside (q = none → c = 0)) ∧ Aside (Below w.heap.size w w') := by
  obtain ⟨q, c, rfl⟩ := hA.form
  have hal := hA.blk.lt
  have cE := fun W0 h0 => res_each a q c rows ps w hA hok W0 h0
  have H0 : ReSt w w.heap.size (w.heap.size + 1) a [] ((w.alloc (.cells #[.pointer (some ⟨a, 0, none⟩)] 32)).alloc (.cells #[.slice none 0 0] 38)) := by
    refine ⟨al2 w _ _, ?_, by omega, .slice none 0 0, ?_, World.ownsRow_nil _ _ _ _⟩
    · rw [((Below.refl _ _).alloc (B := (w.alloc (.cells #[.pointer (some ⟨a, 0, none⟩)] 32)).heap.size) (Nat.le_refl _) _).cell (p := ⟨w.heap.size, 0, none⟩) (by simp), World.cell?_alloc_at _ _ _ _ rfl]; rfl
    · have := blk_alloc (w.alloc (.cells #[.pointer (some ⟨a, 0, none⟩)] 32)) #[.slice none 0 0] 38
      simpa using this
  have cE1 := cE _ H0
  have cE2 : Calls Tryd.prog 20 #[.pointer (some ⟨a, 0, none⟩), .func (.func 30) #[] #[.pointer (some ⟨w.heap.size, 0, none⟩), .pointer (some ⟨w.heap.size + 1, 0, none⟩)]] ((w.alloc (.cells #[.pointer (some ⟨a, 0, none⟩)] 32)).alloc (.cells #[.slice none 0 0] 38)) fun e w' => e = .returned .nilIface ∧ Aside (ReSt w w.heap.size (w.heap.size + 1) a (reV ps rows) w') := cE1.mono fun e w' hh => ⟨by rw [hh.1, hE]; rfl, by have := hh.2.out; rw [if_pos hE] at this; exact this⟩
  clear cE H0 hA hok hE cE1
  generalize reV ps rows = L at *
  go_enter Tryd.func12, Tryd.ntmps12
  go_wp2_with fail
  refine cE2.mono ?_
  rintro e W2 ⟨rfl, S2⟩
  obtain ⟨lv, L2, O2⟩ := S2.out.ll
  obtain ⟨lq, lc, rfl⟩ := lown_slice O2
  have hV : Aside (ValsAt W2 lq L) := ownVals rfl O2
  have hN : Aside (lq = none → lc = 0) := fun h => by
    rcases O2.2 with ⟨e, _⟩ | ⟨g, cap, cur, e, _⟩
    · injection e
    · injection e with e; rw [h] at e; exact absurd e (by simp)
  have f0 := L2.cell 0
  simp at f0
  have B2 : Aside (Below w.heap.size w W2) := S2.out.old
  clear cE2 S2 O2 L2
  go_wp2
  go_ret2
  exact ⟨⟨_, _, rfl, hV, hN⟩, B2⟩
set_option maxHeartbeats 4000000 in
set_option maxRecDepth 20000 in
theorem result_bad (a : Nat) (v : Value) (rows : Int) (ps : List Pt) (w : World) (hA : AccAt w a v rows ps) (hok : AccOk rows ps) (E : Int) (hE : reE ps rows = E) (hE0 : E ≠ 0) :
    Calls Tryd.prog 12 #[.pointer (some ⟨a, 0, none⟩)] w fun e w' => e = .returned (.tuple #[.slice none 0 0, .iface 53 (.int .i64 E)]) ∧ Aside (Below w.heap.size w w') := by
  obtain ⟨q, c, rfl⟩ := hA.form
  have hal := hA.blk.lt
  have cE := fun W0 h0 => res_each a q c rows ps w hA hok W0 h0
  rw [hE] at cE
  have H0 : ReSt w w.heap.size (w.heap.size + 1) a [] ((w.alloc (.cells #[.pointer (some ⟨a, 0, none⟩)] 32)).alloc (.cells #[.slice none 0 0] 38)) := by
    refine ⟨al2 w _ _, ?_, by omega, .slice none 0 0, ?_, World.ownsRow_nil _ _ _ _⟩
    · rw [((Below.refl _ _).alloc (B := (w.alloc (.cells #[.pointer (some ⟨a, 0, none⟩)] 32)).heap.size) (Nat.le_refl _) _).cell (p := ⟨w.heap.size, 0, none⟩) (by simp), World.cell?_alloc_at _ _ _ _ rfl]; rfl
    · have := blk_alloc (w.alloc (.cells #[.pointer (some ⟨a, 0, none⟩)] 32)) #[.slice none 0 0] 38
      simpa using this
  have cE1 := cE _ H0
  have hV : errV E = .iface 53 (.int .i64 E) := by rw [errV, if_neg hE0]
  have cE2 : Calls Tryd.prog 20 #[.pointer (some ⟨a, 0, none⟩), .func (.func 30) #[] #[.pointer (some ⟨w.heap.size, 0, none⟩), .pointer (some ⟨w.heap.size + 1, 0, none⟩)]] ((w.alloc (.cells #[.pointer (some ⟨a, 0, none⟩)] 32)).alloc (.cells #[.slice none 0 0] 38)) fun e w' => e = .returned (.iface 53 (.int .i64 E)) ∧ Aside (Below w.heap.size w w') := cE1.mono fun e w' hh => ⟨by rw [hh.1, hV], by have := hh.2.out; rw [if_neg hE0] at this; exact this⟩
  clear cE H0 hA hok hE cE1 hV hE0
  go_enter Tryd.func12, Tryd.ntmps12
  go_wp2_with fail
  refine cE2.mono ?_
  rintro e W2 ⟨rfl, S2⟩
  clear cE2
  go_wp2
  go_ret2
  exact ⟨rfl, S2⟩
end Go.Proofs.YtfonalmgdjboeaaDoor
namespace Go.Proofs.YtfonalmgdjboeaaDoor
open Go.RowKit
set_option linter.unusedVariables false

/-- append to a slice that is one's own, inside a statement that draws its order. -/
theorem step_append_mine {P : Program} {ops : Array Oper} {o : Oper} {a : Act} {w : World} {K : Act → World → Prop} {Q : Exit → Act → World → Prop} {E : Prop}
    (hg : o.guard = none) (s x : Operand) (t : TypeId) (hop : o.op = Op.call { callee := Callee.builtin Builtin.append, args := #[s, x], argTypes := #[t, t] })
    (base : Nat) (e : TypeId) (i : TypeInfo) (z : Value) (size bytes : Nat) (h1 : P.underlying t = some (.slice e)) (h2 : P.info? e = some i) (h3 : i.zero = some z) (h4 : i.size = size) (h5 : i.bytes = bytes) (h6 : z.cells.size = size) (h7 : 0 < size)
    (v : Value) (n : Nat) (xs : List Value) (hs : a.eval s = v) (hown : w.ownsRow base e size v n xs)
    (ad : Addr) (m c : Nat) (news : List Value) (hx : a.eval x = .slice (some ad) m c) (hn : news.length = m * size) (hc : ∀ j u, news[j]? = some u → w.cell? (ad.add j) = some u) (h1c : ∀ u ∈ news, u.oneCell' = true)
    (b1 : n + m ≤ maxLen) (b2 : (n + m) * bytes ≤ 140737488355328) (hb : base ≤ w.heap.size)
    (hK : ∀ q' c' w', w'.ownsRow base e size (.slice q' (n + m) c') (n + m) (xs ++ news) → w.grownBy w' v.ownBlock → K (a.put o.dst (.slice q' (n + m) c')) w') :
    if Region.wanted o (yielded ops a.tmps) = true then Oper.wp P o a w K Q else E := by
  have hw : Region.wanted o (yielded ops a.tmps) = true := by simp [Region.wanted, hg]
  rw [if_pos hw]
  obtain ⟨v', w', hrun, r1, r2, _⟩ := run_append_own (P := P) w base t o.type e i z size bytes h1 h2 h3 h4 h5 h6 h7 v n xs hown ad m c news hn hc h1c b1 b2 hb
  obtain ⟨q', c', rfl⟩ := lown_slice r1
  unfold Oper.wp
  simp [execOp, hop, resolve, invoke, builtin, hs, hx, hrun, Result.andThen]
  exact hK q' c' w' r1 r2
end Go.Proofs.YtfonalmgdjboeaaDoor
namespace Go.Proofs.YtfonalmgdjboeaaDoor
open Go.RowKit
set_option linter.unusedVariables false

theorem info_part : (Tryd.prog.info? 60).map (fun i => (i.zero, i.size, i.bytes)) = some (some (.agg #[.string ⟨#[]⟩, .int .i64 0, .slice none 0 0, .int .i64 0, .int .i64 0, .string ⟨#[]⟩]), 6, 80) := by kernel_rfl
/-- Aggregates one behind the other, of which just What is known. -/
def AgsW (w : World) (p : Option Addr) (xs : List ByteArray) : Prop := xs.length = 0 ∨ ∃ b off, p = some ⟨b, off, none⟩ ∧ b < w.heap.size ∧ ∀ j (h : j < xs.length), ∃ (op nm : ByteArray) (vt vn : Int) (vs : ByteArray) (ap : Option Addr) (an ac : Nat) (pos : Int) (name : ByteArray),
  w.rangeAt b (off + j * 9) [.string xs[j], .string op, .string nm, .int .i64 vt, .int .i64 vn, .string vs, .slice ap an ac, .int .i64 pos, .string name]
theorem AgsW.on {w w' : World} {p : Option Addr} {xs : List ByteArray} (h : AgsW w p xs) (hb : Below w.heap.size w w') : AgsW w' p xs := by
  rcases h with h | ⟨b, off, e, hl, h⟩
  · exact .inl h
  · refine .inr ⟨b, off, e, by have := hb.size; omega, fun j hj => ?_⟩
    obtain ⟨op, nm, vt, vn, vs, ap, an, ac, pos, name, hr⟩ := h j hj
    exact ⟨op, nm, vt, vn, vs, ap, an, ac, pos, name, fun k v hv => by rw [hb.cell (p := ⟨b, _, none⟩) hl]; exact hr k v hv⟩
/-- Numbers one behind the other. -/
def IntW (w : World) (p : Option Addr) (ts : List Int) : Prop := ts.length = 0 ∨ ∃ b off, p = some ⟨b, off, none⟩ ∧ b < w.heap.size ∧ ∀ j (h : j < ts.length), w.cell? ⟨b, off + j, none⟩ = some (.int .i64 ts[j])
theorem IntW.on {w w' : World} {p : Option Addr} {ts : List Int} (h : IntW w p ts) (hb : Below w.heap.size w w') : IntW w' p ts := by
  rcases h with h | ⟨b, off, e, hl, h⟩
  · exact .inl h
  · exact .inr ⟨b, off, e, by have := hb.size; omega, fun j hj => by rw [hb.cell (p := ⟨b, _, none⟩) hl]; exact h j hj⟩
/-- What is wrong with aggregates of types. -/
def nwL (xs : List ByteArray) (ts : List Int) : List Int := List.zipWith (fun x t => npE x.data.toList t) xs ts
def nwE (xs : List ByteArray) (ts : List Int) : Int := if ts.length ≠ xs.length then 3 else if 6 < xs.length then 4 else fstE (nwL xs ts)
def nwP (xs : List ByteArray) (ts : List Int) : List Pt := List.zipWith npP xs ts
/-- The cells of a part without words. -/
def ptC : List Pt → List Value
  | [] => []
  | p :: ps => .string p.what :: .int .i64 p.kind :: .slice none 0 0 :: .int .i64 0 :: .int .i64 0 :: .string ⟨#[]⟩ :: ptC ps
theorem ptC_len : ∀ ps : List Pt, (ptC ps).length = ps.length * 6
  | [] => rfl
  | p :: ps => by rw [ptC]; simp [ptC_len ps]; omega
theorem ptC_app : ∀ a b : List Pt, ptC (a ++ b) = ptC a ++ ptC b
  | [], _ => rfl
  | p :: a, b => by rw [List.cons_append, ptC, ptC, ptC_app a b]; rfl
theorem ptC_at : ∀ {ps : List Pt} {j : Nat} (h : j < ps.length) (k : Nat) (hk : k < 6), (ptC ps)[j * 6 + k]? = ([.string ps[j].what, .int .i64 ps[j].kind, .slice none 0 0, .int .i64 0, .int .i64 0, .string ⟨#[]⟩] : List Value)[k]?
  | [], _, h, _, _ => absurd h (by simp)
  | p :: ps, 0, _, k, hk => by
    match k, hk with
    | 0, _ => rfl
    | 1, _ => rfl
    | 2, _ => rfl
    | 3, _ => rfl
    | 4, _ => rfl
    | 5, _ => rfl
  | p :: ps, j + 1, h, k, hk => by
    have := ptC_at (ps := ps) (j := j) (by simpa using h) k hk
    rw [ptC, show (j + 1) * 6 + k = (j * 6 + k) + 6 by omega]
    simpa using this
/-- New's Acc while it is made. -/
structure NwSt (w : World) (A : Nat) (ps : List Pt) (W : World) : Prop where
  old : Below A w W
  acc : ∃ v, Blk W A #[.int .i64 0, v] 56 ∧ W.ownsRow (A + 1) 60 6 v ps.length (ptC ps)
theorem NwSt.on {w W W' : World} {A : Nat} {ps : List Pt} (h : NwSt w A ps W) (hb : Below W.heap.size W W') : NwSt w A ps W' := by
  obtain ⟨v, h1, h2⟩ := h.acc
  have hl := h1.lt
  exact ⟨h.old.trans (hb.mono (by omega)), v, h1.on hb, lown_below h2 hb⟩
theorem own_acc {W : World} {A : Nat} {v : Value} {ps : List Pt} (h1 : Blk W A #[.int .i64 0, v] 56) (h2 : W.ownsRow (A + 1) 60 6 v ps.length (ptC ps)) (hp : ∀ p ∈ ps, p.ws = [] ∧ p.best = noV) : AccAt W A v 0 ps := by
  refine ⟨h1, ?_⟩
  rcases id h2.2 with ⟨e, h0⟩ | ⟨g, cap, cur, e, hB, hg, hm, hx, hs, ht⟩
  · exact .inl ⟨List.length_eq_zero_iff.1 h0, e⟩
  · refine .inr ⟨g, cap, cur, e, hg, by omega, fun i hi => ⟨none, 0, ?_⟩⟩
    obtain ⟨hw, hb⟩ := hp ps[i] (List.getElem_mem _)
    have k : ∀ j (hj : j < 6) u, ([.string ps[i].what, .int .i64 ps[i].kind, .slice none 0 0, .int .i64 0, .int .i64 0, .string ⟨#[]⟩] : List Value)[j]? = some u → W.cell? ⟨g, i * 6 + j, none⟩ = some u := fun j hj u hu => by
      have := h2.cells (g := g) (by rw [e]; rfl) (i * 6 + j) u (by rw [ptC_at hi j hj]; exact hu)
      rw [Go.WideShapes.add_plain, Nat.zero_add] at this
      exact this
    refine ⟨k 0 (by decide) _ rfl, k 1 (by decide) _ rfl, ?_, ?_, ?_, ?_, ?_, (Array.getElem?_eq_some_iff.1 hg).1⟩
    · rw [hw]; exact k 2 (by decide) _ rfl
    · rw [hb]; exact k 3 (by decide) _ rfl
    · rw [hb]; exact k 4 (by decide) _ rfl
    · rw [hb]; exact k 5 (by decide) _ rfl
    · rw [hw]; exact TotA.nil _
theorem NwSt.push {w W W1 W2 : World} {A N : Nat} {ps : List Pt} {p : Pt} {v : Value} {q' : Option Addr} {c' : Nat} (h : NwSt w A ps W) (hN : ps.length = N) (h1 : Blk W A #[.int .i64 0, v] 56) (h2 : W.ownsRow (A + 1) 60 6 v N (ptC ps)) (hb : Below W.heap.size W W1) (hg : W1.grownBy W2 v.ownBlock) (ho : W2.ownsRow (A + 1) 60 6 (.slice q' (N + 1) c') (N + 1) (ptC ps ++ [.string p.what, .int .i64 p.kind, .slice none 0 0, .int .i64 0, .int .i64 0, .string ⟨#[]⟩])) :
    (W2.cell? ⟨A, 1, none⟩ = some v ∧ W2.frozen? ⟨A, 1, none⟩ = false) ∧ NwSt w A (ps ++ [p]) (W2.setCell ⟨A, 1, none⟩ (.slice q' (N + 1) c')) := by
  subst hN
  have hl := h1.lt
  have hs := hb.size
  have hown : ∀ k, v.ownBlock = some k → A + 1 ≤ k := fun k hk => (h2.lt k hk).1
  have hk : W2.heap[A]? = W1.heap[A]? := hg.block A (by omega) (fun e => by have := hown A e.symm; omega)
  have hB2 : Blk W2 A #[.int .i64 0, v] 56 := (h1.on hb).keep hk
  refine ⟨⟨hB2.cell 1, hB2.frozen 1⟩, ?_⟩
  have hb12 : Below (A + 1) W1 W2 := (Below.refl _ W1).grown hg (by omega) hown
  refine ⟨(((h.old.trans (hb.mono (by omega))).trans (hb12.mono (by omega))).setCell (p := ⟨A, 1, none⟩) (Nat.le_refl _) _), _, by simpa using hB2.set 1 (.slice q' (ps.length + 1) c'), ?_⟩
  rw [List.length_append, List.length_singleton, ptC_app]
  exact ownsRow_setCell_below ho (by show A < A + 1; omega) _
theorem one6 (x : ByteArray) (k : Int) : ∀ u ∈ ([.string x, .int .i64 k, .slice none 0 0, .int .i64 0, .int .i64 0, .string ⟨#[]⟩] : List Value), u.oneCell' = true := by
  intro u hu
  simp at hu
  rcases hu with rfl | rfl | rfl | rfl | rfl | rfl <;> rfl
end Go.Proofs.YtfonalmgdjboeaaDoor
namespace Go.Proofs.YtfonalmgdjboeaaDoor
open Go.RowKit
set_option linter.unusedVariables false

theorem size_aggB : (Tryd.prog.info? 31).map (·.size) = some 9 := by kernel_rfl
theorem nwL_at {xs : List ByteArray} {ts : List Int} {k : Nat} (h1 : k < xs.length) (h2 : k < ts.length) : fstE ((nwL xs ts).drop k) = if npE xs[k].data.toList ts[k] ≠ 0 then npE xs[k].data.toList ts[k] else fstE ((nwL xs ts).drop (k + 1)) := by
  have hl : k < (nwL xs ts).length := by simp [nwL]; omega
  rw [fstE_at hl]
  simp [nwL]
theorem nwP_take {xs : List ByteArray} {ts : List Int} {k : Nat} (h1 : k < xs.length) (h2 : k < ts.length) : (nwP xs ts).take (k + 1) = (nwP xs ts).take k ++ [npP xs[k] ts[k]] := by
  have hl : k < (nwP xs ts).length := by simp [nwP]; omega
  rw [List.take_succ_eq_append_getElem hl]
  simp [nwP]
set_option maxHeartbeats 4000000 in
set_option maxRecDepth 20000 in
theorem new_gen (ap : Option Addr) (ac : Nat) (xs : List ByteArray) (tp : Option Addr) (tc : Nat) (ts : List Int) (w : World) (henv : AEnv w) (ha : AgsW w ap xs) (ht : IntW w tp ts) (hx : xs.length ≤ maxLen) (htl : ts.length ≤ maxLen) (E : Int) (hE : nwE xs ts = E) (PST : Ending → World → Prop)
    (hbad : ∀ W, E ≠ 0 → Below w.heap.size w W → PST (.returned (.tuple #[.pointer none, .iface 53 (.int .i64 E)])) W)
    (hok : ∀ W, E = 0 → NwSt w w.heap.size (nwP xs ts) W → PST (.returned (.tuple #[.pointer (some ⟨w.heap.size, 0, none⟩), .nilIface])) W) :
    Calls Tryd.prog 6 #[.slice ap xs.length ac, .slice tp ts.length tc] w PST := by
  have hmx : (xs.length : Int) ≤ 9223372036854775807 := by unfold maxLen at hx; omega
  have hmt : (ts.length : Int) ≤ 9223372036854775807 := by unfold maxLen at htl; omega
  have HB : Hid (∀ W, E ≠ 0 → Below w.heap.size w W → PST (.returned (.tuple #[.pointer none, .iface 53 (.int .i64 E)])) W) := hbad
  have HO : Hid (∀ W, E = 0 → NwSt w w.heap.size (nwP xs ts) W → PST (.returned (.tuple #[.pointer (some ⟨w.heap.size, 0, none⟩), .nilIface])) W) := hok
  clear hbad hok
  by_cases hlen : ts.length = xs.length
  · by_cases h6 : 6 < xs.length
    · have hE4 : E = 4 := by rw [← hE, nwE, if_neg (fun h => h hlen), if_pos h6]
      subst hE4
      have h6z : (6 : Int) < (xs.length : Int) := by omega
      have hne : ((xs.length : Int) != (xs.length : Int)) = false := by simp
      rw [hlen]
      clear hE hlen ha ht henv h6 hx htl hmt
      generalize xs.length = N at *
      go_enter Tryd.func6, Tryd.ntmps6
      go_wp2
      exact HB.out _ (by decide) (Below.refl _ _)
    · have hE5 : fstE ((nwL xs ts).drop 0) = E := by rw [← hE, nwE, if_neg (fun h => h hlen), if_neg h6]; rfl
      have h6z : ¬ (6 : Int) < (xs.length : Int) := by omega
      have hne : ((xs.length : Int) != (xs.length : Int)) = false := by simp
      have HEN : Aside (AEnv w) := henv
      have HAG : Aside (AgsW w ap xs) := ha
      have HTY : Aside (IntW w tp ts) := ht
      have HE0 : Hid (fstE ((nwL xs ts).drop 0) = E) := hE5
      have HPL : Hid ((nwP xs ts).length = xs.length) := by show _ = _; simp [nwP, hlen]
      have HLT : Hid (ts.length = xs.length) := hlen
      have S0 : Aside (NwSt w w.heap.size ((nwP xs ts).take 0) (w.alloc (.cells #[.int .i64 0, .slice none 0 0] 56))) := ⟨alB _ _, _, blk_alloc _ _ _, World.ownsRow_nil _ _ _ _⟩
      rw [hlen]
      obtain ⟨N, hN⟩ : ∃ N, xs.length = N := ⟨_, rfl⟩
      have HN : Hid (xs.length = N) := hN
      rw [hN] at hmx h6z hne ⊢
      have hN6 : N ≤ 6 := by omega
      clear hE hlen ha ht henv h6 hx htl hmt hE5 hN
      go_enter Tryd.func6, Tryd.ntmps6
      go_wp2
      go_loopg [27] N (fun gg s27 wr => ∃ kk : Nat, kk ≤ N ∧ N - kk ≤ gg ∧ s27 = .int .i64 kk ∧ Aside (NwSt w w.heap.size ((nwP xs ts).take kk) wr) ∧ Hid (fstE ((nwL xs ts).drop kk) = E))
      case atStart => exact ⟨0, Nat.zero_le _, by omega, rfl, S0, HE0⟩
      case round =>
        obtain ⟨kk, hkk, hg, rfl, SR, HER⟩ := hrel
        clear S0 HE0
        by_cases hlt : kk < N
        · have hltz : (kk : Int) < (N : Int) := by omega
          have h0z : (0 : Int) ≤ (kk : Int) := by omega
          have hkx : kk < xs.length := by rw [HN.out]; exact hlt
          have hkt : kk < ts.length := by rw [HLT.out]; exact hkx
          obtain ⟨ab, ao, rfl, hal, hag⟩ := (HAG.out.resolve_left (by omega))
          obtain ⟨tb, to_, rfl, htl, htg⟩ := (HTY.out.resolve_left (by omega))
          obtain ⟨op, nm, vt, vn, vs, gp, gn, gc, pos, name, hr⟩ := hag kk hkx
          have hT := htg kk hkt
          have hfe := HER.out
          rw [nwL_at hkx hkt] at hfe
          have htk := nwP_take hkx hkt
          clear hag htg HER
          generalize hxk : xs[kk] = x at *
          generalize htk' : ts[kk] = t at *
          have hr2 : wr.rangeAt ab (ao + kk * 9) [.string x, .string op, .string nm, .int .i64 vt, .int .i64 vn, .string vs, .slice gp gn gc, .int .i64 pos, .string name] := fun j v hv => by rw [SR.out.old.cell (p := ⟨ab, _, none⟩) hal]; exact hr j v hv
          have hT2 : wr.cell? ⟨tb, to_ + kk, none⟩ = some (.int .i64 t) := by rw [SR.out.old.cell (p := ⟨tb, _, none⟩) htl]; exact hT
          have hws := SR.out.old.size
          have htw : tb < wr.heap.size := by omega
          have hT3 : ∀ o1 : Obj, (wr.alloc o1).cell? ⟨tb, to_ + kk, none⟩ = some (.int .i64 t) := fun o1 => by rw [(alB wr o1).cell (p := ⟨tb, to_ + kk, none⟩) htw]; exact hT2
          have hT4 : ∀ o1 o2 : Obj, ((wr.alloc o1).alloc o2).cell? ⟨tb, to_ + kk, none⟩ = some (.int .i64 t) := fun o1 o2 => by rw [(al2 wr o1 o2).cell (p := ⟨tb, to_ + kk, none⟩) htw]; exact hT2
          have cN := fun (W : World) (hW : AEnv W) => newPart_any x t W hW (npP x t) rfl _ rfl
          have hEW : AEnv wr := HEN.out.onB SR.out.old HEN.out.big (by omega)
          clear hr hT hT2
          go_wp2_with (refine wpList_load_mid rfl 31 _ rfl ab (ao + kk * 9) rfl _ _ hr2 Tryd.underlying31 rfl size_aggB ?_)
          obtain ⟨X, hX⟩ : ∃ X, wr.alloc (.cells #[.string x, .string op, .string nm, .int .i64 vt, .int .i64 vn, .string vs, .slice gp gn gc, .int .i64 pos, .string name] 31) = X := ⟨_, rfl⟩
          have BX : Below wr.heap.size wr X := by rw [← hX]; exact alB _ _
          have SX : Aside (NwSt w w.heap.size ((nwP xs ts).take kk) X) := SR.out.on BX
          have EX : AEnv X := hEW.on BX
          have x0 : X.cell? ⟨wr.heap.size, 0, none⟩ = some (.string x) := by rw [← hX]; exact (blk_alloc wr _ _).cell 0
          have x1 : X.cell? ⟨tb, to_ + kk, none⟩ = some (.int .i64 t) := by rw [← hX]; exact hT3 _
          have lX : wr.heap.size < X.heap.size := by rw [← hX]; simp
          have lT : tb < X.heap.size := by omega
          have cNB := cN X.drew (EX.on (Below.drew (Below.refl _ _)))
          have cNA0 := cN (X.alloc (.cells #[.string ⟨#[]⟩, .int .i64 0, .slice none 0 0, .int .i64 0, .int .i64 0, .string ⟨#[]⟩] 60)).drew (EX.on (Below.drew (alB _ _)))
          have n1 : wr.heap.size ≠ X.heap.size := by omega
          have n2 : tb ≠ X.heap.size := by omega
          have n3 : X.heap.size ≠ wr.heap.size := by omega
          have n4 : X.heap.size ≠ tb := by omega
          rw [hX]
          clear hX cN hr2 hT3 hT4 SR hEW BX EX
          go_region_held3 (fun w' => w'.cell? ⟨wr.heap.size, 0, none⟩ = some (.string x) ∧ w'.cell? ⟨tb, to_ + kk, none⟩ = some (.int .i64 t)) (go_keep) (first
            | (go_at_call 17; refine cNB.mono ?_; rintro e w2 ⟨rfl, B2⟩; have y0 : w2.cell? ⟨wr.heap.size, 0, none⟩ = some (.string x) := by rw [B2.cell (p := ⟨wr.heap.size, 0, none⟩) lX]; exact x0
               have y1 : w2.cell? ⟨tb, to_ + kk, none⟩ = some (.int .i64 t) := by rw [B2.cell (p := ⟨tb, to_ + kk, none⟩) lT]; exact x1
               have hsz : X.heap.size ≤ w2.heap.size := B2.size
               have n5 : wr.heap.size ≠ w2.heap.size := by omega
               have n6 : tb ≠ w2.heap.size := by omega
               have n7 : w2.heap.size ≠ wr.heap.size := by omega
               have n8 : w2.heap.size ≠ tb := by omega)
            | (go_at_call 17; refine cNA0.mono ?_; rintro e w2 ⟨rfl, B2⟩; have B2' := (Below.drew (alB X _)).trans (B2.mono (by simp)); have y0 : w2.cell? ⟨wr.heap.size, 0, none⟩ = some (.string x) := by rw [B2'.cell (p := ⟨wr.heap.size, 0, none⟩) lX]; exact x0
               have y1 : w2.cell? ⟨tb, to_ + kk, none⟩ = some (.int .i64 t) := by rw [B2'.cell (p := ⟨tb, to_ + kk, none⟩) lT]; exact x1
               have P2 := part_res X ((Below.drew (Below.refl _ _)).trans B2); have c0 := P2.cell 0; have c1 := P2.cell 1; have c2 := P2.cell 2; have c3 := P2.cell 3; have c4 := P2.cell 4; have c5 := P2.cell 5; have cf := P2.frozen; simp at c0 c1 c2 c3 c4 c5))
          · obtain ⟨Y, hY⟩ : ∃ Y, w2.alloc (.cells #[.string (npP x t).what, .int .i64 (npP x t).kind, .slice none 0 0, .int .i64 0, .int .i64 0, .string ⟨#[]⟩] 60) = Y := ⟨_, rfl⟩
            have PY : Blk Y w2.heap.size #[.string (npP x t).what, .int .i64 (npP x t).kind, .slice none 0 0, .int .i64 0, .int .i64 0, .string ⟨#[]⟩] 60 := by rw [← hY]; exact blk_alloc _ _ _
            have SY : NwSt w w.heap.size ((nwP xs ts).take kk) Y := by rw [← hY]; exact ((SX.out.on (Below.drew (Below.refl _ _))).on B2).on (alB _ _)
            rw [hY]
            clear hY B2 SX cNB cNA0 x0 x1 y0 y1 n1 n2 n3 n4 n5 n6 n7 n8 lX lT hsz
            generalize w2.heap.size = pb at *
            have hfe2 := hfe
            obtain ⟨vv, LV, OV⟩ := SY.acc
            have htl2 : ((nwP xs ts).take kk).length = kk := by rw [List.length_take, HPL.out, HN.out]; omega
            obtain ⟨vq, vc, rfl⟩ := lown_slice OV
            rw [htl2] at OV LV
            have HTL : Hid (((nwP xs ts).take kk).length = kk) := htl2
            have a1 := LV.cell 1
            simp at a1
            have hlA := LV.lt
            have HSY : Aside (NwSt w w.heap.size ((nwP xs ts).take kk) Y) := SY
            have HTK : Hid ((nwP xs ts).take (kk + 1) = (nwP xs ts).take kk ++ [npP x t]) := htk
            clear htl2 SY hfe htk
            by_cases hz : npE x.data.toList t = 0
            · rw [if_neg (fun h => h hz)] at hfe2
              rw [hz, show errV 0 = .nilIface from rfl]
              have HFE : Hid (fstE ((nwL xs ts).drop (kk + 1)) = E) := hfe2
              have HOV : Aside (Y.ownsRow (w.heap.size + 1) 60 6 (.slice vq kk vc) kk (ptC ((nwP xs ts).take kk))) := OV
              have HLV : Aside (Blk Y w.heap.size #[.int .i64 0, .slice vq kk vc] 56) := LV
              have p0 := PY.cell 0
              have p1 := PY.cell 1
              have p2 := PY.cell 2
              have p3 := PY.cell 3
              have p4 := PY.cell 4
              have p5 := PY.cell 5
              simp at p0 p1 p2 p3 p4 p5
              obtain ⟨i0, hi0, hz0, hz1, hz2⟩ := info_parts info_part
              clear hfe2 hz OV LV PY
              generalize npP x t = pp at *
              generalize (nwP xs ts).take kk = tk at *
              go_wp2
              go_region_law (refine step_append_mine rfl (.tmp 49) (.tmp 51) 54 rfl (w.heap.size + 1) 60 i0 _ 6 80 Tryd.underlying54 hi0 hz0 hz1 hz2 rfl (by decide) (.slice vq kk vc) kk (ptC tk) (by simp [Act.eval]) (lown_below HOV.out ((Below.drew (Below.refl _ _)).alloc (by simp) _)) ⟨Y.heap.size, 0, none⟩ 1 1 [.string pp.what, .int .i64 pp.kind, .slice none 0 0, .int .i64 0, .int .i64 0, .string ⟨#[]⟩] (by simp [Act.eval]) rfl (news1 (by simp) _) (one6 _ _) (by simp [maxLen]; omega) (by omega) (by simp; omega) ?_; intro q' c' w5 ho hg5; obtain ⟨⟨f1, f2⟩, f3⟩ := HSY.out.push (p := pp) HTL.out HLV.out HOV.out ((Below.drew (Below.refl _ _)).alloc (by simp) _) hg5 ho)
              all_goals
                have SN : Aside (NwSt w w.heap.size ((nwP xs ts).take (kk + 1)) (w5.setCell ⟨w.heap.size, 1, none⟩ (.slice q' (kk + 1) c'))) := by rw [HTK.out]; exact f3
                clear f3 ho hg5
                go_wp2
                go_roundg (N - (kk + 1))
                case measure => omega
                case rel => exact ⟨kk + 1, by omega, by omega, by go_num, SN, HFE⟩
            · rw [if_pos hz] at hfe2
              have hV : errV (npE x.data.toList t) = .iface 53 (.int .i64 E) := by rw [errV, if_neg hz, hfe2]
              rw [hV]
              have HEN0 : Hid (E ≠ 0) := by show E ≠ 0; rw [← hfe2]; exact hz
              have HOL : Aside (Below w.heap.size w Y) := HSY.out.old
              clear hfe2 hz hV OV LV PY HSY HTK
              go_wp2
              exact HB.out _ HEN0.out HOL.out
          · obtain ⟨Y, hY⟩ : ∃ Y, (((((w2.setCell ⟨X.heap.size, 0, none⟩ (.string (npP x t).what)).setCell ⟨X.heap.size, 1, none⟩ (.int .i64 (npP x t).kind)).setCell ⟨X.heap.size, 2, none⟩ (.slice none 0 0)).setCell ⟨X.heap.size, 3, none⟩ (.int .i64 0)).setCell ⟨X.heap.size, 4, none⟩ (.int .i64 0)).setCell ⟨X.heap.size, 5, none⟩ (.string ⟨#[]⟩) = Y := ⟨_, rfl⟩
            have PY : Blk Y X.heap.size #[.string (npP x t).what, .int .i64 (npP x t).kind, .slice none 0 0, .int .i64 0, .int .i64 0, .string ⟨#[]⟩] 60 := by
              rw [← hY]
              have := Blk.cells [.string (npP x t).what, .int .i64 (npP x t).kind, .slice none 0 0, .int .i64 0, .int .i64 0, .string ⟨#[]⟩] 0 _ _ P2
              simp only [putA, List.setIfInBounds_toArray, List.set_cons_zero, List.set_cons_succ, Nat.reduceAdd] at this
              exact this
            have KY : But X.heap.size w2 Y := by rw [← hY]; exact But.cells [.string (npP x t).what, .int .i64 (npP x t).kind, .slice none 0 0, .int .i64 0, .int .i64 0, .string ⟨#[]⟩] 0 _ (But.refl _ _)
            have SY : NwSt w w.heap.size ((nwP xs ts).take kk) Y := SX.out.on (B2'.trans KY.below)
            rw [hY]
            clear hY B2 B2' SX cNB cNA0 x0 x1 y0 y1 n1 n2 n3 n4 lX lT P2 KY c0 c1 c2 c3 c4 c5 cf
            generalize X.heap.size = pb at *
            have hfe2 := hfe
            obtain ⟨vv, LV, OV⟩ := SY.acc
            have htl2 : ((nwP xs ts).take kk).length = kk := by rw [List.length_take, HPL.out, HN.out]; omega
            obtain ⟨vq, vc, rfl⟩ := lown_slice OV
            rw [htl2] at OV LV
            have HTL : Hid (((nwP xs ts).take kk).length = kk) := htl2
            have a1 := LV.cell 1
            simp at a1
            have hlA := LV.lt
            have HSY : Aside (NwSt w w.heap.size ((nwP xs ts).take kk) Y) := SY
            have HTK : Hid ((nwP xs ts).take (kk + 1) = (nwP xs ts).take kk ++ [npP x t]) := htk
            clear htl2 SY hfe htk
            by_cases hz : npE x.data.toList t = 0
            · rw [if_neg (fun h => h hz)] at hfe2
              rw [hz, show errV 0 = .nilIface from rfl]
              have HFE : Hid (fstE ((nwL xs ts).drop (kk + 1)) = E) := hfe2
              have HOV : Aside (Y.ownsRow (w.heap.size + 1) 60 6 (.slice vq kk vc) kk (ptC ((nwP xs ts).take kk))) := OV
              have HLV : Aside (Blk Y w.heap.size #[.int .i64 0, .slice vq kk vc] 56) := LV
              have p0 := PY.cell 0
              have p1 := PY.cell 1
              have p2 := PY.cell 2
              have p3 := PY.cell 3
              have p4 := PY.cell 4
              have p5 := PY.cell 5
              simp at p0 p1 p2 p3 p4 p5
              obtain ⟨i0, hi0, hz0, hz1, hz2⟩ := info_parts info_part
              clear hfe2 hz OV LV PY
              generalize npP x t = pp at *
              generalize (nwP xs ts).take kk = tk at *
              go_wp2
              go_region_law (refine step_append_mine rfl (.tmp 49) (.tmp 51) 54 rfl (w.heap.size + 1) 60 i0 _ 6 80 Tryd.underlying54 hi0 hz0 hz1 hz2 rfl (by decide) (.slice vq kk vc) kk (ptC tk) (by simp [Act.eval]) (lown_below HOV.out ((Below.drew (Below.refl _ _)).alloc (by simp) _)) ⟨Y.heap.size, 0, none⟩ 1 1 [.string pp.what, .int .i64 pp.kind, .slice none 0 0, .int .i64 0, .int .i64 0, .string ⟨#[]⟩] (by simp [Act.eval]) rfl (news1 (by simp) _) (one6 _ _) (by simp [maxLen]; omega) (by omega) (by simp; omega) ?_; intro q' c' w5 ho hg5; obtain ⟨⟨f1, f2⟩, f3⟩ := HSY.out.push (p := pp) HTL.out HLV.out HOV.out ((Below.drew (Below.refl _ _)).alloc (by simp) _) hg5 ho)
              all_goals
                have SN : Aside (NwSt w w.heap.size ((nwP xs ts).take (kk + 1)) (w5.setCell ⟨w.heap.size, 1, none⟩ (.slice q' (kk + 1) c'))) := by rw [HTK.out]; exact f3
                clear f3 ho hg5
                go_wp2
                go_roundg (N - (kk + 1))
                case measure => omega
                case rel => exact ⟨kk + 1, by omega, by omega, by go_num, SN, HFE⟩
            · rw [if_pos hz] at hfe2
              have hV : errV (npE x.data.toList t) = .iface 53 (.int .i64 E) := by rw [errV, if_neg hz, hfe2]
              rw [hV]
              have HEN0 : Hid (E ≠ 0) := by show E ≠ 0; rw [← hfe2]; exact hz
              have HOL : Aside (Below w.heap.size w Y) := HSY.out.old
              clear hfe2 hz hV OV LV PY HSY HTK
              go_wp2
              exact HB.out _ HEN0.out HOL.out
        · have hltz : ¬ (kk : Int) < (N : Int) := by omega
          obtain rfl : kk = N := by omega
          have hE0 : E = 0 := by rw [← HER.out, List.drop_eq_nil_of_le (by simp [nwL]; have := HN.out; omega)]; rfl
          have HE2 : Hid _ := hE0
          clear hE0
          go_wp2
          exact HO.out _ HE2.out (by have := SR.out; rw [List.take_of_length_le (by rw [HPL.out, HN.out]; exact Nat.le_refl _)] at this; exact this)
  · have hE3 : E = 3 := by rw [← hE, nwE, if_pos hlen]
    subst hE3
    have hne : ((ts.length : Int) != (xs.length : Int)) = true := by simp; omega
    clear hE hlen ha ht henv hx htl
    generalize xs.length = N at *
    generalize ts.length = M at *
    go_enter Tryd.func6, Tryd.ntmps6
    go_wp2
    exact HB.out _ (by decide) (Below.refl _ _)
theorem npP_ok {x : ByteArray} {k : Int} (h : npE x.data.toList k = 0) : OkA 0 (npP x k) ∧ (npP x k).ws = [] ∧ (npP x k).best = noV ∧ (npP x k).what = x := by
  rw [npP, if_neg (by omega)]
  unfold npE at h
  by_cases h1 : isAg x.data.toList = false
  · rw [if_pos h1] at h; omega
  · rw [if_neg h1] at h
    have h1' : isAg x.data.toList = true := by simpa using h1
    refine ⟨⟨⟨h1', ?_, ?_, ⟨fun y hy => absurd hy (by simp), short_nil, by simp⟩, .inl ⟨rfl, rfl⟩⟩, by show _ ≤ (0 : Int); omega, by show (0 : Int) ≤ _; omega⟩, rfl, rfl, rfl⟩
    · intro hc
      have hc' : ¬ x.data.toList = wCount := hc
      rw [if_neg hc'] at h
      by_cases h2 : ¬ (k = 1 ∨ k = 2 ∨ k = 3)
      · rw [if_pos h2] at h; omega
      · show (if x.data.toList = wCount then 0 else k) = 1 ∨ _
        rw [if_neg hc']
        exact Decidable.not_not.1 h2
    · intro hs
      have hs' : x.data.toList = wSum := hs
      have hc' : ¬ x.data.toList = wCount := by rw [hs']; decide
      rw [if_neg hc'] at h
      by_cases h2 : ¬ (k = 1 ∨ k = 2 ∨ k = 3)
      · rw [if_pos h2] at h; omega
      · rw [if_neg h2] at h
        by_cases h3 : x.data.toList = wSum ∧ k ≠ 1
        · rw [if_pos h3] at h; omega
        · show (if x.data.toList = wCount then 0 else k) = 1
          rw [if_neg hc']
          exact Decidable.not_not.1 fun hk => h3 ⟨hs', hk⟩
theorem nwE_zero {xs : List ByteArray} {ts : List Int} (h : nwE xs ts = 0) : ts.length = xs.length ∧ xs.length ≤ 6 ∧ ∀ i (h1 : i < xs.length) (h2 : i < ts.length), npE xs[i].data.toList ts[i] = 0 := by
  unfold nwE at h
  by_cases h1 : ts.length = xs.length
  · rw [if_neg (fun k => k h1)] at h
    by_cases h2 : 6 < xs.length
    · rw [if_pos h2] at h; omega
    · rw [if_neg h2] at h
      refine ⟨h1, by omega, fun i hi1 hi2 => ?_⟩
      have hl : i < (nwL xs ts).length := by simp [nwL]; omega
      have := fstE_zero h _ (List.getElem_mem hl)
      simpa [nwL] using this
  · rw [if_pos h1] at h; omega
theorem nwP_ok {xs : List ByteArray} {ts : List Int} (h : nwE xs ts = 0) : AccOk 0 (nwP xs ts) ∧ (∀ p ∈ nwP xs ts, p.ws = [] ∧ p.best = noV) ∧ (nwP xs ts).length = xs.length := by
  obtain ⟨h1, h2, h3⟩ := nwE_zero h
  have hl : (nwP xs ts).length = xs.length := by simp [nwP, h1]
  have key : ∀ p ∈ nwP xs ts, OkA 0 p ∧ p.ws = [] ∧ p.best = noV := fun p hp => by
    obtain ⟨i, hi, rfl⟩ := List.getElem_of_mem hp
    have hi1 : i < xs.length := by omega
    have hi2 : i < ts.length := by omega
    have e : (nwP xs ts)[i] = npP xs[i] ts[i] := by simp [nwP]
    rw [e]
    obtain ⟨k1, k2, k3, _⟩ := npP_ok (h3 i hi1 hi2)
    exact ⟨k1, k2, k3⟩
  exact ⟨⟨by omega, by omega, by omega, fun p hp => (key p hp).1⟩, fun p hp => (key p hp).2, hl⟩
/-- New of what is right. -/
theorem new_ok (ap : Option Addr) (ac : Nat) (xs : List ByteArray) (tp : Option Addr) (tc : Nat) (ts : List Int) (w : World) (henv : AEnv w) (ha : AgsW w ap xs) (ht : IntW w tp ts) (hx : xs.length ≤ maxLen) (htl : ts.length ≤ maxLen) (hE : nwE xs ts = 0) :
    Calls Tryd.prog 6 #[.slice ap xs.length ac, .slice tp ts.length tc] w fun e w' => ∃ v, e = .returned (.tuple #[.pointer (some ⟨w.heap.size, 0, none⟩), .nilIface]) ∧ Aside (AccAt w' w.heap.size v 0 (nwP xs ts)) ∧ Aside (∀ k, accS w.heap.size v k → w.heap.size ≤ k) ∧ Aside (Below w.heap.size w w') := by
  refine new_gen ap ac xs tp tc ts w henv ha ht hx htl 0 hE _ (fun W h => absurd rfl h) (fun W _ hS => ?_)
  obtain ⟨v, h1, h2⟩ := hS.acc
  refine ⟨v, rfl, own_acc h1 h2 (nwP_ok hE).2.1, fun k hk => ?_, hS.old⟩
  rcases hk with rfl | hk
  · exact Nat.le_refl _
  · have := (h2.lt k hk).1; omega
theorem new_bad (ap : Option Addr) (ac : Nat) (xs : List ByteArray) (tp : Option Addr) (tc : Nat) (ts : List Int) (w : World) (henv : AEnv w) (ha : AgsW w ap xs) (ht : IntW w tp ts) (hx : xs.length ≤ maxLen) (htl : ts.length ≤ maxLen) (E : Int) (hE : nwE xs ts = E) (h0 : E ≠ 0) :
    Calls Tryd.prog 6 #[.slice ap xs.length ac, .slice tp ts.length tc] w fun e w' => e = .returned (.tuple #[.pointer none, .iface 53 (.int .i64 E)]) ∧ Aside (Below w.heap.size w w') :=
  new_gen ap ac xs tp tc ts w henv ha ht hx htl E hE _ (fun W _ hB => ⟨rfl, hB⟩) (fun W h => absurd h h0)
end Go.Proofs.YtfonalmgdjboeaaDoor
