/-
  Package query: Parse at any text.
-/
import Derived.Test.YtkbhmghdonomnaaGreatDoorGzAx
import Derived.Test.YtkbhmghdonomnaaGreatDoorGzAn
import Derived.Test.YtkbhmghdonomnaaGreatDoorGzAy
namespace Go.Proofs.YtkbhmghdonomnaaGreatDoor
open Go.RowKit Go.BigFrame
set_option linter.unusedVariables false
set_option linter.unusedSimpArgs false

/-- The cells of nothing. -/
abbrev q0D : Array Value := #[.string ⟨#[]⟩, .string ⟨#[]⟩, .string ⟨#[]⟩, .int .i64 0, .int .i64 0, .string ⟨#[]⟩, .slice none 0 0, .int .i64 0, .slice none 0 0, .slice none 0 0, .slice none 0 0, .int .i64 0, .int .i64 0, .slice none 0 0]
theorem size_qyD : (Tryz.prog.info? 30).map (·.size) = some 14 := by kernel_rfl
theorem thereD {w : World} {b : Nat} {cs : Array Value} {t : TypeId} (h : Blk w b cs t) (o n : Nat) (hn : o + n ≤ cs.size) : w.there b o n := fun j hj => by
  refine ⟨?_, h.frozen _⟩
  rw [h.cell, Array.getElem?_eq_getElem (by omega)]
  rfl
def putD : Array Value → Nat → List Value → Array Value
  | cs, _, [] => cs
  | cs, o, v :: r => putD (cs.setIfInBounds o v) (o + 1) r
theorem blkD_cells {b : Nat} {t : TypeId} : ∀ (vs : List Value) (o : Nat) (w : World) (cs : Array Value), Blk w b cs t → Blk (w.setCells b o vs) b (putD cs o vs) t
  | [], _, _, _, h => h
  | v :: r, o, _, _, h => blkD_cells r (o + 1) _ _ (h.set o v)
theorem putD14 {a0 a1 a2 a3 a4 a5 a6 a7 a8 a9 a10 a11 a12 a13 : Value} (v0 v1 v2 v3 v4 v5 v6 v7 v8 v9 v10 v11 v12 v13 : Value) : putD #[a0, a1, a2, a3, a4, a5, a6, a7, a8, a9, a10, a11, a12, a13] 0 [v0, v1, v2, v3, v4, v5, v6, v7, v8, v9, v10, v11, v12, v13] = #[v0, v1, v2, v3, v4, v5, v6, v7, v8, v9, v10, v11, v12, v13] := by
  simp only [putD, List.setIfInBounds_toArray, List.set_cons_zero, List.set_cons_succ, Nat.zero_add, Nat.reduceAdd]
theorem belowD_cells {B b : Nat} {a : World} (hb : B ≤ b) : ∀ (vs : List Value) (o : Nat) (w : World), Below B a w → Below B a (w.setCells b o vs)
  | [], _, _, h => h
  | v :: r, o, w, h => belowD_cells hb r (o + 1) _ (h.setCell (p := ⟨b, o, none⟩) hb v)
theorem cellsD_far {b : Nat} : ∀ (vs : List Value) (o : Nat) (w : World) (c : Nat), c ≠ b → (w.setCells b o vs).heap[c]? = w.heap[c]?
  | [], _, _, _, _ => rfl
  | v :: r, o, w, c, h => by
    show ((w.setCell ⟨b, o, none⟩ v).setCells b (o + 1) r).heap[c]? = _
    rw [cellsD_far r (o + 1) _ c h]
    exact heap_setCell_other w _ c v h
theorem set14 (w : World) (b : Nat) (v0 v1 v2 v3 v4 v5 v6 v7 v8 v9 v10 v11 v12 v13 : Value) : ((((((((((((((w.setCell ⟨b, 0, none⟩ v0).setCell ⟨b, 1, none⟩ v1).setCell ⟨b, 2, none⟩ v2).setCell ⟨b, 3, none⟩ v3).setCell ⟨b, 4, none⟩ v4).setCell ⟨b, 5, none⟩ v5).setCell ⟨b, 6, none⟩ v6).setCell ⟨b, 7, none⟩ v7).setCell ⟨b, 8, none⟩ v8).setCell ⟨b, 9, none⟩ v9).setCell ⟨b, 10, none⟩ v10).setCell ⟨b, 11, none⟩ v11).setCell ⟨b, 12, none⟩ v12).setCell ⟨b, 13, none⟩ v13) = w.setCells b 0 [v0, v1, v2, v3, v4, v5, v6, v7, v8, v9, v10, v11, v12, v13] := rfl
theorem qyZ_in (w : World) (lo : Nat → Prop) : QyIn w lo (.agg q0D) qyZ :=
  ⟨none, 0, none, 0, none, 0, none, 0, none, 0, rfl, ⟨ex_zero _ _, ⟨none, 0, rfl, ⟨Nat.zero_le _, Nat.zero_le _⟩, .inl rfl⟩, Nat.zero_le _, StsA.nil _, StsA.nil _, ⟨Nat.zero_le _, .inl rfl⟩⟩⟩
/-- The end: both results lie in their boxes. -/
theorem parse_end (a : Act) (w W : World) (QC : Array Value) (E : Int) (P : Nat) (q : Qy) (hsz : QC.size = 14) (h2 : a.tmps[2]? = some (.pointer (some ⟨w.heap.size, 0, none⟩))) (h3 : a.tmps[3]? = some (.pointer (some ⟨w.heap.size + 1, 0, none⟩))) (hd : a.defers = [])
    (hq : QyIn W (fun _ => True) (.agg QC) q) (X : Blk W w.heap.size QC 30) (Y : Blk W (w.heap.size + 1) #[.int .i64 E, .int .i64 (P : Nat)] 34) (B : Below w.heap.size w W) :
    bodyPost Tryz.prog Tryz.f5 (fun e w' => (∃ v, e = .returned (.tuple #[v, .agg #[.int .i64 E, .int .i64 (P : Nat)]]) ∧ QyIn w' (fun _ => True) v q) ∧ Below w.heap.size w w') .ret a W := by
  have hl := run_loadVar_mid (P := Tryz.prog) W w.heap.size 0 30 QC.toList _ (fun j v hv => by rw [X.cell, Nat.zero_add]; simpa using hv) Tryz.underlying30 rfl (by rw [size_qyD, Array.length_toList, hsz])
  have hl2 := run_loadVar_mid (P := Tryz.prog) W (w.heap.size + 1) 0 34 [.int .i64 E, .int .i64 (P : Nat)] _ (fun j v hv => by rw [Y.cell, Nat.zero_add]; simpa using hv) Tryz.underlying34 rfl (by kernel_rfl)
  refine bodyPost_ret (v := .tuple #[.agg QC, .agg #[.int .i64 E, .int .i64 (P : Nat)]]) ?_ ?_ ⟨⟨_, rfl, hq⟩, B⟩
  · rw [Array.toArray_toList] at hl
    simp [results, Tryz.results5, h2, h3, hl, hl2, asAddr, Sem.run_bind, Sem.run_pure]
  · exact hd
set_option maxHeartbeats 8000000 in
set_option maxRecDepth 20000 in
theorem parse_bad (s : ByteArray) (w : World) (henv : TEnv w) (hw : SG w) (R : List Tok) (E : Int) (P : Nat) (hL : lexAll s.data.toList = (R, E, P)) (hE : E ≠ 0) (hs : s.size ≤ maxLen) :
    Calls Tryz.prog 5 #[.string s] w fun e w' => (∃ v, e = .returned (.tuple #[v, .agg #[.int .i64 E, .int .i64 (P : Nat)]]) ∧ QyIn w' (fun _ => True) v qyZ) ∧ Below w.heap.size w w' := by
  have X0 : Aside (Blk ((w.alloc (.cells q0D 30)).alloc (.cells #[.int .i64 0, .int .i64 0] 34)) w.heap.size q0D 30) := (blk_alloc w _ _).on (al _ _)
  have Y0 : Aside (Blk ((w.alloc (.cells q0D 30)).alloc (.cells #[.int .i64 0, .int .i64 0] 34)) (w.heap.size + 1) #[.int .i64 0, .int .i64 0] 34) := by
    have := blk_alloc (w.alloc (.cells q0D 30)) #[.int .i64 0, .int .i64 0] 34
    rwa [show (w.alloc (.cells q0D 30)).heap.size = w.heap.size + 1 by simp] at this
  have b0 : Below w.heap.size w ((w.alloc (.cells q0D 30)).alloc (.cells #[.int .i64 0, .int .i64 0] 34)) := (al w _).alloc (by simp) _
  have cN := newReader_bad s _ (henv.on b0) (hw.on b0) R E P hL hE hs
  have hb0 : (E == 0) = false := by simpa using hE
  clear henv hw hL hE hs
  go_enter Tryz.func5, Tryz.ntmps5
  go_wp2_with fail
  refine cN.mono ?_
  rintro e w1 ⟨rfl, b1⟩
  have X1 : Blk w1 w.heap.size q0D 30 := X0.out.on b1
  have Y1 : Blk w1 (w.heap.size + 1) #[.int .i64 0, .int .i64 0] 34 := Y0.out.on b1
  have B1 : Below w.heap.size w w1 := b0.trans (b1.mono b0.size)
  have hz : w.heap.size + 2 ≤ w1.heap.size := by have := Y1.lt; omega
  clear cN b1 X0 Y0 b0
  have c0 : ∀ i, w1.cell? ⟨w.heap.size, i, none⟩ = q0D[i]? := X1.cell
  have f0 : ∀ i, w1.frozen? ⟨w.heap.size, i, none⟩ = false := X1.frozen
  have c1 : ∀ i, w1.cell? ⟨w.heap.size + 1, i, none⟩ = (#[.int .i64 0, .int .i64 0] : Array Value)[i]? := Y1.cell
  have f1 : ∀ i, w1.frozen? ⟨w.heap.size + 1, i, none⟩ = false := Y1.frozen
  have l0 : w.heap.size < w1.heap.size := by omega
  have l1 : w.heap.size + 1 < w1.heap.size := by omega
  go_wp2
  go_region
  all_goals
    go_wp2
    rw [set14]
    have X2 : Blk (w1.setCells w.heap.size 0 q0D.toList) w.heap.size q0D 30 := by
      have := blkD_cells q0D.toList 0 w1 _ X1
      rwa [show putD q0D 0 q0D.toList = q0D from putD14 _ _ _ _ _ _ _ _ _ _ _ _ _ _] at this
    have Y2 : Blk (w1.setCells w.heap.size 0 q0D.toList) (w.heap.size + 1) #[.int .i64 0, .int .i64 0] 34 := Y1.keep (cellsD_far _ _ _ _ (by omega))
    have B2 : Below w.heap.size w (w1.setCells w.heap.size 0 q0D.toList) := belowD_cells (Nat.le_refl _) _ _ _ B1
    clear X1 Y1 B1 c0 f0 c1 f1
    change bodyPost _ _ _ _ _ ((((w1.setCells w.heap.size 0 q0D.toList).setCell _ _).setCell _ _).alloc _).drew
    generalize w1.setCells w.heap.size 0 q0D.toList = W2 at X2 Y2 B2 ⊢
    have X3 := ((X2.far (z := w.heap.size + 1) (by omega) 0 (.int .i64 E)).far (z := w.heap.size + 1) (by omega) 1 (.int .i64 (P : Nat)))
    have Y3 := (Y2.set 0 (.int .i64 E)).set 1 (.int .i64 (P : Nat))
    have B3 := (B2.setCell (p := ⟨w.heap.size + 1, 0, none⟩) (by simp) (.int .i64 E)).setCell (p := ⟨w.heap.size + 1, 1, none⟩) (by simp) (.int .i64 (P : Nat))
    exact parse_end _ w _ q0D E P qyZ rfl rfl rfl rfl (qyZ_in _ _) (X3.on (Below.drew (al _ _))) (Y3.on (Below.drew (al _ _))) (Below.drew (B3.alloc B3.size _))
/-- A query's cells are stored. -/
theorem st14 {V : World} {b : Nat} {CS QC : Array Value} (X : Blk V b CS 30) (hcs : CS.size = 14) (hq : QC.size = 14) (h1 : QC.all (·.oneCell') = true) (W9 : World) (h9 : V.setCells b 0 QC.toList = W9) {ops : Array Oper} {rest : List Oper} {op : Oper} {a : Act} {Q : Exit → Act → World → Prop} (hgd : op.guard = none) (p y : Operand) (ho : op.op = .store 30 p y) (hx : a.eval p = .pointer (some ⟨b, 0, none⟩)) (hy : a.eval y = .agg QC) (h : wpList Tryz.prog ops Q rest (a.put op.dst undef) W9) : wpList Tryz.prog ops Q (op :: rest) a V := by
  subst h9
  exact wpList_store_mid hgd 30 p y ho b 0 QC hx hy (thereD X 0 QC.size (by omega)) (by rw [size_qyD, hq]) h1 h
theorem AgsIs.keepL {w w' : World} {lo : Nat → Prop} {p : Option Addr} {l : List Ag} (h : AgsIs w lo p l) (hz : w.heap.size ≤ w'.heap.size) (hk : ∀ b o : Nat, lo b → b < w.heap.size → w'.cell? ⟨b, o, none⟩ = w.cell? ⟨b, o, none⟩) : AgsIs w' lo p l := by
  obtain ⟨h1, h2⟩ := h
  refine ⟨h1, ?_⟩
  rcases h2 with h2 | ⟨b, off, e, hl, hlo, h3⟩
  · exact .inl h2
  · refine .inr ⟨b, off, e, by omega, hlo, fun j hj => ?_⟩
    obtain ⟨ap, ac, c0, c1, c2, c3, c4, c5, c6, c7, c8, hx⟩ := h3 j hj
    have k : ∀ o, w'.cell? ⟨b, o, none⟩ = w.cell? ⟨b, o, none⟩ := fun o => hk b o hlo hl
    exact ⟨ap, ac, by rw [k]; exact c0, by rw [k]; exact c1, by rw [k]; exact c2, by rw [k]; exact c3, by rw [k]; exact c4, by rw [k]; exact c5, by rw [k]; exact c6, by rw [k]; exact c7, by rw [k]; exact c8, ExIn.keep hz hk _ _ hx⟩
theorem AgsIs.lowT {w : World} {lo : Nat → Prop} {p : Option Addr} {l : List Ag} (h : AgsIs w lo p l) : AgsIs w (fun _ => True) p l := by
  obtain ⟨h1, h2⟩ := h
  refine ⟨h1, ?_⟩
  rcases h2 with h2 | ⟨b, off, e, hl, hlo, h3⟩
  · exact .inl h2
  · refine .inr ⟨b, off, e, hl, trivial, fun j hj => ?_⟩
    obtain ⟨ap, ac, c0, c1, c2, c3, c4, c5, c6, c7, c8, hx⟩ := h3 j hj
    exact ⟨ap, ac, c0, c1, c2, c3, c4, c5, c6, c7, c8, ExIn.low (fun _ _ _ => trivial) _ _ hx⟩
theorem ArgsIs.lowT {w : World} {lo : Nat → Prop} {v : Value} {l : List Ex} (h : ArgsIs w lo v l) : ArgsIs w (fun _ => True) v l := by
  obtain ⟨p, c, e, hc, h⟩ := h
  refine ⟨p, c, e, hc, ?_⟩
  rcases h with h | ⟨b, off, e2, hb, hlo, hE⟩
  · exact .inl h
  · refine .inr ⟨b, off, e2, hb, trivial, exsIn_mk _ _ _ _ _ fun j hj => ?_⟩
    obtain ⟨v0, v1, v2, v3, v4, v5, v6, c0, c1, c2, c3, c4, c5, c6, hx⟩ := exsIn_at _ _ _ _ _ hE j hj
    exact ⟨v0, v1, v2, v3, v4, v5, v6, c0, c1, c2, c3, c4, c5, c6, ExIn.low (fun _ _ _ => trivial) _ _ hx⟩
/-- Texts that are none of nothing's lie apart from the two boxes. -/
theorem StsA.apart {w w' : World} {b : Nat} {v : Value} {ts : List ByteArray} (h : StsA w v ts) (hn : ∀ s ∈ ts, nameT s.data.toList = true) (X : Blk w b q0D 30) (Y : Blk w (b + 1) #[.int .i64 0, .int .i64 0] 34) (hz : w.heap.size ≤ w'.heap.size) (hk : ∀ c, c ≠ b → c ≠ b + 1 → c < w.heap.size → w'.heap[c]? = w.heap[c]?) : StsA w' v ts := by
  obtain ⟨p, c, e, h1, h2, h3⟩ := h
  refine ⟨p, c, e, h1, h2, fun a ha => ?_⟩
  rcases h3 a ha with h0 | ⟨g, off, e2, h5, h6⟩
  · exact .inl h0
  · by_cases hl : ts.length = 0
    · exact .inl hl
    have h7 := h6 0 (by omega)
    have hne : ts[0].data.toList ≠ [] := fun e => by
      have := hn ts[0] (List.getElem_mem _)
      rw [e] at this
      exact absurd this (by decide)
    have g1 : g ≠ b := fun e => by
      subst e
      rw [X.cell] at h7
      have key : ∀ (i : Nat) (s : ByteArray), q0D[i]? = some (.string s) → s.data.toList = [] := fun i s hs => by
        have hi : i < 14 := by
          have := (Array.getElem?_eq_some_iff.1 hs).1
          exact this
        have hi' : i = 0 ∨ i = 1 ∨ i = 2 ∨ i = 3 ∨ i = 4 ∨ i = 5 ∨ i = 6 ∨ i = 7 ∨ i = 8 ∨ i = 9 ∨ i = 10 ∨ i = 11 ∨ i = 12 ∨ i = 13 := by omega
        rcases hi' with rfl | rfl | rfl | rfl | rfl | rfl | rfl | rfl | rfl | rfl | rfl | rfl | rfl | rfl
        all_goals
          simp at hs
          try (rw [← hs])
      exact hne (key _ _ h7)
    have g2 : g ≠ b + 1 := fun e => by
      subst e
      rw [Y.cell] at h7
      have hi : off + 0 < 2 := (Array.getElem?_eq_some_iff.1 h7).1
      have hi' : off = 0 ∨ off = 1 := by omega
      rcases hi' with rfl | rfl <;> simp at h7
    refine .inr ⟨g, off, e2, by omega, fun j hj => ?_⟩
    have := hk g g1 g2 h5
    simp only [World.cell?, this]
    exact h6 j hj
/-- What lies behind a query that was read stays, where the two boxes alone are written. -/
theorem QyBe.boxed {w w' : World} {b B : Nat} {q : Qy} {wp : Option Addr} {wc : Nat} {cp : Option Addr} {cc : Nat} {np : Option Addr} {nc : Nat} {gp : Option Addr} {gc : Nat} {ap : Option Addr} {ac : Nat} (h : QyBe w (B ≤ ·) q wp wc cp cc np nc gp gc ap ac) (hB : b + 1 < B) (hq : OkQ q) (X : Blk w b q0D 30) (Y : Blk w (b + 1) #[.int .i64 0, .int .i64 0] 34) (hz : w.heap.size ≤ w'.heap.size) (hk : ∀ c, c ≠ b → c ≠ b + 1 → c < w.heap.size → w'.heap[c]? = w.heap[c]?) : QyBe w' (fun _ => True) q wp wc cp cc np nc gp gc ap ac := by
  have hc : ∀ c o : Nat, B ≤ c → c < w.heap.size → w'.cell? ⟨c, o, none⟩ = w.cell? ⟨c, o, none⟩ := fun c o h1 h2 => by
    have := hk c (by omega) (by omega) h2
    simp only [World.cell?, this]
  have hn : (∀ s ∈ q.names, nameT s.data.toList = true) ∧ (∀ s ∈ q.group, nameT s.data.toList = true) := by
    rcases hq.2.2 with ⟨_, h2, _, _, c, _, _, h7, h8⟩ | ⟨_, h2, _, _, h5, _⟩
    · rw [h7, h2]
      refine ⟨fun s hs => ?_, fun s hs => absurd hs (by simp)⟩
      obtain ⟨p, hp, rfl⟩ := List.mem_map.1 hs
      exact (h8 p hp).2
    · rw [h2]
      exact ⟨fun s hs => absurd hs (by simp), h5⟩
  exact ⟨ExIn.low (fun _ _ _ => trivial) _ _ (ExIn.keep hz hc _ _ h.whr), (h.cols.keep hz hc).lowT, h.clen, h.names.apart hn.1 X Y hz hk, h.group.apart hn.2 X Y hz hk, (h.aggs.keepL hz hc).lowT⟩
end Go.Proofs.YtkbhmghdonomnaaGreatDoor
