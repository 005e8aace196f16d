/-
  The law QueryNames, walked: what is named comes so.
-/
import Derived.Test.YtkbhmghdonomnaaGreatDoorGrAz
import Derived.BigQuiet
namespace Go.Proofs.YtkbhmghdonomnaaGreatDoor
open Go.RowKit Go.BigFrame
set_option linter.unusedVariables false
set_option linter.unusedSimpArgs false

theorem colsW_at {w : World} {p : Option Addr} {n c : Nat} {zs : List Cl} (h : ColsV w (.slice p n c) zs) {j : Nat} (hj : j < zs.length) : ∃ b off, p = some ⟨b, off, none⟩ ∧ b < w.heap.size ∧ w.cell? ⟨b, off + j * 2, none⟩ = some (.string zs[j].1) ∧ w.cell? ⟨b, off + j * 2 + 1, none⟩ = some (.int .i64 zs[j].2) := by
  obtain ⟨q', c', e, h⟩ := h
  injection e with e1 e2 e3
  subst e1
  rcases h with h0 | ⟨b, off, e, hcap, hz, hin⟩
  · exact absurd h0 (by omega)
  · obtain ⟨hb, hc⟩ := hin
    obtain ⟨c0, c1⟩ := hc j hj
    exact ⟨b, off, e, hb, c0, c1⟩
theorem fL_in (w : World) (g : Nat) (hg : g = w.heap.size) (t : TypeId) : ColsV (w.alloc (.cells #[.string ⟨#[120]⟩, .int .i64 1] t)) (.slice (some ⟨g, 0, none⟩) 1 1) fL := by
  subst hg
  refine ⟨_, 1, rfl, .inr ⟨w.heap.size, 0, rfl, Nat.le_refl _, fun z hz => ?_, by simp, fun j hj => ?_⟩⟩
  · rw [fL, List.mem_singleton] at hz
    subst hz
    decide
  · obtain rfl : j = 0 := by simp [fL] at hj; omega
    rw [World.cell?_alloc_at _ _ _ _ rfl, World.cell?_alloc_at _ _ _ _ rfl]
    exact ⟨rfl, rfl⟩
theorem fQ_small : QyA fQ := ⟨by rw [pre_len]; decide, fun x hx => by
    rw [fQ, List.mem_singleton] at hx
    subst hx
    rw [pre_len]
    simp [fX, Ex.size, Ex.sizes], fun a ha => absurd ha (by simp [fQ]), fun s hs => by
    simp [namesQ, fQ] at hs
    subst hs
    decide, by unfold inM; decide, by unfold inM; decide⟩
theorem qyOk_A {q : Qy} (h : QyOk q) : QyA q := ⟨h.wn, fun x hx => (h.cn x hx).1, fun a ha => (h.an a ha).1, fun s hs => by
    rw [namesQ] at hs
    rcases List.mem_append.1 hs with hs | hs
    · exact h.ns s hs
    · rcases List.mem_append.1 hs with hs | hs
      · exact h.gs s hs
      · obtain ⟨a, ha, rfl⟩ := List.mem_map.1 hs
        exact (h.an a ha).2.2.2, h.z1, h.z2⟩
/-- A query's box, read as a whole. -/
theorem ld14 {W : World} {b : Nat} {QC : Array Value} (hq : QC.size = 14) (X : Blk W b QC 30) {ops : Array Oper} {rest : List Oper} {op : Oper} {a : Act} {Q : Exit → Act → World → Prop} (hgd : op.guard = none) (x : Operand) (ho : op.op = .load 30 x) (hx : a.eval x = .pointer (some ⟨b, 0, none⟩)) (h : wpList Tryz.prog ops Q rest (a.put op.dst (.agg QC)) W) : wpList Tryz.prog ops Q (op :: rest) a W := by
  refine wpList_load_mid (P := Tryz.prog) hgd 30 x ho b 0 hx QC.toList _ (fun j v hv => by rw [X.cell, Nat.zero_add]; simpa using hv) Tryz.underlying30 rfl (by rw [size_qyD, Array.length_toList, hq]) ?_
  rw [Array.toArray_toList]
  exact h
/-- What the law's walk is told of the first query, and of the second one. -/
structure QnC (w : World) (v vl : Value) (q : Qy) (zs : List Cl) (RL : List Cl) (RE : Int) : Prop where
  parse : ∀ W, Below w.heap.size w W → Calls Tryz.prog 5 #[.string fS] W fun e w' => (∃ PC : Array Value, e = .returned (.tuple #[.agg PC, .agg #[.int .i64 0, .int .i64 0]]) ∧ PC.size = 14 ∧ PC.all (·.oneCell') = true ∧ Aside (∀ (V W9 : World) (b : Nat), Blk V b q0D 30 → V.setCells b 0 PC.toList = W9 → Blk W9 b PC 30) ∧ Aside (QyIn w' (fun _ => True) (.agg PC) fQ)) ∧ Below W.heap.size W w'
  one : ∀ W u x, Below w.heap.size w W → QyIn W (fun _ => True) u fQ → ColsV W x fL → Calls Tryz.prog 8 #[u, x] W fun e w' => (∃ b off c, e = .returned (.tuple #[.slice (some ⟨b, off, none⟩) 1 c, .nilIface]) ∧ b < w'.heap.size ∧ w'.cell? ⟨b, off, none⟩ = some (.string ⟨#[121]⟩) ∧ w'.cell? ⟨b, off + 1, none⟩ = some (.int .i64 2)) ∧ Below W.heap.size W w'
  two : ∀ W, Below w.heap.size w W → Calls Tryz.prog 8 #[v, vl] W fun e w' => (∃ u, e = .returned (.tuple #[u, errV RE]) ∧ Aside (ColsV w' u RL)) ∧ Below W.heap.size W w'
theorem qnC {w : World} (henv : KEnv w) (haenv : AEnv w) (hsg : SG w) {q : Qy} {v vl : Value} {zs : List Cl} (hq : QyIn w (fun _ => True) v q) (hok : QyOk q) (hcv : ColsV w vl zs) (RL : List Cl) (RE : Int) (hR : chQ zs q = (RL, RE)) : QnC w v vl q zs RL RE := by
  have hbig := henv.tenv.big
  refine ⟨fun W hb => ?_, fun W u x hb hu hx => ?_, fun W hb => ?_⟩
  · refine (parse_q fS W (henv.tenv.on hb) (haenv.onB hb hbig hb.size) (hsg.on hb) (by decide) fQ 0 0 f_parse).mono fun e w' hh => ⟨?_, hh.2⟩
    obtain ⟨u, he, hq'⟩ := hh.1
    obtain ⟨wp, wc, cp, cc, np, nc, gp, gc, ap, ac, rfl, hB⟩ := id hq'
    exact ⟨_, he, rfl, one14 fQ wp wc cp cc np nc gp gc ap ac, (show Aside _ from fun V W9 b X h => blk14 X h), hq'⟩
  · refine (check_q fQ _ u x fL W (henv.on hb) (haenv.onB hb hbig hb.size) hu hx fQ_small _ _ f_check).mono fun e w' hh => ⟨?_, hh.2⟩
    obtain ⟨y, he, hc⟩ := hh.1
    obtain ⟨p, c, rfl⟩ := cols_form hc.out
    obtain ⟨b, off, rfl, hl, c0, c1⟩ := colsW_at hc.out (j := 0) (by simp)
    exact ⟨b, off, c, he, hl, by simpa using c0, by simpa using c1⟩
  · exact check_q q _ v vl zs W (henv.on hb) (haenv.onB hb hbig hb.size) (hq.on hb) (hcv.on hb) (qyOk_A hok) RL RE hR
set_option maxHeartbeats 8000000 in
set_option maxRecDepth 20000 in
theorem names_bad (q : Qy) (vl : Value) (zs : List Cl) (w : World) (QC : Array Value) (hs14 : QC.size = 14) (RL : List Cl) (RE : Int) (hE : RE ≠ 0) (hl : RL = []) (C : QnC w (.agg QC) vl q zs RL RE) :
    Calls Tryz.prog 4 #[.agg QC, vl] w fun e w' => e = .returned (.bool true) ∧ Below w.heap.size w w' := by
  subst hl
  have HC : Aside (QnC w (.agg QC) vl q zs [] RE) := C
  have b1 : Below w.heap.size w (w.alloc (.cells QC 30)) := al w _
  have b2 : Below w.heap.size w ((w.alloc (.cells QC 30)).alloc (.cells #[.string ⟨#[120]⟩, .int .i64 1] 47)) := b1.alloc b1.size _
  have X2 : Aside (Blk ((w.alloc (.cells QC 30)).alloc (.cells #[.string ⟨#[120]⟩, .int .i64 1] 47)) w.heap.size QC 30) := (blk_alloc w _ _).on (al _ _)
  have L2 : Aside (ColsV ((w.alloc (.cells QC 30)).alloc (.cells #[.string ⟨#[120]⟩, .int .i64 1] 47)) (.slice (some ⟨w.heap.size + 1, 0, none⟩) 1 1) fL) := fL_in _ _ (by simp) _
  have cP := C.parse _ b2
  rw [fS] at cP
  clear C
  go_enter Tryz.func4, Tryz.ntmps4
  go_wp2_with fail
  refine cP.mono ?_
  rintro e w3 ⟨⟨PC, rfl, hP14, hP1, HPB, HP⟩, b3⟩
  have B3 : Below w.heap.size w w3 := b2.trans (b3.mono b2.size)
  have hz3 : w.heap.size + 2 ≤ w3.heap.size := by have := b3.size; simpa using this
  have X3 : Blk w3 w.heap.size QC 30 := X2.out.on b3
  have L3 : ColsV w3 (.slice (some ⟨w.heap.size + 1, 0, none⟩) 1 1) fL := L2.out.on b3
  have bV : Below w3.heap.size w3 ((w3.alloc (.cells q0D 30)).alloc (.cells #[.int .i64 0, .int .i64 0] 34)) := (al w3 _).alloc (by simp) _
  have XV : Blk ((w3.alloc (.cells q0D 30)).alloc (.cells #[.int .i64 0, .int .i64 0] 34)) w3.heap.size q0D 30 := (blk_alloc w3 _ _).on (al _ _)
  have YV : Blk ((w3.alloc (.cells q0D 30)).alloc (.cells #[.int .i64 0, .int .i64 0] 34)) (w3.heap.size + 1) #[.int .i64 0, .int .i64 0] 34 := by
    have := blk_alloc (w3.alloc (.cells q0D 30)) #[.int .i64 0, .int .i64 0] 34
    rwa [show (w3.alloc (.cells q0D 30)).heap.size = w3.heap.size + 1 by simp] at this
  obtain ⟨W9, h9⟩ : ∃ W9, ((w3.alloc (.cells q0D 30)).alloc (.cells #[.int .i64 0, .int .i64 0] 34)).setCells w3.heap.size 0 PC.toList = W9 := ⟨_, rfl⟩
  have hst := fun {ops : Array Oper} {rest : List Oper} {op : Oper} {a : Act} {Q : Exit → Act → World → Prop} => st14 (ops := ops) (rest := rest) (op := op) (a := a) (Q := Q) XV rfl hP14 hP1 W9 h9
  have X9 : Blk W9 w3.heap.size PC 30 := HPB.out _ _ _ XV h9
  have Y9 : Blk W9 (w3.heap.size + 1) #[.int .i64 0, .int .i64 0] 34 := by rw [← h9]; exact YV.keep (cellsD_far _ _ _ _ (by omega))
  have b9 : Below w3.heap.size w3 W9 := by rw [← h9]; exact belowD_cells (Nat.le_refl _) _ _ _ bV
  have c0 : W9.cell? ⟨w3.heap.size + 1, 0, none⟩ = some (.int .i64 0) := Y9.cell 0
  have c1 : W9.cell? ⟨w3.heap.size + 1, 1, none⟩ = some (.int .i64 0) := Y9.cell 1
  have f0 := Y9.frozen 0
  have f1 := Y9.frozen 1
  have l9 := Y9.lt
  have b10 : Below w3.heap.size w3 ((W9.setCell ⟨w3.heap.size + 1, 0, none⟩ (.int .i64 0)).setCell ⟨w3.heap.size + 1, 1, none⟩ (.int .i64 0)) := (b9.setCell (p := ⟨w3.heap.size + 1, 0, none⟩) (by simp) _).setCell (p := ⟨w3.heap.size + 1, 1, none⟩) (by simp) _
  have X10 : Blk ((W9.setCell ⟨w3.heap.size + 1, 0, none⟩ (.int .i64 0)).setCell ⟨w3.heap.size + 1, 1, none⟩ (.int .i64 0)) w3.heap.size PC 30 := (X9.far (by omega) 0 _).far (by omega) 1 _
  have Y10 : Aside (Blk ((W9.setCell ⟨w3.heap.size + 1, 0, none⟩ (.int .i64 0)).setCell ⟨w3.heap.size + 1, 1, none⟩ (.int .i64 0)) (w3.heap.size + 1) #[.int .i64 0, .int .i64 0] 34) := (Y9.set 0 _).set 1 _
  have hld := fun {ops : Array Oper} {rest : List Oper} {op : Oper} {a : Act} {Q : Exit → Act → World → Prop} => ld14 (ops := ops) (rest := rest) (op := op) (a := a) (Q := Q) hP14 X10
  have B10 : Aside (Below w.heap.size w ((W9.setCell ⟨w3.heap.size + 1, 0, none⟩ (.int .i64 0)).setCell ⟨w3.heap.size + 1, 1, none⟩ (.int .i64 0))) := B3.trans (b10.mono B3.size)
  have XQ : Aside (Blk ((W9.setCell ⟨w3.heap.size + 1, 0, none⟩ (.int .i64 0)).setCell ⟨w3.heap.size + 1, 1, none⟩ (.int .i64 0)) w.heap.size QC 30) := X3.on b10
  have c1 := HC.out.one _ (.agg PC) (.slice (some ⟨w.heap.size + 1, 0, none⟩) 1 1) B10.out (HP.out.on b10) (L3.on b10)
  clear cP b1 b2 X2 L2 HPB HP b3 B3 X3 L3 bV XV YV h9 X9 Y9 b9 b10 X10
  go_wp2_with (first | (refine hst rfl _ _ rfl rfl rfl ?_) | (refine hld rfl _ rfl rfl ?_))
  refine c1.mono ?_
  rintro e w4 ⟨⟨cb, co, cc, rfl, hcl, d0, d1⟩, b4⟩
  have X4 : Blk w4 w.heap.size QC 30 := XQ.out.on b4
  have Y4 : Blk w4 (w3.heap.size + 1) #[.int .i64 0, .int .i64 0] 34 := Y10.out.on b4
  have B4 : Aside (Below w.heap.size w w4) := B10.out.trans (b4.mono B10.out.size)
  have e0 : w4.cell? ⟨w3.heap.size + 1, 0, none⟩ = some (.int .i64 0) := Y4.cell 0
  have el := Y4.lt
  have cT := HC.out.two _ B4.out
  have hld4 := fun {ops : Array Oper} {rest : List Oper} {op : Oper} {a : Act} {Q : Exit → Act → World → Prop} => ld14 (ops := ops) (rest := rest) (op := op) (a := a) (Q := Q) hs14 X4
  have X4' : Aside (Blk w4 w.heap.size QC 30) := X4
  clear hst hld c1 c0 f0 f1 l9 Y10 B10 XQ b4 X4 Y4 HC hP14 hP1
  go_wp2_with (refine hld4 rfl _ rfl rfl ?_)
  refine cT.mono ?_
  rintro e w5 ⟨⟨u, rfl, CU⟩, b5⟩
  have B5 := B4.out.trans (b5.mono B4.out.size)
  obtain ⟨up, uc, rfl⟩ := cols_form CU.out
  have hv : errV RE = .iface 32 (.int .i64 RE) := by rw [errV, if_neg hE]
  rw [hv]
  clear hld4 cT CU b5 B4 X4' hv
  simp only [List.length_nil]
  go_wp2
  go_ret
  exact ⟨rfl, B5⟩
set_option maxHeartbeats 8000000 in
set_option maxRecDepth 20000 in
theorem names_good (q : Qy) (vl : Value) (zs : List Cl) (w : World) (QC : Array Value) (wp : Option Addr) (wc : Nat) (cp : Option Addr) (cc : Nat) (np : Option Addr) (nc : Nat) (gp : Option Addr) (gc : Nat) (ap : Option Addr) (ac : Nat) (hQ : QV QC q cp cc np nc gp gc ap ac) (hB : QyBe w (fun _ => True) q wp wc cp cc np nc gp gc ap ac) (RL : List Cl) (hmp : RL.map (·.1) = namesQ q) (hsch : schE RL = 0) (hO : OkF q) (C : QnC w (.agg QC) vl q zs RL 0) :
    Calls Tryz.prog 4 #[.agg QC, vl] w fun e w' => e = .returned (.bool true) ∧ Below w.heap.size w w' := by
  obtain ⟨hs14, -, h9q, h10q, -, -, h13q⟩ := hQ
  obtain ⟨NN, hNN⟩ : ∃ NN, q.names.length = NN := ⟨_, rfl⟩
  obtain ⟨NG, hNG⟩ : ∃ NG, q.group.length = NG := ⟨_, rfl⟩
  obtain ⟨NA, hNA⟩ : ∃ NA, q.aggs.length = NA := ⟨_, rfl⟩
  have HNN : Hid (q.names.length = NN) := hNN
  have HNG : Hid (q.group.length = NG) := hNG
  have HNA : Hid (q.aggs.length = NA) := hNA
  have hl6 : NN + NG + NA ≤ 6 := by rcases hO with h | h <;> omega
  rw [hNN] at h9q
  rw [hNG] at h10q
  rw [hNA] at h13q
  have HQC : Aside (QC[9]? = some (.slice np NN nc) ∧ QC[10]? = some (.slice gp NG gc) ∧ QC[13]? = some (.slice ap NA ac)) := ⟨h9q, h10q, h13q⟩
  have HB : Aside (QyBe w (fun _ => True) q wp wc cp cc np nc gp gc ap ac) := hB
  have HMP : Aside (RL.map (·.1) = namesQ q ∧ schE RL = 0) := ⟨hmp, hsch⟩
  obtain ⟨N, hN⟩ : ∃ N, RL.length = N := ⟨_, rfl⟩
  have HN : Hid (RL.length = N) := hN
  have HNS : Hid (NN + NG + NA = N) := by
    show _ = _
    have := congrArg List.length hmp
    rw [List.length_map, names_len] at this
    omega
  have hN6 : N ≤ 6 := by have := HNS.out; omega
  clear hB hmp hsch hO hN hNN hNG hNA h9q h10q h13q
  have HC : Aside (QnC w (.agg QC) vl q zs RL 0) := C
  have b1 : Below w.heap.size w (w.alloc (.cells QC 30)) := al w _
  have b2 : Below w.heap.size w ((w.alloc (.cells QC 30)).alloc (.cells #[.string ⟨#[120]⟩, .int .i64 1] 47)) := b1.alloc b1.size _
  have X2 : Aside (Blk ((w.alloc (.cells QC 30)).alloc (.cells #[.string ⟨#[120]⟩, .int .i64 1] 47)) w.heap.size QC 30) := (blk_alloc w _ _).on (al _ _)
  have L2 : Aside (ColsV ((w.alloc (.cells QC 30)).alloc (.cells #[.string ⟨#[120]⟩, .int .i64 1] 47)) (.slice (some ⟨w.heap.size + 1, 0, none⟩) 1 1) fL) := fL_in _ _ (by simp) _
  have cP := C.parse _ b2
  rw [fS] at cP
  clear C
  go_enter Tryz.func4, Tryz.ntmps4
  go_wp2_with fail
  refine cP.mono ?_
  rintro e w3 ⟨⟨PC, rfl, hP14, hP1, HPB, HP⟩, b3⟩
  have B3 : Below w.heap.size w w3 := b2.trans (b3.mono b2.size)
  have hz3 : w.heap.size + 2 ≤ w3.heap.size := by have := b3.size; simpa using this
  have X3 : Blk w3 w.heap.size QC 30 := X2.out.on b3
  have L3 : ColsV w3 (.slice (some ⟨w.heap.size + 1, 0, none⟩) 1 1) fL := L2.out.on b3
  have bV : Below w3.heap.size w3 ((w3.alloc (.cells q0D 30)).alloc (.cells #[.int .i64 0, .int .i64 0] 34)) := (al w3 _).alloc (by simp) _
  have XV : Blk ((w3.alloc (.cells q0D 30)).alloc (.cells #[.int .i64 0, .int .i64 0] 34)) w3.heap.size q0D 30 := (blk_alloc w3 _ _).on (al _ _)
  have YV : Blk ((w3.alloc (.cells q0D 30)).alloc (.cells #[.int .i64 0, .int .i64 0] 34)) (w3.heap.size + 1) #[.int .i64 0, .int .i64 0] 34 := by
    have := blk_alloc (w3.alloc (.cells q0D 30)) #[.int .i64 0, .int .i64 0] 34
    rwa [show (w3.alloc (.cells q0D 30)).heap.size = w3.heap.size + 1 by simp] at this
  obtain ⟨W9, h9⟩ : ∃ W9, ((w3.alloc (.cells q0D 30)).alloc (.cells #[.int .i64 0, .int .i64 0] 34)).setCells w3.heap.size 0 PC.toList = W9 := ⟨_, rfl⟩
  have hst := fun {ops : Array Oper} {rest : List Oper} {op : Oper} {a : Act} {Q : Exit → Act → World → Prop} => st14 (ops := ops) (rest := rest) (op := op) (a := a) (Q := Q) XV rfl hP14 hP1 W9 h9
  have X9 : Blk W9 w3.heap.size PC 30 := HPB.out _ _ _ XV h9
  have Y9 : Blk W9 (w3.heap.size + 1) #[.int .i64 0, .int .i64 0] 34 := by rw [← h9]; exact YV.keep (cellsD_far _ _ _ _ (by omega))
  have b9 : Below w3.heap.size w3 W9 := by rw [← h9]; exact belowD_cells (Nat.le_refl _) _ _ _ bV
  have c0 : W9.cell? ⟨w3.heap.size + 1, 0, none⟩ = some (.int .i64 0) := Y9.cell 0
  have c1 : W9.cell? ⟨w3.heap.size + 1, 1, none⟩ = some (.int .i64 0) := Y9.cell 1
  have f0 := Y9.frozen 0
  have f1 := Y9.frozen 1
  have l9 := Y9.lt
  have b10 : Below w3.heap.size w3 ((W9.setCell ⟨w3.heap.size + 1, 0, none⟩ (.int .i64 0)).setCell ⟨w3.heap.size + 1, 1, none⟩ (.int .i64 0)) := (b9.setCell (p := ⟨w3.heap.size + 1, 0, none⟩) (by simp) _).setCell (p := ⟨w3.heap.size + 1, 1, none⟩) (by simp) _
  have X10 : Blk ((W9.setCell ⟨w3.heap.size + 1, 0, none⟩ (.int .i64 0)).setCell ⟨w3.heap.size + 1, 1, none⟩ (.int .i64 0)) w3.heap.size PC 30 := (X9.far (by omega) 0 _).far (by omega) 1 _
  have Y10 : Aside (Blk ((W9.setCell ⟨w3.heap.size + 1, 0, none⟩ (.int .i64 0)).setCell ⟨w3.heap.size + 1, 1, none⟩ (.int .i64 0)) (w3.heap.size + 1) #[.int .i64 0, .int .i64 0] 34) := (Y9.set 0 _).set 1 _
  have hld := fun {ops : Array Oper} {rest : List Oper} {op : Oper} {a : Act} {Q : Exit → Act → World → Prop} => ld14 (ops := ops) (rest := rest) (op := op) (a := a) (Q := Q) hP14 X10
  have B10 : Aside (Below w.heap.size w ((W9.setCell ⟨w3.heap.size + 1, 0, none⟩ (.int .i64 0)).setCell ⟨w3.heap.size + 1, 1, none⟩ (.int .i64 0))) := B3.trans (b10.mono B3.size)
  have XQ : Aside (Blk ((W9.setCell ⟨w3.heap.size + 1, 0, none⟩ (.int .i64 0)).setCell ⟨w3.heap.size + 1, 1, none⟩ (.int .i64 0)) w.heap.size QC 30) := X3.on b10
  have c1 := HC.out.one _ (.agg PC) (.slice (some ⟨w.heap.size + 1, 0, none⟩) 1 1) B10.out (HP.out.on b10) (L3.on b10)
  clear cP b1 b2 X2 L2 HPB HP b3 B3 X3 L3 bV XV YV h9 X9 Y9 b9 b10 X10
  go_wp2_with (first | (refine hst rfl _ _ rfl rfl rfl ?_) | (refine hld rfl _ rfl rfl ?_))
  refine c1.mono ?_
  rintro e w4 ⟨⟨cb, co, cc, rfl, hcl, d0, d1⟩, b4⟩
  have X4 : Blk w4 w.heap.size QC 30 := XQ.out.on b4
  have Y4 : Blk w4 (w3.heap.size + 1) #[.int .i64 0, .int .i64 0] 34 := Y10.out.on b4
  have B4 : Aside (Below w.heap.size w w4) := B10.out.trans (b4.mono B10.out.size)
  have e0 : w4.cell? ⟨w3.heap.size + 1, 0, none⟩ = some (.int .i64 0) := Y4.cell 0
  have el := Y4.lt
  have cT := HC.out.two _ B4.out
  have hld4 := fun {ops : Array Oper} {rest : List Oper} {op : Oper} {a : Act} {Q : Exit → Act → World → Prop} => ld14 (ops := ops) (rest := rest) (op := op) (a := a) (Q := Q) hs14 X4
  have X4' : Aside (Blk w4 w.heap.size QC 30) := X4
  clear hst hld c1 c0 f0 f1 l9 Y10 B10 XQ b4 X4 Y4 HC hP14 hP1
  go_wp2_with (refine hld4 rfl _ rfl rfl ?_)
  refine cT.mono ?_
  rintro e w5 ⟨⟨u, rfl, CU⟩, b5⟩
  have B5 : Aside (Below w.heap.size w w5) := B4.out.trans (b5.mono B4.out.size)
  have X5 : Blk w5 w.heap.size QC 30 := X4'.out.on b5
  obtain ⟨up, uc, rfl⟩ := cols_form CU.out
  have hv : errV 0 = .nilIface := rfl
  rw [hv, HN.out]
  have CU2 : Aside (ColsV w5 (.slice up N uc) RL) := by have := CU.out; rw [HN.out] at this; exact this
  have lq5 := X5.lt
  have hb5 : w.heap.size < w5.heap.size := X5.lt
  have k9 : w5.cell? ⟨w.heap.size, 9, none⟩ = some (.slice np NN nc) := by rw [X5.cell]; exact HQC.out.1
  have o5 : w5.ownsRow w5.heap.size 9 1 (.slice none 0 0) 0 (([] : List ByteArray).map .string) := World.ownsRow_nil _ _ _ _
  have hsn : StsA w5 (.slice np NN nc) q.names := by have := HB.out.names.on B5.out; rw [HNN.out] at this; exact this
  have lN : 0 + q.names.length = NN := by rw [HNN.out]; omega
  clear hld4 cT CU b5 B4 X4' hv d0 d1 e0 el hcl
  go_wp2_with (at_builtin; refine wpList_append_sts rfl _ _ rfl w5.heap.size _ _ [] rfl o5 _ q.names rfl hsn NN (q.names.map .string) lN (by simp) (by omega) (Nat.le_refl _) ?_)
  intro v6 w6 o6 b6
  have X6 : Blk w6 w.heap.size QC 30 := X5.on b6
  have lq6 := X6.lt
  have k10 : w6.cell? ⟨w.heap.size, 10, none⟩ = some (.slice gp NG gc) := by rw [X6.cell]; exact HQC.out.2.1
  have B6 : Below w.heap.size w w6 := B5.out.trans (b6.mono B5.out.size)
  have hsg : StsA w6 (.slice gp NG gc) q.group := by have := HB.out.group.on B6; rw [HNG.out] at this; exact this
  have lG : NN + q.group.length = NN + NG := by rw [HNG.out]
  have hz6 := b6.size
  clear o5 hsn lN k9 X5 lq5
  go_wp2_with (at_builtin; refine wpList_append_sts rfl _ _ rfl w5.heap.size _ _ q.names rfl o6 _ q.group rfl hsg (NN + NG) (nmK (q.names ++ q.group) q.aggs 0) lG (by rw [nmK]; simp) (by omega) hz6 ?_)
  intro v7 w7 o7 b7
  have b57 : Aside (Below w5.heap.size w5 w7) := b6.trans b7
  have OW7 : Aside (w7.ownsRow w5.heap.size 9 1 v7 (NN + NG) (nmK (q.names ++ q.group) q.aggs 0)) := o7
  have XQ6 : Aside (Blk w6 w.heap.size QC 30) := X6
  have XQ7 : Blk w7 w.heap.size QC 30 := X6.keep (b7.block _ hb5)
  have XW : Aside (Blk w7 w.heap.size QC 30) := XQ7
  clear o6 o7 hsg lG k10 b6 b7 B6 X6 lq6 XQ7
  go_wp2
  go_loopg [12, 13] NA (fun gg s12 s13 wr => ∃ (kk : Nat) (u : Value), kk ≤ NA ∧ NA - kk ≤ gg ∧ s13 = .int .i64 (kk : Int) ∧ s12 = u ∧ Aside (wr.ownsRow w5.heap.size 9 1 u (NN + NG + kk) (nmK (q.names ++ q.group) q.aggs kk)) ∧ Aside (Below w5.heap.size w5 wr) ∧ w5.heap.size ≤ wr.heap.size ∧ Aside (Blk wr w.heap.size QC 30))
  case atStart => exact ⟨0, v7, Nat.zero_le _, by omega, rfl, rfl, OW7, b57, b57.out.size, XW⟩
  case round =>
    obtain ⟨kk, u, hkk, hgk, rfl, hu, OJ, BJ, hsz, XJ⟩ := hrel
    obtain rfl : u = _ := hu.symm
    have k13 : wr.cell? ⟨w.heap.size, 13, none⟩ = some (.slice ap NA ac) := by rw [XJ.out.cell]; exact HQC.out.2.2
    have lqr := XJ.out.lt
    clear OW7 b57 XW
    by_cases hlt : kk < NA
    · have hltz : (kk : Int) < (NA : Int) := by omega
      have h0z : (0 : Int) ≤ (kk : Int) := by omega
      have hk2 : kk < q.aggs.length := by rw [HNA.out]; exact hlt
      obtain ⟨ba, oa, yp, yc, rfl, hbl, -, hrg, -⟩ := agQ_at HB.out.aggs hk2
      have hrg2 := range_on hrg hbl (B5.out.trans (BJ.out.mono B5.out.size))
      have hnm : wr.cell? ⟨ba, oa + kk * 9 + 8, none⟩ = some (.string q.aggs[kk].name) := hrg2 8 _ rfl
      have hbr : ba < wr.heap.size := by omega
      have HT : Hid (q.names ++ q.group ++ (q.aggs.take kk).map (·.name) ++ [q.aggs[kk].name] = q.names ++ q.group ++ (q.aggs.take (kk + 1)).map (·.name)) := by
        show _ = _
        rw [List.take_succ_eq_append_getElem hk2, List.map_append, List.append_assoc]
        rfl
      clear hrg hrg2
      generalize q.aggs[kk].name = name at hnm HT
      have hone := sts_one wr name wr.heap.size rfl
      have O2 := OJ.out.alloc (.cells #[.string name] 9)
      have bA := al wr (.cells #[.string name] 9)
      have BW : Below w5.heap.size w5 (wr.alloc (.cells #[.string name] 9)) := BJ.out.trans (bA.mono hsz)
      have XA : Blk (wr.alloc (.cells #[.string name] 9)) w.heap.size QC 30 := XJ.out.on bA
      obtain ⟨uq, uc2, rfl⟩ := lown_slice O2
      go_wp2_with (at_builtin; refine wpList_append_sts rfl _ _ rfl w5.heap.size _ _ (q.names ++ q.group ++ (q.aggs.take kk).map (·.name)) rfl O2 _ [name] rfl hone (NN + NG + (kk + 1)) (nmK (q.names ++ q.group) q.aggs (kk + 1)) (by simp; omega) (by rw [HT.out]; rfl) (by omega) (by simp; omega) ?_)
      intro v' w2 ho hb
      have O3 : Aside (w2.ownsRow w5.heap.size 9 1 v' (NN + NG + (kk + 1)) (nmK (q.names ++ q.group) q.aggs (kk + 1))) := ho
      have B3 : Aside (Below w5.heap.size w5 w2) := BW.trans hb
      have X3 : Aside (Blk w2 w.heap.size QC 30) := XA.keep (hb.block _ hb5)
      have hs2 : w5.heap.size ≤ w2.heap.size := B3.out.size
      clear ho hb OJ BJ XJ hone O2 BW bA XA k13 hnm
      go_wp2
      go_roundg (NA - (kk + 1))
      case measure => omega
      case rel => exact ⟨kk + 1, v', by omega, by omega, by go_num, rfl, O3, B3, hs2, X3⟩
    · have hltz : ¬ (kk : Int) < (NA : Int) := by omega
      obtain rfl : kk = NA := by omega
      have O2 : Aside (StsA wr u (namesQ q)) := by
        show StsA _ _ _
        have := OJ.out
        rw [nmK, List.take_of_length_le (by rw [HNA.out]; exact Nat.le_refl _), List.append_assoc] at this
        exact sts_own (by rw [names_len, HNN.out, HNG.out, HNA.out]; omega) (by omega) this
      have CJ : Aside (ColsV wr (.slice up N uc) RL) := CU2.out.on BJ.out
      have BR : Aside (Below w.heap.size w wr) := B5.out.trans (BJ.out.mono B5.out.size)
      have hlN : (namesQ q).length = N := by rw [names_len, HNN.out, HNG.out, HNA.out]; have := HNS.out; omega
      have HLN : Hid ((namesQ q).length = N) := hlN
      obtain ⟨nq, nuc, rfl⟩ := sts_form O2.out
      have O4 : Aside (StsA wr (.slice nq N nuc) (namesQ q)) := by have := O2.out; rw [hlN] at this; exact this
      rw [hlN]
      clear OJ BJ XJ O2 CU2 B5 hlN
      go_wp2
      clear k13
      go_loopg [14] N (fun gg s14 wx => ∃ kk : Nat, kk ≤ N ∧ N - kk ≤ gg ∧ s14 = .int .i64 kk ∧ Aside (Below wr.heap.size wr wx))
      case atStart => exact ⟨0, Nat.zero_le _, by omega, rfl, (show Aside _ from Below.refl _ _)⟩
      case round =>
        obtain ⟨kk, hkk, hg, rfl, BX⟩ := hrel
        by_cases hlt : kk < N
        · have hltz : (kk : Int) < (N : Int) := by omega
          have h0z : (0 : Int) ≤ (kk : Int) := by omega
          have hge : decide ((N : Int) ≤ (kk : Int)) = false := by simp; omega
          have hge2 : decide (N ≤ kk) = false := by simp; omega
          have hge3 : ¬ N ≤ kk := by omega
          have hge4 : ¬ (N : Int) ≤ (kk : Int) := by omega
          have hk2 : kk < RL.length := by rw [HN.out]; exact hlt
          have hk3 : kk < (namesQ q).length := by rw [HLN.out]; exact hlt
          obtain ⟨b1, o1, rfl, l1, d0, d1⟩ := colsW_at CJ.out hk2
          obtain ⟨b2, o2, rfl, l2, h2⟩ := sts_some O4.out hk3
          have e0 : wr.cell? ⟨b1, o1 + kk * 2, none⟩ = some (.string RL[kk].1) := by rw [BX.out.cell (p := ⟨b1, _, none⟩) l1]; exact d0
          have e1 : wr.cell? ⟨b1, o1 + kk * 2 + 1, none⟩ = some (.int .i64 RL[kk].2) := by rw [BX.out.cell (p := ⟨b1, _, none⟩) l1]; exact d1
          have e2 : wr.cell? ⟨b2, o2 + kk, none⟩ = some (.string RL[kk].1) := by
            rw [BX.out.cell (p := ⟨b2, _, none⟩) l2, h2 kk hk3]
            have : (namesQ q)[kk] = RL[kk].1 := by
              have h5 := HMP.out.1
              have : (RL.map (·.1))[kk]? = (namesQ q)[kk]? := by rw [h5]
              rw [List.getElem?_map, List.getElem?_eq_getElem hk2, List.getElem?_eq_getElem hk3] at this
              exact (Option.some.inj this).symm
            rw [this]
          have ht := ((schE_zero HMP.out.2).2.2 kk hk2).2.1
          have lb1 : b1 < wr.heap.size := by have := BX.out.size; omega
          have lb2 : b2 < wr.heap.size := by have := BX.out.size; omega
          clear d0 d1 h2
          generalize RL[kk].1 = S at e0 e2
          generalize RL[kk].2 = T at e1 ht
          have t1 : decide (T < 1) = false := by simp; omega
          have t3 : decide (3 < T) = false := by simp; omega
          have qs : (S.toList == S.toList) = true := by simp
          go_wp2
          go_big_quiet (fail)
          go_wp2
          go_roundg (N - (kk + 1))
          case measure => omega
          case rel => exact ⟨kk + 1, by omega, by omega, by go_num, (show Aside _ from below_drewN BX.out _)⟩
        · have hltz : ¬ (kk : Int) < (N : Int) := by omega
          have B9 := BR.out.trans (BX.out.mono BR.out.size)
          go_wp2
          go_ret
          exact ⟨rfl, B9⟩
/-- The law, at any query and columns. -/
theorem names_law (q : Qy) (v vl : Value) (zs : List Cl) (w : World) (henv : KEnv w) (haenv : AEnv w) (hsg : SG w) (hq : QyIn w (fun _ => True) v q) (hok : QyOk q) (hcv : ColsV w vl zs) :
    Calls Tryz.prog 4 #[v, vl] w fun e w' => e = .returned (.bool true) ∧ Below w.heap.size w w' := by
  have C := qnC henv haenv hsg hq hok hcv (chQ zs q).1 (chQ zs q).2 (Prod.ext rfl rfl)
  obtain ⟨wp, wc, cp, cc, np, nc, gp, gc, ap, ac, rfl, hB⟩ := hq
  rcases chQ_says zs q with ⟨h1, h2⟩ | ⟨h1, h2, h3, h4⟩
  · exact names_bad q vl zs w _ rfl _ _ h1 h2 C
  · rw [h1] at C
    exact names_good q vl zs w _ wp wc cp cc np nc gp gc ap ac (qv_of q wp wc cp cc np nc gp gc ap ac) hB _ h2 h3 (form_ok h4) C
end Go.Proofs.YtkbhmghdonomnaaGreatDoor
