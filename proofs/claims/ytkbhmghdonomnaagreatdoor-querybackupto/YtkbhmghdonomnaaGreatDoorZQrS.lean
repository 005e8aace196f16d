/-
  Package query: Parse at a text that falls into words.
-/
import Derived.Test.YtkbhmghdonomnaaGreatDoorGzAv
namespace Go.Proofs.YtkbhmghdonomnaaGreatDoor
open Go.RowKit Go.BigFrame
set_option linter.unusedVariables false
set_option linter.unusedSimpArgs false
variable {en : Nat} {WZ : World}

theorem thU_no {α β : Type} {a : Option α × List Tok} {f : α → List Tok → Option β × List Tok} (h : a.1 = none) : thU a f = (none, a.2) := by
 obtain ⟨o, rs⟩ := a
 cases h
 rfl
theorem query_q (W : World) (tr rb : Nat) (ts : List Tok) (h : QS WZ en W tr rb ts (qb0 tr) (fun _ => True)) (hl : ts.length ≤ 400) :
  Calls Tryz.prog 11 #[.pointer (some ⟨rb, 0, none⟩)] W fun e w' => ∃ R : Bool, e = .returned (.bool R) ∧ Aside (QH WZ en w' tr rb (qU ts).2) ∧ Hid ((R = false ∧ (qU ts).1 = none) ∨ (R = true ∧ ∃ q, (qU ts).1 = some q ∧ QFin w' tr rb q)) := by
 obtain ⟨R1, rs1, hj⟩ := jU_form wSelect ts
 cases R1
 ·have hq : qU ts = (none, rs1) := by rw [qU, thU_no (by rw [hj]; rfl), hj]
  rw [hq]
  exact (query_bad W tr rb ts rs1 h.qh hj).mono fun e w' hh => ⟨false, hh.1, hh.2, .inl ⟨rfl, rfl⟩⟩
 ·have hj' : jU wSelect ts = (some (), rs1) := hj
  cases hb : nextB agB rs1 with
  | false =>
   have hq : qU ts = qOneU rs1 := by rw [qU, thU_to (x := ()) (by rw [hj']), hj']; simp only; rw [if_neg (by rw [hb]; decide)]
   rw [hq]
   exact query_one W tr rb ts rs1 h hl hj' hb
  | true =>
   have hq : qU ts = qTwoU rs1 := by rw [qU, thU_to (x := ()) (by rw [hj']), hj']; simp only; rw [if_pos hb]
   rw [hq]
   exact query_two W tr rb ts rs1 h hl hj' hb
theorem qpC_no {l : List UInt8} {R : List Tok} (hL : lexAll l = (R, 0, 0)) (h : (qU R).1 = none) : qpC l = (qyZ, 2, placeT (qU R).2 l.length) := by
 rw [qpC, hL]
 simp only
 rw [if_neg (by decide)]
 have e : qU R = (none, (qU R).2) := Prod.ext h rfl
 rw [e]
theorem qpC_more {l : List UInt8} {R rs : List Tok} {t : Tok} {q : Qy} (hL : lexAll l = (R, 0, 0)) (h : qU R = (some q, t :: rs)) : qpC l = (qyZ, 2, placeT (t :: rs) l.length) := by
 rw [qpC, hL]
 simp only
 rw [if_neg (by decide), h]
theorem qpC_full {l : List UInt8} {R : List Tok} {q : Qy} (hL : lexAll l = (R, 0, 0)) (h : qU R = (some q, [])) (ha : (exsQ q).any ckB = true) : qpC l = (qyZ, 4, 0) := by
 rw [qpC, hL]
 simp only
 rw [if_neg (by decide), h]
 simp only
 rw [if_pos ha]
theorem qpC_all {l : List UInt8} {R : List Tok} {q : Qy} (hL : lexAll l = (R, 0, 0)) (h : qU R = (some q, [])) (ha : (exsQ q).any ckB = false) : qpC l = (q, 0, 0) := by
 rw [qpC, hL]
 simp only
 rw [if_neg (by decide), h]
 simp only
 rw [if_neg (by rw [ha]; decide)]
theorem one14 (q : Qy) (wp : Option Addr) (wc : Nat) (cp : Option Addr) (cc : Nat) (np : Option Addr) (nc : Nat) (gp : Option Addr) (gc : Nat) (ap : Option Addr) (ac : Nat) : (qyC q wp wc cp cc np nc gp gc ap ac).all (·.oneCell') = true := by simp [Value.oneCell']
theorem hw14 (q : Qy) (wp : Option Addr) (wc : Nat) (cp : Option Addr) (cc : Nat) (np : Option Addr) (nc : Nat) (gp : Option Addr) (gc : Nat) (ap : Option Addr) (ac : Nat) : ∀ (j : Nat) (v : Value), (exL q.whr wp wc)[j]? = some v → (qyC q wp wc cp cc np nc gp gc ap ac)[1 + j]? = some v := fun j v hv => by
 have hj : j < 7 := by have := (List.getElem?_eq_some_iff.1 hv).1; simpa using this
 have : j = 0 ∨ j = 1 ∨ j = 2 ∨ j = 3 ∨ j = 4 ∨ j = 5 ∨ j = 6 := by omega
 rcases this with rfl | rfl | rfl | rfl | rfl | rfl | rfl
 all_goals (simp at hv; subst hv; rfl)
theorem one0 : q0D.all (·.oneCell') = true := by simp [Value.oneCell']
theorem blk14 {V W9 : World} {b : Nat} {v0 v1 v2 v3 v4 v5 v6 v7 v8 v9 v10 v11 v12 v13 : Value} (X : Blk V b q0D 30) (h9 : V.setCells b 0 [v0, v1, v2, v3, v4, v5, v6, v7, v8, v9, v10, v11, v12, v13] = W9) : Blk W9 b #[v0, v1, v2, v3, v4, v5, v6, v7, v8, v9, v10, v11, v12, v13] 30 := by
 subst h9
 have := blkD_cells [v0, v1, v2, v3, v4, v5, v6, v7, v8, v9, v10, v11, v12, v13] 0 V _ X
 rwa [show putD q0D 0 [v0, v1, v2, v3, v4, v5, v6, v7, v8, v9, v10, v11, v12, v13] = _ from putD14 _ _ _ _ _ _ _ _ _ _ _ _ _ _] at this
theorem cellsD_size {b : Nat} : ∀ (vs : List Value) (o : Nat) (w : World), (w.setCells b o vs).heap.size = w.heap.size
 | [], _, _ => rfl
 | v :: r, o, w => by
  show ((w.setCell ⟨b, o, none⟩ v).setCells b (o + 1) r).heap.size = _
  rw [cellsD_size r (o + 1) _]
  simp [World.setCell]
theorem fin_world {w V W9 : World} {v0 v1 v2 v3 v4 v5 v6 v7 v8 v9 v10 v11 v12 v13 : Value} (X : Blk V w.heap.size q0D 30) (Y : Blk V (w.heap.size + 1) #[.int .i64 0, .int .i64 0] 34) (B : Below w.heap.size w V) (h9 : V.setCells w.heap.size 0 [v0, v1, v2, v3, v4, v5, v6, v7, v8, v9, v10, v11, v12, v13] = W9) :
  Blk W9 w.heap.size #[v0, v1, v2, v3, v4, v5, v6, v7, v8, v9, v10, v11, v12, v13] 30 ∧ Blk W9 (w.heap.size + 1) #[.int .i64 0, .int .i64 0] 34 ∧ Below w.heap.size w W9 ∧ V.heap.size = W9.heap.size ∧ ∀ c, c ≠ w.heap.size → W9.heap[c]? = V.heap[c]? := by
 refine ⟨blk14 X h9, ?_, ?_, ?_, ?_⟩
 ·rw [← h9]; exact Y.keep (cellsD_far _ _ _ _ (by omega))
 ·rw [← h9]; exact belowD_cells (Nat.le_refl _) _ _ _ B
 ·rw [← h9, cellsD_size]
 ·intro c hc; rw [← h9]; exact cellsD_far _ _ _ _ hc
theorem fin_set {w W9 : World} {QC : Array Value} (E : Int) (P : Nat) (X : Blk W9 w.heap.size QC 30) (Y : Blk W9 (w.heap.size + 1) #[.int .i64 0, .int .i64 0] 34) (B : Below w.heap.size w W9) :
  Blk ((W9.setCell ⟨w.heap.size + 1, 0, none⟩ (.int .i64 E)).setCell ⟨w.heap.size + 1, 1, none⟩ (.int .i64 (P : Nat))) w.heap.size QC 30 ∧ Blk ((W9.setCell ⟨w.heap.size + 1, 0, none⟩ (.int .i64 E)).setCell ⟨w.heap.size + 1, 1, none⟩ (.int .i64 (P : Nat))) (w.heap.size + 1) #[.int .i64 E, .int .i64 (P : Nat)] 34 ∧ Below w.heap.size w ((W9.setCell ⟨w.heap.size + 1, 0, none⟩ (.int .i64 E)).setCell ⟨w.heap.size + 1, 1, none⟩ (.int .i64 (P : Nat))) :=
 ⟨(X.far (by omega) 0 _).far (by omega) 1 _, (Y.set 0 _).set 1 _, (B.setCell (p := ⟨w.heap.size + 1, 0, none⟩) (by simp) _).setCell (p := ⟨w.heap.size + 1, 1, none⟩) (by simp) _⟩
set_option maxHeartbeats 8000000 in
set_option maxRecDepth 20000 in
theorem parse_good (s : ByteArray) (w : World) (henv : TEnv w) (haenv : AEnv w) (hw : SG w) (R : List Tok) (hL : lexAll s.data.toList = (R, 0, 0)) (hs : s.size ≤ maxLen) (q1 : Qy) (E1 : Int) (P1 : Nat) (hZ : qpC s.data.toList = (q1, E1, P1)) :
  Calls Tryz.prog 5 #[.string s] w fun e w' => (∃ v, e = .returned (.tuple #[v, .agg #[.int .i64 E1, .int .i64 (P1 : Nat)]]) ∧ QyIn w' (fun _ => True) v q1) ∧ Below w.heap.size w w' := by
 have X0 : Aside (Blk ((w.alloc (.cells q0D 30)).alloc (.cells #[.int .i64 0, .int .i64 0] 34)) w.heap.size q0D 30) := (blk_alloc w _ _).on (al _ _)
 have Y0 : Aside (Blk ((w.alloc (.cells q0D 30)).alloc (.cells #[.int .i64 0, .int .i64 0] 34)) (w.heap.size + 1) #[.int .i64 0, .int .i64 0] 34) := by
  have := blk_alloc (w.alloc (.cells q0D 30)) #[.int .i64 0, .int .i64 0] 34
  rwa [show (w.alloc (.cells q0D 30)).heap.size = w.heap.size + 1 by simp] at this
 have b0 : Below w.heap.size w ((w.alloc (.cells q0D 30)).alloc (.cells #[.int .i64 0, .int .i64 0] 34)) := (al w _).alloc (by simp) _
 have cN := newReader_good s _ (henv.on b0) (hw.on b0) R hL hs
 have HE : Aside (TEnv w ∧ AEnv w) := ⟨henv, haenv⟩
 obtain ⟨hlen, hfit⟩ := lexAll_fitQ hL
 have HF : Aside (Fit R ∧ NumT R ∧ R.length ≤ 400) := ⟨hfit, lexAll_num hL, hlen⟩
 have HL : Aside (lexAll s.data.toList = (R, 0, 0)) := hL
 have HZ : Aside (qpC s.data.toList = (q1, E1, P1)) := hZ
 have hss : s.data.toList.length = s.size := by rw [Lib.size_eq]
 have HSS : Hid (s.data.toList.length = s.size) := hss
 have hG := henv.big
 clear henv hw haenv hlen hfit hL hZ hss
 go_enter Tryz.func5, Tryz.ntmps5
 go_wp2_with fail
 refine cN.mono ?_
 rintro e w1 ⟨⟨r, rfl, hr, hrd⟩, b1⟩
 have X1 : Aside (Blk w1 w.heap.size q0D 30) := X0.out.on b1
 have Y1 : Aside (Blk w1 (w.heap.size + 1) #[.int .i64 0, .int .i64 0] 34) := Y0.out.on b1
 have B1 : Aside (Below w.heap.size w w1) := b0.trans (b1.mono b0.size)
 have hz : w.heap.size + 2 ≤ w1.heap.size := by have := Y1.out.lt; omega
 have hr2 : w.heap.size + 2 ≤ r := by simpa using hr
 have hrl := hrd.lt
 clear cN b1 X0 Y0 b0 hr
 have bW : Below w1.heap.size w1 ((w1.alloc (.cells #[.int .i64 0, .int .i64 0] 34)).alloc (.cells (qb0 r) 55)) := (al w1 _).alloc (by simp) _
 have box : Blk ((w1.alloc (.cells #[.int .i64 0, .int .i64 0] 34)).alloc (.cells (qb0 r) 55)) (w1.heap.size + 1) (qb0 r) 55 := by
  have := blk_alloc (w1.alloc (.cells #[.int .i64 0, .int .i64 0] 34)) (qb0 r) 55
  rwa [show (w1.alloc (.cells #[.int .i64 0, .int .i64 0] 34)).heap.size = w1.heap.size + 1 by simp] at this
 have bw2 := B1.out.trans (bW.mono B1.out.size)
 have hQH : QH w1 s.size ((w1.alloc (.cells #[.int .i64 0, .int .i64 0] 34)).alloc (.cells (qb0 r) 55)) r (w1.heap.size + 1) R := ⟨hrd.on bW, box.cell 0, box.lt, by omega, HE.out.1.on bw2, HE.out.2.onB bw2 hG bw2.size, by omega, HF.out.1, HF.out.2.1, bW.mono (by omega)⟩
 have cQ := query_q (WZ := w1) (en := s.size) _ r (w1.heap.size + 1) R ⟨hQH, box, trivial⟩ HF.out.2.2
 clear hQH bW box bw2 hrd
 go_wp2_with fail
 refine cQ.mono ?_
 rintro e w3 ⟨RB, rfl, Q3, HQ⟩
 clear cQ
 have O3 : Below r w1 w3 := Q3.out.old
 have X3 : Aside (Blk w3 w.heap.size q0D 30) := X1.out.keep (O3.block _ (by omega))
 have Y3 : Aside (Blk w3 (w.heap.size + 1) #[.int .i64 0, .int .i64 0] 34) := Y1.out.keep (O3.block _ (by omega))
 have B3 : Aside (Below w.heap.size w w3) := B1.out.trans (O3.mono (by omega))
 have p3 := Q3.out.p0
 have l3 := Q3.out.lt
 clear O3 X1 Y1 B1
 rcases HQ.out with ⟨rfl, hn⟩ | ⟨rfl, q, hq, hfin⟩
 ·have hz2 := (qpC_no HL.out hn).symm.trans HZ.out
  have cP := place_q w3 r _ Q3.out.rd
  rw [HSS.out] at hz2
  obtain ⟨PL, hPL⟩ : ∃ PL, placeT (qU R).2 s.size = PL := ⟨_, rfl⟩
  rw [hPL] at cP hz2
  clear hPL
  obtain ⟨rfl, hz3⟩ := Prod.mk.inj hz2
  obtain ⟨rfl, rfl⟩ := Prod.mk.inj hz3
  obtain ⟨W9, h9⟩ : ∃ W9, w3.setCells w.heap.size 0 q0D.toList = W9 := ⟨_, rfl⟩
  obtain ⟨X9, Y9, B9, _, _⟩ := fin_world X3.out Y3.out B3.out h9
  have hst := fun {ops : Array Oper} {rest : List Oper} {op : Oper} {a : Act} {Q : Exit → Act → World → Prop} => st14 (ops := ops) (rest := rest) (op := op) (a := a) (Q := Q) X3.out rfl rfl one0 W9 h9
  clear HQ hn hz2 hz3 HZ HL h9
  go_wp2_with fail
  refine cP.mono ?_
  rintro e w4 ⟨rfl, hw4⟩
  obtain rfl : w3 = w4 := hw4.symm
  clear cP hw4
  have c0 : W9.cell? ⟨w.heap.size + 1, 0, none⟩ = some (.int .i64 0) := Y9.cell 0
  have c1 : W9.cell? ⟨w.heap.size + 1, 1, none⟩ = some (.int .i64 0) := Y9.cell 1
  have f0 := Y9.frozen 0
  have f1 := Y9.frozen 1
  have l9 := Y9.lt
  go_wp2_with (refine hst rfl _ _ rfl rfl rfl ?_)
  obtain ⟨X8, Y8, B8⟩ := fin_set 2 PL X9 Y9 B9
  exact parse_end _ w _ q0D 2 PL qyZ rfl rfl rfl rfl (qyZ_in _ _) X8 Y8 B8
 ·cases hrs : (qU R).2 with
  | cons t rs =>
   have hqe : qU R = (some q, t :: rs) := Prod.ext hq hrs
   have hz2 := (qpC_more HL.out hqe).symm.trans HZ.out
   have hrd3 := Q3.out.rd
   rw [hrs] at hrd3
   have cE := ended_some w3 r t rs hrd3
   have cP := place_q w3 r _ hrd3
   rw [HSS.out] at hz2
   obtain ⟨PL, hPL⟩ : ∃ PL, placeT (t :: rs) s.size = PL := ⟨_, rfl⟩
   rw [hPL] at cP hz2
   clear hPL
   obtain ⟨rfl, hz3⟩ := Prod.mk.inj hz2
   obtain ⟨rfl, rfl⟩ := Prod.mk.inj hz3
   obtain ⟨W9, h9⟩ : ∃ W9, w3.setCells w.heap.size 0 q0D.toList = W9 := ⟨_, rfl⟩
   obtain ⟨X9, Y9, B9, _, _⟩ := fin_world X3.out Y3.out B3.out h9
   have hst := fun {ops : Array Oper} {rest : List Oper} {op : Oper} {a : Act} {Q : Exit → Act → World → Prop} => st14 (ops := ops) (rest := rest) (op := op) (a := a) (Q := Q) X3.out rfl rfl one0 W9 h9
   clear HQ hz2 hz3 HZ HL h9 hfin hq hqe hrd3 hrs
   go_wp2_with fail
   refine cE.mono ?_
   rintro e w4 ⟨rfl, hw4⟩
   obtain rfl : w3 = w4 := hw4.symm
   clear cE hw4
   go_wp2_with fail
   refine cP.mono ?_
   rintro e w4 ⟨rfl, hw4⟩
   obtain rfl : w3 = w4 := hw4.symm
   clear cP hw4
   have c0 : W9.cell? ⟨w.heap.size + 1, 0, none⟩ = some (.int .i64 0) := Y9.cell 0
   have c1 : W9.cell? ⟨w.heap.size + 1, 1, none⟩ = some (.int .i64 0) := Y9.cell 1
   have f0 := Y9.frozen 0
   have f1 := Y9.frozen 1
   have l9 := Y9.lt
   go_wp2_with (refine hst rfl _ _ rfl rfl rfl ?_)
   obtain ⟨X8, Y8, B8⟩ := fin_set 2 PL X9 Y9 B9
   exact parse_end _ w _ q0D 2 PL qyZ rfl rfl rfl rfl (qyZ_in _ _) X8 Y8 B8
  | nil =>
   have hqe : qU R = (some q, []) := Prod.ext hq hrs
   have hrd3 := Q3.out.rd
   rw [hrs] at hrd3
   have cE := ended_none w3 r hrd3
   obtain ⟨hok, _⟩ := qU_rd (lexAll_gk HL.out).1 hq
   have HOK : Aside (OkQ q) := hok
   have hsm := qU_small HF.out.2.2 hq
   obtain ⟨wp, wc, cp, cc, np, nc, gp, gc, ap, ac, hbx, hbe, hcn, hl1, hl2⟩ := hfin
   have cX := expressions_q q _ wp wc cp cc np nc gp gc ap ac _ (qv_of q wp wc cp cc np nc gp gc ap ac) (hw14 q wp wc cp cc np nc gp gc ap ac) w3 hbe hcn hl1 hl2
   have cC := fun (w4 : World) (b4 : Below w3.heap.size w3 w4) (p : Option Addr) (n c : Nat) (lo : Nat → Prop) (h1 : ArgsIs w4 lo (.slice p n c) (exsQ q)) (h2 : (exsQ q).length = n) => containsEx_q lo p n c (exsQ q) w4 (Q3.out.env.on b4) h2 h1 (fun x hx => by rw [pre_len]; have := hsm x hx; omega) (by rw [← h2, exsQ, List.length_cons, List.length_append, List.length_map]; omega)
   have HB3 : Aside (Blk w3 (w1.heap.size + 1) (qbC r q wp wc cp cc np nc gp gc ap ac) 55) := hbx
   have HBE : Aside (QyBe w3 (w1.heap.size + 1 + 1 ≤ ·) q wp wc cp cc np nc gp gc ap ac) := hbe
   have hld := fun (W : World) (bW : Below w3.heap.size w3 W) {ops : Array Oper} {rest : List Oper} {op : Oper} {a : Act} {Q : Exit → Act → World → Prop} (hgd : op.guard = none) (x : Operand) (ho : op.op = .load 30 x) (hx : a.eval x = .pointer (some ⟨w1.heap.size + 1, 1, none⟩)) (h : wpList Tryz.prog ops Q rest (a.put op.dst (.agg (qyC q wp wc cp cc np nc gp gc ap ac))) W) => wpList_load_mid (P := Tryz.prog) hgd 30 x ho (w1.heap.size + 1) 1 hx (qyC q wp wc cp cc np nc gp gc ap ac).toList _ (fun j v hv => by rw [(HB3.out.on bW).cell, Nat.add_comm]; simpa using hv) Tryz.underlying30 rfl size_qyD h
   clear HQ hrd3 hrs hbx hbe hcn hsm hok
   go_wp2_with fail
   refine cE.mono ?_
   rintro e w4 ⟨rfl, hw4⟩
   obtain rfl : w3 = w4 := hw4.symm
   clear cE hw4
   go_wp2_with (refine hld w3 (Below.refl _ _) rfl _ rfl rfl ?_)
   refine cX.mono ?_
   rintro e w4 ⟨⟨ep, en, ec, rfl, AE, HE2⟩, b4⟩
   have cC2 := cC w4 b4 ep en ec _ AE.out HE2.out
   clear cX cC
   go_wp2_with fail
   refine cC2.mono ?_
   rintro e w5 ⟨rfl, b5⟩
   have b35 : Below w3.heap.size w3 w5 := b4.trans (b5.mono b4.size)
   have X5 : Blk w5 w.heap.size q0D 30 := X3.out.on b35
   have Y5 : Blk w5 (w.heap.size + 1) #[.int .i64 0, .int .i64 0] 34 := Y3.out.on b35
   have B5 : Below w.heap.size w w5 := B3.out.trans (b35.mono B3.out.size)
   clear cC2 AE HE2 b4 b5 p3
   cases hany : (exsQ q).any ckB with
   | true =>
    have hz2 := (qpC_full HL.out hqe hany).symm.trans HZ.out
    obtain ⟨rfl, hz3⟩ := Prod.mk.inj hz2
    obtain ⟨rfl, rfl⟩ := Prod.mk.inj hz3
    obtain ⟨W9, h9⟩ : ∃ W9, w5.setCells w.heap.size 0 q0D.toList = W9 := ⟨_, rfl⟩
    obtain ⟨X9, Y9, B9, _, _⟩ := fin_world X5 Y5 B5 h9
    have hst := fun {ops : Array Oper} {rest : List Oper} {op : Oper} {a : Act} {Q : Exit → Act → World → Prop} => st14 (ops := ops) (rest := rest) (op := op) (a := a) (Q := Q) X5 rfl rfl one0 W9 h9
    clear hz2 hz3 HZ HL h9 hqe hld HBE HB3 hq
    have c0 : W9.cell? ⟨w.heap.size + 1, 0, none⟩ = some (.int .i64 0) := Y9.cell 0
    have c1 : W9.cell? ⟨w.heap.size + 1, 1, none⟩ = some (.int .i64 0) := Y9.cell 1
    have f0 := Y9.frozen 0
    have f1 := Y9.frozen 1
    have l9 := Y9.lt
    go_wp2_with (refine hst rfl _ _ rfl rfl rfl ?_)
    obtain ⟨X8, Y8, B8⟩ := fin_set 4 0 X9 Y9 B9
    exact parse_end _ w _ q0D 4 0 qyZ rfl rfl rfl rfl (qyZ_in _ _) X8 Y8 B8
   | false =>
    have hz2 := (qpC_all HL.out hqe hany).symm.trans HZ.out
    obtain ⟨rfl, hz3⟩ := Prod.mk.inj hz2
    obtain ⟨rfl, rfl⟩ := Prod.mk.inj hz3
    obtain ⟨W9, h9⟩ : ∃ W9, w5.setCells w.heap.size 0 (qyC q wp wc cp cc np nc gp gc ap ac).toList = W9 := ⟨_, rfl⟩
    obtain ⟨X9, Y9, B9, hs9, hk9⟩ := fin_world X5 Y5 B5 h9
    have hst := fun {ops : Array Oper} {rest : List Oper} {op : Oper} {a : Act} {Q : Exit → Act → World → Prop} => st14 (ops := ops) (rest := rest) (op := op) (a := a) (Q := Q) X5 rfl rfl (one14 q wp wc cp cc np nc gp gc ap ac) W9 h9
    have hbe5 := HBE.out.on b35
    have hfin : QyBe ((W9.setCell ⟨w.heap.size + 1, 0, none⟩ (.int .i64 0)).setCell ⟨w.heap.size + 1, 1, none⟩ (.int .i64 0)) (fun _ => True) q wp wc cp cc np nc gp gc ap ac := hbe5.boxed (b := w.heap.size) (by omega) HOK.out X5 Y5 (by simp [World.setCell]; omega) (fun c h1 h2 h3 => by
     rw [heap_setCell_other _ _ _ _ h2, heap_setCell_other _ _ _ _ h2]; exact hk9 c h1)
    have HFI := (show Aside _ from hfin)
    have hld5 := fun {ops : Array Oper} {rest : List Oper} {op : Oper} {a : Act} {Q : Exit → Act → World → Prop} => hld w5 b35 (ops := ops) (rest := rest) (op := op) (a := a) (Q := Q)
    clear hz2 hz3 HZ HL h9 hqe HBE HB3 hq hbe5 hfin hs9 hk9 hld
    have c0 : W9.cell? ⟨w.heap.size + 1, 0, none⟩ = some (.int .i64 0) := Y9.cell 0
    have c1 : W9.cell? ⟨w.heap.size + 1, 1, none⟩ = some (.int .i64 0) := Y9.cell 1
    have f0 := Y9.frozen 0
    have f1 := Y9.frozen 1
    have l9 := Y9.lt
    go_wp2_with (first | (refine hld5 rfl _ rfl rfl ?_) | (refine hst rfl _ _ rfl rfl rfl ?_))
    obtain ⟨X8, Y8, B8⟩ := fin_set 0 0 X9 Y9 B9
    exact parse_end _ w _ _ 0 0 q rfl rfl rfl rfl ⟨wp, wc, cp, cc, np, nc, gp, gc, ap, ac, rfl, HFI.out⟩ X8 Y8 B8
theorem parse_q (s : ByteArray) (w : World) (henv : TEnv w) (haenv : AEnv w) (hw : SG w) (hs : s.size ≤ maxLen) (q1 : Qy) (E1 : Int) (P1 : Nat) (hZ : qpC s.data.toList = (q1, E1, P1)) :
  Calls Tryz.prog 5 #[.string s] w fun e w' => (∃ v, e = .returned (.tuple #[v, .agg #[.int .i64 E1, .int .i64 (P1 : Nat)]]) ∧ QyIn w' (fun _ => True) v q1) ∧ Below w.heap.size w w' := by
 obtain ⟨R, E, P, hL⟩ : ∃ R E P, lexAll s.data.toList = (R, E, P) := ⟨_, _, _, rfl⟩
 by_cases h0 : E = 0
 ·subst h0
  obtain ⟨_, rfl, _⟩ := lexAll_ok hL
  exact parse_good s w henv haenv hw R hL hs q1 E1 P1 hZ
 ·have h := hZ
  rw [qpC, hL] at h
  simp only at h
  rw [if_pos h0] at h
  obtain ⟨rfl, h5⟩ := Prod.mk.inj h
  obtain ⟨rfl, rfl⟩ := Prod.mk.inj h5
  exact parse_bad s w henv hw R E P hL h0 hs
end Go.Proofs.YtkbhmghdonomnaaGreatDoor
