/-
  Package query: Print at any query.
-/
import Derived.Test.YtkbhmghdonomnaaGreatDoorZQbK
namespace Go.Proofs.YtkbhmghdonomnaaGreatDoor
open Go.RowKit Go.BigFrame
set_option linter.unusedVariables false
set_option linter.unusedSimpArgs false

/-- What Print says of a query: its text, and the fault. -/
def prQ (q : Qy) : List UInt8 × Int := if (qpC (wrQ q)).2.1 = 0 ∧ sameQ (qpC (wrQ q)).1 q = true then (wrQ q, 0) else ([], 2)
theorem qyL_of {w : World} {q : Qy} {wp : Option Addr} {wc : Nat} {cp : Option Addr} {cc : Nat} {np : Option Addr} {nc : Nat} {gp : Option Addr} {gc : Nat} {ap : Option Addr} {ac : Nat} (h : QyBe w (fun _ => True) q wp wc cp cc np nc gp gc ap ac) : QyL w (qyC q wp wc cp cc np nc gp gc ap ac) q wp wc cp cc np nc gp gc ap ac := ⟨qv_of _ _ _ _ _ _ _ _ _ _ _, rfl, hw14 _ _ _ _ _ _ _ _ _ _ _, h⟩
theorem QyL.on {w w' : World} {QC : Array Value} {q : Qy} {wp : Option Addr} {wc : Nat} {cp : Option Addr} {cc : Nat} {np : Option Addr} {nc : Nat} {gp : Option Addr} {gc : Nat} {ap : Option Addr} {ac : Nat} (h : QyL w QC q wp wc cp cc np nc gp gc ap ac) (hb : Below w.heap.size w w') : QyL w' QC q wp wc cp cc np nc gp gc ap ac := ⟨h.qv, h.c0, h.wh, h.be.on hb⟩
/-- A query lies in an array of cells. -/
def QyQ (w : World) (QC : Array Value) (q : Qy) : Prop := ∃ wp wc cp cc np nc gp gc ap ac, QyL w QC q wp wc cp cc np nc gp gc ap ac
theorem QyQ.on {w w' : World} {QC : Array Value} {q : Qy} (h : QyQ w QC q) (hb : Below w.heap.size w w') : QyQ w' QC q := by
  obtain ⟨wp, wc, cp, cc, np, nc, gp, gc, ap, ac, h⟩ := h
  exact ⟨wp, wc, cp, cc, np, nc, gp, gc, ap, ac, h.on hb⟩
theorem QyQ.size {w : World} {QC : Array Value} {q : Qy} (h : QyQ w QC q) : QC.size = 14 := by
  obtain ⟨wp, wc, cp, cc, np, nc, gp, gc, ap, ac, h⟩ := h
  exact h.qv.size
theorem QyQ.be {w : World} {QC : Array Value} {q : Qy} (h : QyQ w QC q) : q.cols.length ≤ 1048576 ∧ q.aggs.length ≤ 1048576 := by
  obtain ⟨wp, wc, cp, cc, np, nc, gp, gc, ap, ac, h⟩ := h
  exact ⟨h.be.clen, h.be.aggs.1⟩
/-- What stores it as a whole. -/
structure PcO (PC : Array Value) : Prop where
  size : PC.size = 14
  one : PC.all (·.oneCell') = true
  blk : ∀ (V W9 : World) (b : Nat), Blk V b q0D 30 → V.setCells b 0 PC.toList = W9 → Blk W9 b PC 30
theorem pcO_of (q : Qy) (wp : Option Addr) (wc : Nat) (cp : Option Addr) (cc : Nat) (np : Option Addr) (nc : Nat) (gp : Option Addr) (gc : Nat) (ap : Option Addr) (ac : Nat) : PcO (qyC q wp wc cp cc np nc gp gc ap ac) := ⟨rfl, one14 _ _ _ _ _ _ _ _ _ _ _, fun V W9 b X h => blk14 X h⟩
theorem parse_p (s : ByteArray) (w : World) (henv : TEnv w) (haenv : AEnv w) (hw : SG w) (hs : s.size ≤ maxLen) (q1 : Qy) (E1 : Int) (P1 : Nat) (hZ : qpC s.data.toList = (q1, E1, P1)) :
    Calls Tryz.prog 5 #[.string s] w fun e w' => (∃ PC, e = .returned (.tuple #[.agg PC, .agg #[.int .i64 E1, .int .i64 (P1 : Nat)]]) ∧ Aside (PcO PC) ∧ Aside (QyQ w' PC q1)) ∧ Below w.heap.size w w' :=
  (parse_q s w henv haenv hw hs q1 E1 P1 hZ).mono fun e w' hh => ⟨by
    obtain ⟨v, he, wp, wc, cp, cc, np, nc, gp, gc, ap, ac, rfl, hB⟩ := hh.1
    exact ⟨_, he, pcO_of _ _ _ _ _ _ _ _ _ _ _, ⟨wp, wc, cp, cc, np, nc, gp, gc, ap, ac, qyL_of hB⟩⟩, hh.2⟩
theorem qpC_small {l : List UInt8} {q : Qy} {E : Int} {P : Nat} (h : qpC l = (q, E, P)) : ∀ x ∈ exsQ q, x.size ≤ 402 := by
  have hz : ∀ x ∈ exsQ qyZ, x.size ≤ 402 := fun x hx => by
    simp [exsQ, qyZ] at hx
    subst hx
    decide
  rw [qpC] at h
  split at h
  · obtain ⟨rfl, _⟩ := Prod.mk.inj h; exact hz
  rename_i h0
  split at h
  · rename_i q1 hq
    split at h
    · obtain ⟨rfl, _⟩ := Prod.mk.inj h; exact hz
    · obtain ⟨rfl, _⟩ := Prod.mk.inj h
      have hL : lexAll l = ((lexAll l).1, (lexAll l).2.1, (lexAll l).2.2) := rfl
      have h4 := (lexAll_fitQ hL).1
      intro x hx
      have := qU_small h4 (by rw [hq]) x hx
      omega
  · obtain ⟨rfl, _⟩ := Prod.mk.inj h; exact hz
theorem qyZ_of {q : Qy} (h : ∀ x ∈ exsQ q, x.size ≤ 1048576) : QyZ q := ⟨h _ (by simp [exsQ]), fun x hx => h x (by simp only [exsQ, List.mem_cons, List.mem_append]; exact .inr (.inl hx)), fun a ha => h _ (by simp only [exsQ, List.mem_cons, List.mem_append, List.mem_map]; exact .inr (.inr ⟨a, ha, rfl⟩))⟩
theorem write_p (q : Qy) (QC : Array Value) (w : World) (henv : TEnv w) (hL : QyQ w QC q) (hW : QyW q) (X : ByteArray) (hX : X.data.toList = wrQ q) :
    Calls Tryz.prog 19 #[.agg QC] w fun e w' => e = .returned (.string X) ∧ Below w.heap.size w w' := by
  obtain ⟨wp, wc, cp, cc, np, nc, gp, gc, ap, ac, h⟩ := hL
  have e : (⟨(wrQ q).toArray⟩ : ByteArray) = X := arr_eq (by rw [hX])
  rw [← e]
  exact write_q q QC wp wc cp cc np nc gp gc ap ac w henv h hW
theorem same_p (a c : Qy) (QA QB : Array Value) (w : World) (hA : QyQ w QA a) (hC : QyQ w QB c) (hz : QyZ a) :
    Calls Tryz.prog 20 #[.agg QA, .agg QB] w fun e w' => e = .returned (.bool (sameQ a c)) ∧ Below w.heap.size w w' := by
  obtain ⟨wpA, wcA, cpA, ccA, npA, ncA, gpA, gcA, apA, acA, hA⟩ := hA
  obtain ⟨wpB, wcB, cpB, ccB, npB, ncB, gpB, gcB, apB, acB, hC⟩ := hC
  exact same_q a c QA QB wpA wcA cpA ccA npA ncA gpA gcA apA acA wpB wcB cpB ccB npB ncB gpB gcB apB acB w hA hC hz
/-- A query's box, read as a whole, where a guard lets it. -/
theorem ldG {W : World} {b : Nat} {QC : Array Value} (hq : QC.size = 14) (X : Blk W b QC 30) {ops : Array Oper} {rest : List Oper} {op : Oper} {a : Act} {Q : Exit → Act → World → Prop} (hw : Region.wanted op (yielded ops a.tmps) = true) (x : Operand) (ho : op.op = .load 30 x) (hx : a.eval x = .pointer (some ⟨b, 0, none⟩)) (h : wpList Tryz.prog ops Q rest (a.put op.dst (.agg QC)) W) : wpList Tryz.prog ops Q (op :: rest) a W :=
  wpList_step fun K hK => by
    rw [if_pos hw]
    refine wp_load_mid (P := Tryz.prog) 30 x ho b 0 hx QC.toList _ (fun j v hv => by rw [X.cell, Nat.zero_add]; simpa using hv) Tryz.underlying30 rfl (by rw [size_qyD, Array.length_toList, hq]) (hK _ _ ?_)
    rw [Array.toArray_toList]
    exact h
theorem wrQ_len (q : Qy) : (wrQ q).length ≤ 400 := by
  rw [wrQ]
  split
  · assumption
  · simp
set_option maxHeartbeats 8000000 in
set_option maxRecDepth 20000 in
theorem print_q (q : Qy) (QC : Array Value) (w : World) (henv : TEnv w) (haenv : AEnv w) (hsg : SG w) (hL : QyQ w QC q) (hW : QyW q) (T : ByteArray) (K : Int) (hT : T.data.toList = (prQ q).1) (hK : (prQ q).2 = K) :
    Calls Tryz.prog 6 #[.agg QC] w fun e w' => e = .returned (.tuple #[.string T, errV K]) ∧ Below w.heap.size w w' := by
  have hs14 := hL.size
  obtain ⟨X, hX⟩ : ∃ X : ByteArray, X.data.toList = wrQ q := ⟨⟨(wrQ q).toArray⟩, rfl⟩
  have hXs : X.size ≤ maxLen := by
    have := wrQ_len q
    rw [← hX] at this
    have e : X.data.toList.length = X.size := by rw [Lib.size_eq]
    unfold maxLen
    omega
  obtain ⟨p, E, P, hZ⟩ : ∃ p E P, qpC X.data.toList = (p, E, P) := ⟨_, _, _, rfl⟩
  have hZ2 : qpC (wrQ q) = (p, E, P) := by rw [← hX]; exact hZ
  have hz := qyZ_of (fun x hx => by have := qpC_small hZ x hx; omega)
  have b1 := al w (.cells QC 30)
  have X1 : Aside (Blk (w.alloc (.cells QC 30)) w.heap.size QC 30) := blk_alloc w _ _
  have hld1 := fun {ops : Array Oper} {rest : List Oper} {op : Oper} {a : Act} {Q : Exit → Act → World → Prop} => ldQ (ops := ops) (rest := rest) (op := op) (a := a) (Q := Q) hs14 X1.out
  have cW := write_p q QC (w.alloc (.cells QC 30)) (henv.on b1) (hL.on b1) hW X hX
  have hG := henv.big
  have cP := fun (V : World) (hV : Below w.heap.size w V) => parse_p X V (henv.on hV) (haenv.onB hV hG hV.size) (hsg.on hV) hXs p E P hZ
  have cS := fun (V : World) (PC : Array Value) (hV : Below w.heap.size w V) (hP : QyQ V PC p) => same_p p q PC QC V hP (hL.on hV) hz
  have HTK : Hid ((T.data.toList, K) = if E = 0 ∧ sameQ p q = true then (X.data.toList, 0) else ([], 2)) := by
    show _ = _
    rw [hT, ← hK, hX]
    have : ((prQ q).1, (prQ q).2) = prQ q := rfl
    rw [this, prQ, hZ2]
  generalize sameQ p q = SB at cS HTK
  clear henv haenv hsg hL hW hX hZ hZ2 hz hT hK hXs
  go_enter Tryz.func6, Tryz.ntmps6
  go_wp2_with (refine hld1 rfl _ rfl rfl ?_)
  refine cW.mono ?_
  rintro e w2 ⟨rfl, b2⟩
  have B2 : Below w.heap.size w w2 := b1.trans (b2.mono (by simp))
  have X2 : Blk w2 w.heap.size QC 30 := X1.out.on b2
  have cP2 := cP w2 B2
  clear cW cP hld1 b1 b2
  go_wp2_with fail
  refine cP2.mono ?_
  rintro e w3 ⟨⟨PC, rfl, HPO, HPQ⟩, b3⟩
  have B3 : Below w.heap.size w w3 := B2.trans (b3.mono B2.size)
  have X3 : Blk w3 w.heap.size QC 30 := X2.on b3
  have hP14 := HPO.out.size
  have bV : Below w3.heap.size w3 ((w3.alloc (.cells q0D 30)).alloc (.cells #[.int .i64 0, .int .i64 0] 34)) := (al w3 _).alloc (by simp) _
  have XV : Blk ((w3.alloc (.cells q0D 30)).alloc (.cells #[.int .i64 0, .int .i64 0] 34)) w3.heap.size q0D 30 := (blk_alloc w3 _ _).on (al _ _)
  have YV : Blk ((w3.alloc (.cells q0D 30)).alloc (.cells #[.int .i64 0, .int .i64 0] 34)) (w3.heap.size + 1) #[.int .i64 0, .int .i64 0] 34 := by
    have := blk_alloc (w3.alloc (.cells q0D 30)) #[.int .i64 0, .int .i64 0] 34
    rwa [show (w3.alloc (.cells q0D 30)).heap.size = w3.heap.size + 1 by simp] at this
  obtain ⟨W9, h9⟩ : ∃ W9, ((w3.alloc (.cells q0D 30)).alloc (.cells #[.int .i64 0, .int .i64 0] 34)).setCells w3.heap.size 0 PC.toList = W9 := ⟨_, rfl⟩
  have hst := fun {ops : Array Oper} {rest : List Oper} {op : Oper} {a : Act} {Q : Exit → Act → World → Prop} => st14 (ops := ops) (rest := rest) (op := op) (a := a) (Q := Q) XV rfl hP14 HPO.out.one W9 h9
  have X9 : Blk W9 w3.heap.size PC 30 := HPO.out.blk _ _ _ XV h9
  have Y9 : Blk W9 (w3.heap.size + 1) #[.int .i64 0, .int .i64 0] 34 := by rw [← h9]; exact YV.keep (cellsD_far _ _ _ _ (by omega))
  have b9 : Below w3.heap.size w3 W9 := by rw [← h9]; exact belowD_cells (Nat.le_refl _) _ _ _ bV
  have c0 : W9.cell? ⟨w3.heap.size + 1, 0, none⟩ = some (.int .i64 0) := Y9.cell 0
  have c1 : W9.cell? ⟨w3.heap.size + 1, 1, none⟩ = some (.int .i64 0) := Y9.cell 1
  have f0 := Y9.frozen 0
  have f1 := Y9.frozen 1
  have l9 := Y9.lt
  have b10 : Below w3.heap.size w3 ((W9.setCell ⟨w3.heap.size + 1, 0, none⟩ (.int .i64 E)).setCell ⟨w3.heap.size + 1, 1, none⟩ (.int .i64 (P : Nat))) := (b9.setCell (p := ⟨w3.heap.size + 1, 0, none⟩) (by simp) _).setCell (p := ⟨w3.heap.size + 1, 1, none⟩) (by simp) _
  have X10 : Blk ((W9.setCell ⟨w3.heap.size + 1, 0, none⟩ (.int .i64 E)).setCell ⟨w3.heap.size + 1, 1, none⟩ (.int .i64 (P : Nat))) w3.heap.size PC 30 := (X9.far (by omega) 0 _).far (by omega) 1 _
  have XQ : Blk ((W9.setCell ⟨w3.heap.size + 1, 0, none⟩ (.int .i64 E)).setCell ⟨w3.heap.size + 1, 1, none⟩ (.int .i64 (P : Nat))) w.heap.size QC 30 := X3.on b10
  have hldP := fun {ops : Array Oper} {rest : List Oper} {op : Oper} {a : Act} {Q : Exit → Act → World → Prop} => ldG (ops := ops) (rest := rest) (op := op) (a := a) (Q := Q) hP14 X10
  have B10 : Below w.heap.size w ((W9.setCell ⟨w3.heap.size + 1, 0, none⟩ (.int .i64 E)).setCell ⟨w3.heap.size + 1, 1, none⟩ (.int .i64 (P : Nat))) := B3.trans (b10.mono B3.size)
  have cS2 := cS _ PC B10 (HPQ.out.on b10)
  have HXQ : Aside (∀ V, Below w3.heap.size ((W9.setCell ⟨w3.heap.size + 1, 0, none⟩ (.int .i64 E)).setCell ⟨w3.heap.size + 1, 1, none⟩ (.int .i64 (P : Nat))) V → True) := fun _ _ => trivial
  have hldQ := fun {ops : Array Oper} {rest : List Oper} {op : Oper} {a : Act} {Q : Exit → Act → World → Prop} => ldG (ops := ops) (rest := rest) (op := op) (a := a) (Q := Q) hs14 XQ
  have BF : Aside (Below w.heap.size w ((W9.setCell ⟨w3.heap.size + 1, 0, none⟩ (.int .i64 E)).setCell ⟨w3.heap.size + 1, 1, none⟩ (.int .i64 (P : Nat)))) := B10
  clear cP2 cS HPO HPQ b3 bV XV YV h9 X9 Y9 b9 b10 X10 XQ X2 X3 X1 B10 B3 B2 HXQ
  by_cases hE : E = 0
  · subst hE
    go_wp2_with (first | (refine hst rfl _ _ rfl rfl rfl ?_) | (refine hldP rfl _ rfl rfl ?_) | (refine hldQ rfl _ rfl rfl ?_))
    refine cS2.mono ?_
    rintro e w4 ⟨rfl, b4⟩
    have B4 := BF.out.trans (b4.mono BF.out.size)
    clear cS2 hst hldP hldQ b4
    cases SB
    · obtain ⟨hT, hK⟩ := Prod.mk.inj (HTK.out.trans (if_neg (fun h => absurd h.2 (by decide))))
      obtain rfl : T = ⟨#[]⟩ := arr_eq (by rw [hT])
      subst hK
      clear HTK
      go_wp2
      go_ret2
      exact ⟨rfl, B4⟩
    · obtain ⟨hT, hK⟩ := Prod.mk.inj (HTK.out.trans (if_pos (by simp)))
      obtain rfl : T = X := arr_eq hT
      subst hK
      clear HTK
      go_wp2
      go_ret2
      exact ⟨rfl, B4⟩
  · have hEb : (E != 0) = true := by simpa using hE
    have hEb2 : (E == 0) = false := by simpa using hE
    obtain ⟨hT, hK⟩ := Prod.mk.inj (HTK.out.trans (if_neg (fun h => hE h.1)))
    obtain rfl : T = ⟨#[]⟩ := arr_eq (by rw [hT])
    subst hK
    clear HTK hE cS2
    go_wp2_with (first | (refine hst rfl _ _ rfl rfl rfl ?_))
    go_ret2
    exact ⟨rfl, BF.out⟩
end Go.Proofs.YtkbhmghdonomnaaGreatDoor
