/-
  The law QueryBack, walked: a text, and columns. (Written by wip/gen_qkl.py.)
-/
import Derived.Test.YtkbhmghdonomnaaGreatDoorGzAy
namespace Go.Proofs.YtkbhmghdonomnaaGreatDoor
open Go.RowKit Go.BigFrame
set_option linter.unusedVariables false
set_option linter.unusedSimpArgs false
set_option maxHeartbeats 16000000 in
set_option maxRecDepth 20000 in
theorem back_yy (s : ByteArray) (vl : Value) (w : World) (QC : Array Value) (hs14 : QC.size = 14) (np : Option Addr) (nc NN : Nat) (gp : Option Addr) (gc NG : Nat) (ap : Option Addr) (ac NA : Nat) (h9 : QC[9]? = some (.slice np NN nc)) (h10 : QC[10]? = some (.slice gp NG gc)) (h13 : QC[13]? = some (.slice ap NA ac)) (RL : List Cl) (RE : Int) (T1 : ByteArray) (K1 : Int) (E : Int) (P : Nat) (T2 : ByteArray) (K2 : Int) (C : QkC w s QC vl RL RE T1 K1 E P T2 K2) (hK1 : K1 = 0) (hRE : RE = 0) (hlen : RL.length = NN + NG + NA) (hl6 : NN + NG + NA ≤ 6) :
  Calls Tryz.prog 3 #[.string s, .agg QC, vl] w fun e w' => e = .returned (.bool true) ∧ Below w.heap.size w w' := by
 have HC : Aside (QkC w s QC vl RL RE T1 K1 E P T2 K2) := C
 have b0 : Below w.heap.size w (w.alloc (.cells QC 30)) := al w _
 have XQ0 : Blk (w.alloc (.cells QC 30)) w.heap.size QC 30 := blk_alloc w _ _
 have HX0 : Aside (Blk (w.alloc (.cells QC 30)) w.heap.size QC 30) := XQ0
 have H9 : Aside (QC[9]? = some (.slice np NN nc) ∧ QC[10]? = some (.slice gp NG gc) ∧ QC[13]? = some (.slice ap NA ac)) := ⟨h9, h10, h13⟩
 have cF := C.fact _ b0
 rw [kS] at cF
 have hsz := C.sz
 have hat := C.at_
 have c1p := C.parse1 hK1
 have HK1 : Aside (∀ W, Below w.heap.size w W → Calls Tryz.prog 5 #[.string T1] W fun e w' => (∃ PC : Array Value, e = .returned (.tuple #[.agg PC, .agg #[.int .i64 0, .int .i64 0]]) ∧ Aside (PcO PC) ∧ Aside (∀ V, Below w'.heap.size w' V → Calls Tryz.prog 7 #[.agg PC, .agg QC, .bool false] V fun e v' => e = .returned (.bool true) ∧ Below V.heap.size V v')) ∧ Below W.heap.size W w') := c1p
 clear c1p
 have hsc := C.schema hRE
 have HSC := (show Aside _ from hsc)
 have HLN : Hid (RL.length = NN + NG + NA) := hlen
 clear hsc hlen
 clear C XQ0 h9 h10 h13
 go_enter Tryz.func3, Tryz.ntmps3
 go_wp2_with fail
 refine cF.mono ?_
 rintro e w1 ⟨⟨PF, cp, cc, nb, no, nn, rfl, HPO, HPF, hnb, hnm⟩, d1⟩
 obtain ⟨W9, hst, c0, c1, f0, f1, l9, SF⟩ := store_facts w1 PF 0 0 HPO.out
 have BA := b0.trans ((d1.mono b0.size).trans (SF.bel.mono (Nat.le_trans b0.size d1.size)))
 have XA := (HX0.out.on d1).on SF.bel
 have lA := XA.lt
 have p0 := SF.pc.cell 0
 have p1 := SF.pc.cell 1
 have p8 := SF.pc.cell 8
 have p9 := SF.pc.cell 9
 rw [HPF.out.1] at p0
 rw [HPF.out.2.1] at p1
 rw [HPF.out.2.2.1] at p8
 rw [HPF.out.2.2.2] at p9
 have pl := SF.pc.lt
 have q0 : ((W9.setCell ⟨w1.heap.size + 1, 0, none⟩ (.int .i64 0)).setCell ⟨w1.heap.size + 1, 1, none⟩ (.int .i64 ((0 : Nat) : Int))).cell? ⟨w1.heap.size + 1, 0, none⟩ = some (.int .i64 0) := SF.ft.cell 0
 have ql := SF.ft.lt
 have nbm : ((W9.setCell ⟨w1.heap.size + 1, 0, none⟩ (.int .i64 0)).setCell ⟨w1.heap.size + 1, 1, none⟩ (.int .i64 ((0 : Nat) : Int))).cell? ⟨nb, no, none⟩ = some (.string ⟨#[98]⟩) := by rw [SF.bel.cell (p := ⟨nb, no, none⟩) hnb]; exact hnm
 have nbl : nb < ((W9.setCell ⟨w1.heap.size + 1, 0, none⟩ (.int .i64 0)).setCell ⟨w1.heap.size + 1, 1, none⟩ (.int .i64 ((0 : Nat) : Int))).heap.size := by have := SF.bel.size; omega
 have hldA := fun {ops : Array Oper} {rest : List Oper} {op : Oper} {a : Act} {Q : Exit → Act → World → Prop} => ldQ (ops := ops) (rest := rest) (op := op) (a := a) (Q := Q) hs14 XA
 have cP1 := HC.out.print1 _ BA
 rw [show errV K1 = .nilIface from by rw [hK1]; rfl] at cP1
 have HXA : Aside (Blk ((W9.setCell ⟨w1.heap.size + 1, 0, none⟩ (.int .i64 0)).setCell ⟨w1.heap.size + 1, 1, none⟩ (.int .i64 ((0 : Nat) : Int))) w.heap.size QC 30) := XA
 have HBA : Aside (Below w.heap.size w ((W9.setCell ⟨w1.heap.size + 1, 0, none⟩ (.int .i64 0)).setCell ⟨w1.heap.size + 1, 1, none⟩ (.int .i64 ((0 : Nat) : Int)))) := BA
 clear cF b0 HPO HPF hnb hnm d1 SF XA BA
 simp only [Int.natCast_zero, Int.ofNat_zero, Int.cast_ofNat_Int] at *
 go_wp2_with (first | (refine hst _ _ _ _ _ rfl _ _ rfl rfl rfl ?_) | (refine hldA rfl _ rfl rfl ?_))
 refine cP1.mono ?_
 rintro e w2 ⟨rfl, d2⟩
 have B2 := HBA.out.trans (d2.mono HBA.out.size)
 have X2 := HXA.out.on d2
 clear cP1 hst hldA HBA HXA d2 c0 c1 f0 f1 l9 lA p0 p1 p8 p9 pl q0 ql nbm nbl
 have cQ1 := HK1.out w2 B2
 go_wp2_with fail
 refine cQ1.mono ?_
 rintro e w3 ⟨⟨PB, rfl, HPO, HLK⟩, d3⟩
 obtain ⟨W9, hst, c0, c1, f0, f1, l9, SF⟩ := store_facts w3 PB 0 0 HPO.out
 have BB := B2.trans ((d3.mono B2.size).trans (SF.bel.mono (Nat.le_trans B2.size d3.size)))
 have XB := (X2.on d3).on SF.bel
 have hldA := fun {ops : Array Oper} {rest : List Oper} {op : Oper} {a : Act} {Q : Exit → Act → World → Prop} => ldQ (ops := ops) (rest := rest) (op := op) (a := a) (Q := Q) HPO.out.size SF.pc
 have hldB := fun {ops : Array Oper} {rest : List Oper} {op : Oper} {a : Act} {Q : Exit → Act → World → Prop} => ldQ (ops := ops) (rest := rest) (op := op) (a := a) (Q := Q) hs14 XB
 have cL := HLK.out _ SF.bel
 have HSF := (show Aside (StF w3 PB 0 0 _) from SF)
 have HXB := (show Aside (Blk _ w.heap.size QC 30) from XB)
 have HBB := (show Aside (Below w.heap.size w _) from BB)
 clear cQ1 HPO HLK d3 SF XB BB B2 X2 HK1
 simp only [Int.natCast_zero, Int.ofNat_zero, Int.cast_ofNat_Int] at *
 go_wp2_with (first | (refine hst _ _ _ _ _ rfl _ _ rfl rfl rfl ?_) | (refine hldA rfl _ rfl rfl ?_) | (refine hldB rfl _ rfl rfl ?_))
 refine cL.mono ?_
 rintro e w4 ⟨rfl, d4⟩
 have S4 := HSF.out.on d4
 have q0 : w4.cell? ⟨w3.heap.size + 1, 0, none⟩ = some (.int .i64 0) := S4.ft.cell 0
 have ql := S4.ft.lt
 have B5 := HBB.out.trans (d4.mono HBB.out.size)
 have X5 := HXB.out.on d4
 clear cL hst hldA hldB HSF HXB HBB S4 d4 c0 c1 f0 f1 l9
 have cK := HC.out.check w4 B5
 have hldC := fun {ops : Array Oper} {rest : List Oper} {op : Oper} {a : Act} {Q : Exit → Act → World → Prop} => ldQ (ops := ops) (rest := rest) (op := op) (a := a) (Q := Q) hs14 X5
 rw [show errV RE = .nilIface from by rw [hRE]; rfl] at cK
 go_wp2_with (refine hldC rfl _ rfl rfl ?_)
 refine cK.mono ?_
 rintro e w6 ⟨⟨u, rfl, CU⟩, d6⟩
 have B6 := B5.trans (d6.mono B5.size)
 have X6 := X5.on d6
 obtain ⟨up, uc, rfl⟩ := cols_form CU.out
 clear cK hldC B5 X5 d6 q0 ql
 have cH := HSC.out w6 _ B6 CU.out
 rw [HLN.out] at cH ⊢
 clear CU
 go_wp2_with fail
 refine cH.mono ?_
 rintro e w7 ⟨rfl, d7⟩
 have B7 := B6.trans (d7.mono B6.size)
 have X7 := X6.on d7
 have u9 : w7.cell? ⟨w.heap.size, 9, none⟩ = some (.slice np NN nc) := by rw [X7.cell]; exact H9.out.1
 have u10 : w7.cell? ⟨w.heap.size, 10, none⟩ = some (.slice gp NG gc) := by rw [X7.cell]; exact H9.out.2.1
 have u13 : w7.cell? ⟨w.heap.size, 13, none⟩ = some (.slice ap NA ac) := by rw [X7.cell]; exact H9.out.2.2
 have ul := X7.lt
 have qn : (((NN + NG + NA : Nat) : Int) != (NN : Int) + (NG : Int) + (NA : Int)) = false := by simp
 clear cH d7 B6 X6 HSC
 have cS := HC.out.parse2 w7 B7
 go_wp2_with fail
 refine cS.mono ?_
 rintro e w8 ⟨⟨PS, rfl, HPO, HPR, HPT⟩, d8⟩
 obtain ⟨W9, hst, c0, c1, f0, f1, l9, SF⟩ := store_facts w8 PS E P HPO.out
 have BS := B7.trans ((d8.mono B7.size).trans (SF.bel.mono (Nat.le_trans B7.size d8.size)))
 have q0 : ((W9.setCell ⟨w8.heap.size + 1, 0, none⟩ (.int .i64 E)).setCell ⟨w8.heap.size + 1, 1, none⟩ (.int .i64 (P : Nat))).cell? ⟨w8.heap.size + 1, 0, none⟩ = some (.int .i64 E) := SF.ft.cell 0
 have q1 : ((W9.setCell ⟨w8.heap.size + 1, 0, none⟩ (.int .i64 E)).setCell ⟨w8.heap.size + 1, 1, none⟩ (.int .i64 (P : Nat))).cell? ⟨w8.heap.size + 1, 1, none⟩ = some (.int .i64 (P : Nat)) := SF.ft.cell 1
 have ql := SF.ft.lt
 clear cS X7
 by_cases hE : E = 0
 ·have cP2 := HPR.out hE _ SF.bel
  have hldA := fun {ops : Array Oper} {rest : List Oper} {op : Oper} {a : Act} {Q : Exit → Act → World → Prop} => ldQ (ops := ops) (rest := rest) (op := op) (a := a) (Q := Q) HPO.out.size SF.pc
  have HSF := (show Aside (StF w8 PS E P _) from SF)
  have HBS := (show Aside (Below w.heap.size w _) from BS)
  have hk2 := HC.out.k2 hE
  have hb0 : (E == 0) = true := by simpa using hE
  have hb1 : (E != 0) = false := by simpa using hE
  have h14 := HPO.out.size
  by_cases hK2 : K2 = 0
  ·have HPT2 := HPT.out hE hK2
   have HT2 := (show Aside _ from HPT2)
   rw [show errV K2 = .nilIface from by rw [hK2]; rfl] at cP2
   clear HPO HPR HPT HPT2 d8 SF BS B7 hk2 hE hK2
   go_wp2_with (first | (refine hst _ _ _ _ _ rfl _ _ rfl rfl rfl ?_) | (refine hldA rfl _ rfl rfl ?_))
   refine cP2.mono ?_
   rintro e wA ⟨rfl, dA⟩
   have SA := HSF.out.on dA
   have BA := HBS.out.trans (dA.mono HBS.out.size)
   have cQ := HT2.out wA SA.bel
   clear cP2 hst hldA HSF HBS HT2 dA c0 c1 f0 f1 l9 q0 q1 ql
   go_wp2_with fail
   refine cQ.mono ?_
   rintro e wB ⟨⟨PT, rfl, HPO, HLK⟩, dB⟩
   obtain ⟨W9, hst, c0, c1, f0, f1, l9, SF⟩ := store_facts wB PT 0 0 HPO.out
   have BB := BA.trans ((dB.mono BA.size).trans (SF.bel.mono (Nat.le_trans BA.size dB.size)))
   have SB := (SA.on dB).on SF.bel
   have hldA := fun {ops : Array Oper} {rest : List Oper} {op : Oper} {a : Act} {Q : Exit → Act → World → Prop} => ldQ (ops := ops) (rest := rest) (op := op) (a := a) (Q := Q) HPO.out.size SF.pc
   have hldB := fun {ops : Array Oper} {rest : List Oper} {op : Oper} {a : Act} {Q : Exit → Act → World → Prop} => ldQ (ops := ops) (rest := rest) (op := op) (a := a) (Q := Q) h14 SB.pc
   have cL := HLK.out _ SF.bel
   have HSF := (show Aside (StF wB PT 0 0 _) from SF)
   have HBB := (show Aside (Below w.heap.size w _) from BB)
   clear cQ HPO HLK dB SF SB BB BA SA
   simp only [Int.natCast_zero, Int.ofNat_zero, Int.cast_ofNat_Int] at *
   go_wp2_with (first | (refine hst _ _ _ _ _ rfl _ _ rfl rfl rfl ?_) | (refine hldA rfl _ rfl rfl ?_) | (refine hldB rfl _ rfl rfl ?_))
   refine cL.mono ?_
   rintro e wC ⟨rfl, dC⟩
   have SC := HSF.out.on dC
   have q0 : wC.cell? ⟨wB.heap.size + 1, 0, none⟩ = some (.int .i64 0) := SC.ft.cell 0
   have ql := SC.ft.lt
   have BC := HBB.out.trans (dC.mono HBB.out.size)
   clear cL hst hldA hldB HSF HBB SC dC c0 c1 f0 f1 l9
   go_wp2
   go_ret
   exact ⟨rfl, BC⟩
  ·have h100 := hk2 hK2
   have hgt : (100 : Int) < (s.size : Int) := by omega
   rw [show errV K2 = .iface 32 (.int .i64 K2) from by rw [errV, if_neg hK2]] at cP2
   clear HPO HPR HPT d8 SF BS B7 hk2 hE hK2
   go_wp2_with (first | (refine hst _ _ _ _ _ rfl _ _ rfl rfl rfl ?_) | (refine hldA rfl _ rfl rfl ?_))
   refine cP2.mono ?_
   rintro e wA ⟨rfl, dA⟩
   have BA := HBS.out.trans (dA.mono HBS.out.size)
   clear cP2 hst hldA HSF HBS dA c0 c1 f0 f1 l9 q0 q1 ql
   go_wp2
   go_ret
   exact ⟨by simp [hgt], BA⟩
 ·have hb0 : (E == 0) = false := by simpa using hE
  have hb1 : (E != 0) = true := by simpa using hE
  have hp0 : (0 : Int) ≤ (P : Int) := by omega
  have hp1 : (P : Int) ≤ (s.size : Int) := by omega
  clear HPO HPR HPT d8 SF B7 hE
  go_wp2_with (refine hst _ _ _ _ _ rfl _ _ rfl rfl rfl ?_)
  go_ret
  exact ⟨by simp [hp0, hp1], BS⟩
end Go.Proofs.YtkbhmghdonomnaaGreatDoor
