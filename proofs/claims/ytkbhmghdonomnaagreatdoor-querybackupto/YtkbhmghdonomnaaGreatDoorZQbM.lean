/-
  sluicesame.Query of two queries that are the same but for At. (Written by wip/gen_qbm.py.)
-/
import Derived.Test.YtkbhmghdonomnaaGreatDoorGzAw
import Derived.Test.YtkbhmghdonomnaaGreatDoorZTreeSm
import Derived.Deep.RegionWith
import Derived.BigQuiet
namespace Go.Proofs.YtkbhmghdonomnaaGreatDoor
open Go.RowKit Go.BigFrame
set_option linter.unusedVariables false
set_option linter.unusedSimpArgs false
theorem samesA_all : ∀ {l m : List Ag}, samesA l m = true → l.length = m.length ∧ ∀ i (h : i < l.length) (h2 : i < m.length), sameA l[i] m[i] = true
 | [], [], _ => ⟨rfl, fun i h => absurd h (by simp)⟩
 | [], y :: ys, h => by simp [samesA] at h
 | x :: xs, [], h => by simp [samesA] at h
 | x :: xs, y :: ys, h => by
  rw [samesA, Bool.and_eq_true] at h
  obtain ⟨h1, h2⟩ := samesA_all h.2
  refine ⟨by simp [h1], fun i hi hj => ?_⟩
  cases i with
  | zero => exact h.1
  | succ i => exact h2 i (by simpa using hi) (by simpa using hj)
theorem sameA_is {a c : Ag} (h : sameA a c = true) : a.what = c.what ∧ sameE false a.arg c.arg = true ∧ a.name = c.name := by
 rw [sameA, Bool.and_eq_true, Bool.and_eq_true, decide_eq_true_eq, decide_eq_true_eq] at h
 exact h
set_option maxHeartbeats 16000000 in
set_option maxRecDepth 20000 in
theorem like_q (a c : Qy) (QA QB : Array Value) (wpA : Option Addr) (wcA : Nat) (cpA : Option Addr) (ccA : Nat) (npA : Option Addr) (ncA : Nat) (gpA : Option Addr) (gcA : Nat) (apA : Option Addr) (acA : Nat) (wpB : Option Addr) (wcB : Nat) (cpB : Option Addr) (ccB : Nat) (npB : Option Addr) (ncB : Nat) (gpB : Option Addr) (gcB : Nat) (apB : Option Addr) (acB : Nat) (w : World) (hA : QyL w QA a wpA wcA cpA ccA npA ncA gpA gcA apA acA) (hC : QyL w QB c wpB wcB cpB ccB npB ncB gpB gcB apB acB) (hs : SameQ a c) :
  Calls Tryz.prog 7 #[.agg QA, .agg QB, .bool false] w fun e w' => e = .returned (.bool true) ∧ Below w.heap.size w w' := by
 obtain ⟨⟨-, a8, a9, a10, a11, a12, a13⟩, a0, a7, aB⟩ := hA
 obtain ⟨⟨-, c8, c9, c10, c11, c12, c13⟩, c0, c7, cB⟩ := hC
 obtain ⟨hfrm, hwhr, hcols, hnames, hgroup, hsize, hslide, haggs⟩ := hs
 obtain ⟨lcol, hcolx⟩ := sameL_all hcols
 obtain ⟨lagg, haggx⟩ := samesA_all haggs
 have hN2 := cB.names
 have hG2 := cB.group
 have hN1 := aB.names
 have hG1 := aB.group
 rw [← hnames] at hN2 c9
 rw [← hgroup] at hG2 c10
 rw [← hsize] at c11
 rw [← hslide] at c12
 rw [← hfrm] at c0
 obtain ⟨NC, hNC⟩ : ∃ NC, a.cols.length = NC := ⟨_, rfl⟩
 obtain ⟨NA, hNA⟩ : ∃ NA, a.aggs.length = NA := ⟨_, rfl⟩
 have hNC2 : c.cols.length = NC := by rw [← lcol]; exact hNC
 have hNA2 : c.aggs.length = NA := by rw [← lagg]; exact hNA
 have hC6 : NC ≤ 1048576 := by rw [← hNC]; exact aB.clen
 have hA6 : NA ≤ 1048576 := by rw [← hNA]; exact aB.aggs.1
 rw [hNC] at a8
 rw [hNC2] at c8
 rw [hNA] at a13
 rw [hNA2] at c13
 have hca := aB.cols
 have hcc := cB.cols
 rw [hNC] at hca
 rw [hNC2] at hcc
 have HCA : Aside (ArgsIs w (fun _ => True) (.slice cpA NC ccA) a.cols) := hca
 have HCC : Aside (ArgsIs w (fun _ => True) (.slice cpB NC ccB) c.cols) := hcc
 have HAA : Aside (AgsIs w (fun _ => True) apA a.aggs) := aB.aggs
 have HAC : Aside (AgsIs w (fun _ => True) apB c.aggs) := cB.aggs
 have HX := (show Aside _ from hcolx)
 have HY := (show Aside _ from haggx)
 have HL : Aside (a.cols.length = NC ∧ c.cols.length = NC ∧ a.aggs.length = NA ∧ c.aggs.length = NA) := ⟨hNC, hNC2, hNA, hNA2⟩
 have b0 : Below w.heap.size w ((w.alloc (.cells QA 30)).alloc (.cells QB 30)) := (al w _).alloc (by simp) _
 have XA : Blk ((w.alloc (.cells QA 30)).alloc (.cells QB 30)) w.heap.size QA 30 := (blk_alloc w _ _).on (al _ _)
 have XB : Blk ((w.alloc (.cells QA 30)).alloc (.cells QB 30)) (w.heap.size + 1) QB 30 := by
  have := blk_alloc (w.alloc (.cells QA 30)) QB 30
  rwa [show (w.alloc (.cells QA 30)).heap.size = w.heap.size + 1 by simp] at this
 have cN := texts_sts _ _ a.names ((w.alloc (.cells QA 30)).alloc (.cells QB 30)) (hN1.on b0) (hN2.on b0)
 have cG := fun (V : World) (hV : Below w.heap.size w V) => texts_sts _ _ a.group V (hG1.on hV) (hG2.on hV)
 have cW := fun (V : World) (hV : Below w.heap.size w V) => sameX_any false a.whr c.whr (fun _ => True) (fun _ => True) (exV a.whr wpA wcA) (exV c.whr wpB wcB) V (aB.whr.on hV) (cB.whr.on hV)
 rw [hwhr] at cW
 have hcl : ∀ V, Below w.heap.size w V → Blk V w.heap.size QA 30 → Blk V (w.heap.size + 1) QB 30 → True := fun _ _ _ _ => trivial
 clear hcl
 have k9a : ((w.alloc (.cells QA 30)).alloc (.cells QB 30)).cell? ⟨w.heap.size, 9, none⟩ = some (.slice npA a.names.length ncA) := by rw [XA.cell]; exact a9
 have k9c : ((w.alloc (.cells QA 30)).alloc (.cells QB 30)).cell? ⟨w.heap.size + 1, 9, none⟩ = some (.slice npB a.names.length ncB) := by rw [XB.cell]; exact c9
 have HQ : Aside (QA[0]? = some (.string a.frm) ∧ QA[8]? = some (.slice cpA NC ccA) ∧ QA[10]? = some (.slice gpA a.group.length gcA) ∧ QA[11]? = some (.int .i64 a.size) ∧ QA[12]? = some (.int .i64 a.slide) ∧ QA[13]? = some (.slice apA NA acA)) := ⟨a0, a8, a10, a11, a12, a13⟩
 have HP : Aside (QB[0]? = some (.string a.frm) ∧ QB[8]? = some (.slice cpB NC ccB) ∧ QB[10]? = some (.slice gpB a.group.length gcB) ∧ QB[11]? = some (.int .i64 a.size) ∧ QB[12]? = some (.int .i64 a.slide) ∧ QB[13]? = some (.slice apB NA acB)) := ⟨c0, c8, c10, c11, c12, c13⟩
 have HXA : Aside (Blk ((w.alloc (.cells QA 30)).alloc (.cells QB 30)) w.heap.size QA 30) := XA
 have HXB : Aside (Blk ((w.alloc (.cells QA 30)).alloc (.cells QB 30)) (w.heap.size + 1) QB 30) := XB
 have hldA := fun (V : World) (hV : Blk V w.heap.size QA 30) {ops : Array Oper} {rest : List Oper} {op : Oper} {ac : Act} {Q : Exit → Act → World → Prop} (hgd : op.guard = none) (x : Operand) (ho : op.op = .load 26 x) (hx : ac.eval x = .pointer (some ⟨w.heap.size, 1, none⟩)) (h : wpList Tryz.prog ops Q rest (ac.put op.dst (exV a.whr wpA wcA)) V) => wpList_load_mid (P := Tryz.prog) hgd 26 x ho w.heap.size 1 hx (exL a.whr wpA wcA) _ (fun j v hv => by rw [hV.cell]; exact a7 j v hv) Tryz.underlying26 rfl size_exU h
 have hldB := fun (V : World) (hV : Blk V (w.heap.size + 1) QB 30) {ops : Array Oper} {rest : List Oper} {op : Oper} {ac : Act} {Q : Exit → Act → World → Prop} (hgd : op.guard = none) (x : Operand) (ho : op.op = .load 26 x) (hx : ac.eval x = .pointer (some ⟨w.heap.size + 1, 1, none⟩)) (h : wpList Tryz.prog ops Q rest (ac.put op.dst (exV c.whr wpB wcB)) V) => wpList_load_mid (P := Tryz.prog) hgd 26 x ho (w.heap.size + 1) 1 hx (exL c.whr wpB wcB) _ (fun j v hv => by rw [hV.cell]; exact c7 j v hv) Tryz.underlying26 rfl size_exU h
 generalize a.names.length = LN at *
 generalize a.group.length = LG at *
 generalize a.frm = FA at *
 generalize a.size = ZA at *
 generalize a.slide = SA at *
 have qs : (FA.toList == FA.toList) = true := by simp
 have qz : (ZA != ZA) = false := by simp
 have ql : (SA != SA) = false := by simp
 have qc : ((NC : Int) != (NC : Int)) = false := by simp
 have qa : ((NA : Int) != (NA : Int)) = false := by simp
 clear a0 a7 a8 a9 a10 a11 a12 a13 c0 c7 c8 c9 c10 c11 c12 c13 aB cB hfrm hwhr hcols hnames hgroup hsize hslide haggs lcol hcolx lagg haggx hN1 hN2 hG1 hG2 hNC hNA hNC2 hNA2 hca hcc XA XB
 go_enter Tryz.func7, Tryz.ntmps7
 go_wp2_with fail
 refine cN.mono ?_
 rintro e w1 ⟨rfl, d1⟩
 have B1 : Below w.heap.size w w1 := b0.trans (d1.mono b0.size)
 have P1 := HXA.out.on d1
 have P2 := HXB.out.on d1
 have l1 := P1.lt
 have l2 := P2.lt
 have u1 : w1.cell? ⟨w.heap.size, 10, none⟩ = some (.slice gpA LG gcA) := by rw [P1.cell]; exact HQ.out.2.2.1
 have u2 : w1.cell? ⟨w.heap.size + 1, 10, none⟩ = some (.slice gpB LG gcB) := by rw [P2.cell]; exact HP.out.2.2.1
 have cG1 := cG w1 B1
 clear cN cG d1 k9a k9c b0 HXA HXB
 go_wp2_with fail
 refine cG1.mono ?_
 rintro e w2 ⟨rfl, d2⟩
 have B2 : Below w.heap.size w w2 := B1.trans (d2.mono B1.size)
 have Q1 := P1.on d2
 have Q2 := P2.on d2
 have cW2 := cW w2 B2
 have hlA := fun {ops : Array Oper} {rest : List Oper} {op : Oper} {ac : Act} {Q : Exit → Act → World → Prop} => hldA w2 Q1 (ops := ops) (rest := rest) (op := op) (ac := ac) (Q := Q)
 have hlB := fun {ops : Array Oper} {rest : List Oper} {op : Oper} {ac : Act} {Q : Exit → Act → World → Prop} => hldB w2 Q2 (ops := ops) (rest := rest) (op := op) (ac := ac) (Q := Q)
 clear cG1 d2 u1 u2 P1 P2 l1 l2 cW hldA hldB
 go_wp2_with (first | (refine hlA rfl _ rfl rfl ?_) | (refine hlB rfl _ rfl rfl ?_))
 refine cW2.mono ?_
 rintro e w3 ⟨rfl, d3⟩
 have B3 : Aside (Below w.heap.size w w3) := B2.trans (d3.mono B2.size)
 have R1 := Q1.on d3
 have R2 := Q2.on d3
 have l1 := R1.lt
 have l2 := R2.lt
 have x0 : w3.cell? ⟨w.heap.size, 0, none⟩ = some (.string FA) := by rw [R1.cell]; exact HQ.out.1
 have x8 : w3.cell? ⟨w.heap.size, 8, none⟩ = some (.slice cpA NC ccA) := by rw [R1.cell]; exact HQ.out.2.1
 have x11 : w3.cell? ⟨w.heap.size, 11, none⟩ = some (.int .i64 ZA) := by rw [R1.cell]; exact HQ.out.2.2.2.1
 have x12 : w3.cell? ⟨w.heap.size, 12, none⟩ = some (.int .i64 SA) := by rw [R1.cell]; exact HQ.out.2.2.2.2.1
 have x13 : w3.cell? ⟨w.heap.size, 13, none⟩ = some (.slice apA NA acA) := by rw [R1.cell]; exact HQ.out.2.2.2.2.2
 have y0 : w3.cell? ⟨w.heap.size + 1, 0, none⟩ = some (.string FA) := by rw [R2.cell]; exact HP.out.1
 have y8 : w3.cell? ⟨w.heap.size + 1, 8, none⟩ = some (.slice cpB NC ccB) := by rw [R2.cell]; exact HP.out.2.1
 have y11 : w3.cell? ⟨w.heap.size + 1, 11, none⟩ = some (.int .i64 ZA) := by rw [R2.cell]; exact HP.out.2.2.2.1
 have y12 : w3.cell? ⟨w.heap.size + 1, 12, none⟩ = some (.int .i64 SA) := by rw [R2.cell]; exact HP.out.2.2.2.2.1
 have y13 : w3.cell? ⟨w.heap.size + 1, 13, none⟩ = some (.slice apB NA acB) := by rw [R2.cell]; exact HP.out.2.2.2.2.2
 have HR1 : Aside (Blk w3 w.heap.size QA 30) := R1
 have HR2 : Aside (Blk w3 (w.heap.size + 1) QB 30) := R2
 clear cW2 hlA hlB d3 Q1 Q2 R1 R2 B1 B2
 go_wp2
 go_loopg [10, 11] NC (fun gg s10 _ wr => ∃ kk : Nat, kk ≤ NC ∧ NC - kk ≤ gg ∧ s10 = .int .i64 kk ∧ Aside (Below w3.heap.size w3 wr))
 case atStart => exact ⟨0, Nat.zero_le _, by omega, rfl, (show Aside _ from Below.refl _ _)⟩
 case round =>
  obtain ⟨kk, hkk, hg, rfl, BW⟩ := hrel
  have T1 := HR1.out.on BW.out
  have T2 := HR2.out.on BW.out
  have t1 := T1.lt
  have t2 := T2.lt
  have g1 : wr.cell? ⟨w.heap.size, 8, none⟩ = some (.slice cpA NC ccA) := by rw [T1.cell]; exact HQ.out.2.1
  have g2 : wr.cell? ⟨w.heap.size + 1, 8, none⟩ = some (.slice cpB NC ccB) := by rw [T2.cell]; exact HP.out.2.1
  have BZ := B3.out.trans (BW.out.mono B3.out.size)
  clear T1 T2 x0 x8 x11 x12 x13 y0 y8 y11 y12 y13 l1 l2
  by_cases hlt : kk < NC
  ·have hltz : (kk : Int) < (NC : Int) := by omega
   have h0z : (0 : Int) ≤ (kk : Int) := by omega
   have hk1 : kk < a.cols.length := by rw [HL.out.1]; exact hlt
   have hk2 : kk < c.cols.length := by rw [HL.out.2.1]; exact hlt
   obtain ⟨ba, oa, yp, yc, rfl, hbl, -, hrg, hx⟩ := partQ_at HCA.out hk1
   obtain ⟨bb, ob, zp, zc, rfl, hbl2, -, hrgb, hy⟩ := partQ_at HCC.out hk2
   have hra := range_on hrg hbl BZ
   have hrb := range_on hrgb hbl2 BZ
   have lb1 : ba < wr.heap.size := by have := BZ.size; omega
   have lb2 : bb < wr.heap.size := by have := BZ.size; omega
   have cS := fun (V : World) (hV : Below wr.heap.size wr V) => sameX_any false a.cols[kk] c.cols[kk] (fun _ => True) (fun _ => True) (exV a.cols[kk] yp yc) (exV c.cols[kk] zp zc) V ((hx.on BZ).on hV) ((hy.on BZ).on hV)
   rw [HX.out kk hk1 hk2] at cS
   clear hrg hrgb hx hy
   generalize a.cols[kk] = x at cS hra
   generalize c.cols[kk] = y at cS hrb
   obtain ⟨op, nm, vt, vn, vs, pos, as1⟩ := x
   obtain ⟨op2, nm2, vt2, vn2, vs2, pos2, as2⟩ := y
   simp only [exV, Ex.op, Ex.nm, Ex.vt, Ex.vn, Ex.vs, Ex.args, Ex.pos] at cS hra hrb
   generalize as1.length = N1 at cS hra
   generalize as2.length = N2 at cS hrb
   have ra0 : wr.cell? ⟨ba, oa + kk * 7, none⟩ = some (.string op) := hra 0 _ rfl
   have rb0 : wr.cell? ⟨bb, ob + kk * 7, none⟩ = some (.string op2) := hrb 0 _ rfl
   have ra1 : wr.cell? ⟨ba, oa + kk * 7 + 1, none⟩ = some (.string nm) := hra 1 _ rfl
   have rb1 : wr.cell? ⟨bb, ob + kk * 7 + 1, none⟩ = some (.string nm2) := hrb 1 _ rfl
   have ra2 : wr.cell? ⟨ba, oa + kk * 7 + 2, none⟩ = some (.int .i64 vt) := hra 2 _ rfl
   have rb2 : wr.cell? ⟨bb, ob + kk * 7 + 2, none⟩ = some (.int .i64 vt2) := hrb 2 _ rfl
   have ra3 : wr.cell? ⟨ba, oa + kk * 7 + 3, none⟩ = some (.int .i64 vn) := hra 3 _ rfl
   have rb3 : wr.cell? ⟨bb, ob + kk * 7 + 3, none⟩ = some (.int .i64 vn2) := hrb 3 _ rfl
   have ra4 : wr.cell? ⟨ba, oa + kk * 7 + 4, none⟩ = some (.string vs) := hra 4 _ rfl
   have rb4 : wr.cell? ⟨bb, ob + kk * 7 + 4, none⟩ = some (.string vs2) := hrb 4 _ rfl
   have ra5 : wr.cell? ⟨ba, oa + kk * 7 + 5, none⟩ = some (.slice yp N1 yc) := hra 5 _ rfl
   have rb5 : wr.cell? ⟨bb, ob + kk * 7 + 5, none⟩ = some (.slice zp N2 zc) := hrb 5 _ rfl
   have ra6 : wr.cell? ⟨ba, oa + kk * 7 + 6, none⟩ = some (.int .i64 pos) := hra 6 _ rfl
   have rb6 : wr.cell? ⟨bb, ob + kk * 7 + 6, none⟩ = some (.int .i64 pos2) := hrb 6 _ rfl
   clear hra hrb BZ
   go_wp2
   go_region_with (go_at_call 22; refine (cS _ (Below.drew (Below.refl _ _))).mono ?_; rintro e' w5 ⟨rfl, b5⟩)
   all_goals
    have B5 : Aside (Below w3.heap.size w3 w5) := BW.out.trans ((drewB b5).mono BW.out.size)
    clear cS b5 BW
    go_wp2
    go_roundg (NC - (kk + 1))
    case measure => omega
    case rel => exact ⟨kk + 1, by omega, by omega, by go_num, B5⟩
  ·have hltz : ¬ (kk : Int) < (NC : Int) := by omega
   have HT1 : Aside (Blk wr w.heap.size QA 30) := HR1.out.on BW.out
   have HT2 : Aside (Blk wr (w.heap.size + 1) QB 30) := HR2.out.on BW.out
   have HBZ : Aside (Below w.heap.size w wr) := BZ
   clear HR1 HR2 BW BZ
   go_wp2
   clear g1 g2
   go_loopg [12, 13] NA (fun gg s12 _ wx => ∃ kk : Nat, kk ≤ NA ∧ NA - kk ≤ gg ∧ s12 = .int .i64 kk ∧ Aside (Below wr.heap.size wr wx))
   case atStart => exact ⟨0, Nat.zero_le _, by omega, rfl, (show Aside _ from Below.refl _ _)⟩
   case round =>
    obtain ⟨kk, hkk, hg, rfl, BX⟩ := hrel
    have T1 := HT1.out.on BX.out
    have T2 := HT2.out.on BX.out
    have t1 := T1.lt
    have t2 := T2.lt
    have g1 : wr.cell? ⟨w.heap.size, 13, none⟩ = some (.slice apA NA acA) := by rw [T1.cell]; exact HQ.out.2.2.2.2.2
    have g2 : wr.cell? ⟨w.heap.size + 1, 13, none⟩ = some (.slice apB NA acB) := by rw [T2.cell]; exact HP.out.2.2.2.2.2
    have BZ := HBZ.out.trans (BX.out.mono HBZ.out.size)
    by_cases hlt : kk < NA
    ·have hltz : (kk : Int) < (NA : Int) := by omega
     have h0z : (0 : Int) ≤ (kk : Int) := by omega
     have hk1 : kk < a.aggs.length := by rw [HL.out.2.2.1]; exact hlt
     have hk2 : kk < c.aggs.length := by rw [HL.out.2.2.2]; exact hlt
     obtain ⟨ba, oa, yp, yc, rfl, hbl, -, hrg, hx⟩ := agQ_at HAA.out hk1
     obtain ⟨bb, ob, zp, zc, rfl, hbl2, -, hrgb, hy⟩ := agQ_at HAC.out hk2
     have hra := range_on hrg hbl BZ
     have hrb := range_on hrgb hbl2 BZ
     have lb1 : ba < wr.heap.size := by have := BZ.size; omega
     have lb2 : bb < wr.heap.size := by have := BZ.size; omega
     obtain ⟨e1, e2, e3⟩ := sameA_is (HY.out kk hk1 hk2)
     have cS := fun (V : World) (hV : Below wr.heap.size wr V) => sameX_any false a.aggs[kk].arg c.aggs[kk].arg (fun _ => True) (fun _ => True) (exV a.aggs[kk].arg yp yc) (exV c.aggs[kk].arg zp zc) V ((hx.on BZ).on hV) ((hy.on BZ).on hV)
     rw [e2] at cS
     rw [← e1, ← e3] at hrb
     clear hrg hrgb hx hy e1 e2 e3
     generalize a.aggs[kk] = x at cS hra hrb
     generalize c.aggs[kk] = y at cS hrb
     obtain ⟨what, ⟨op, nm, vt, vn, vs, pos, as1⟩, name⟩ := x
     obtain ⟨what2, ⟨op2, nm2, vt2, vn2, vs2, pos2, as2⟩, name2⟩ := y
     simp only [exV, Ex.op, Ex.nm, Ex.vt, Ex.vn, Ex.vs, Ex.args, Ex.pos] at cS hra hrb
     generalize as1.length = N1 at cS hra
     generalize as2.length = N2 at cS hrb
     have pa0 : wr.cell? ⟨ba, oa + kk * 9 + 1, none⟩ = some (.string op) := hra 1 _ rfl
     have pb0 : wr.cell? ⟨bb, ob + kk * 9 + 1, none⟩ = some (.string op2) := hrb 1 _ rfl
     have pa1 : wr.cell? ⟨ba, oa + kk * 9 + 1 + 1, none⟩ = some (.string nm) := hra 2 _ rfl
     have paq1 : wr.cell? ⟨ba, oa + kk * 9 + 2, none⟩ = some (.string nm) := hra 2 _ rfl
     have pb1 : wr.cell? ⟨bb, ob + kk * 9 + 1 + 1, none⟩ = some (.string nm2) := hrb 2 _ rfl
     have pbq1 : wr.cell? ⟨bb, ob + kk * 9 + 2, none⟩ = some (.string nm2) := hrb 2 _ rfl
     have pa2 : wr.cell? ⟨ba, oa + kk * 9 + 1 + 2, none⟩ = some (.int .i64 vt) := hra 3 _ rfl
     have paq2 : wr.cell? ⟨ba, oa + kk * 9 + 3, none⟩ = some (.int .i64 vt) := hra 3 _ rfl
     have pb2 : wr.cell? ⟨bb, ob + kk * 9 + 1 + 2, none⟩ = some (.int .i64 vt2) := hrb 3 _ rfl
     have pbq2 : wr.cell? ⟨bb, ob + kk * 9 + 3, none⟩ = some (.int .i64 vt2) := hrb 3 _ rfl
     have pa3 : wr.cell? ⟨ba, oa + kk * 9 + 1 + 3, none⟩ = some (.int .i64 vn) := hra 4 _ rfl
     have paq3 : wr.cell? ⟨ba, oa + kk * 9 + 4, none⟩ = some (.int .i64 vn) := hra 4 _ rfl
     have pb3 : wr.cell? ⟨bb, ob + kk * 9 + 1 + 3, none⟩ = some (.int .i64 vn2) := hrb 4 _ rfl
     have pbq3 : wr.cell? ⟨bb, ob + kk * 9 + 4, none⟩ = some (.int .i64 vn2) := hrb 4 _ rfl
     have pa4 : wr.cell? ⟨ba, oa + kk * 9 + 1 + 4, none⟩ = some (.string vs) := hra 5 _ rfl
     have paq4 : wr.cell? ⟨ba, oa + kk * 9 + 5, none⟩ = some (.string vs) := hra 5 _ rfl
     have pb4 : wr.cell? ⟨bb, ob + kk * 9 + 1 + 4, none⟩ = some (.string vs2) := hrb 5 _ rfl
     have pbq4 : wr.cell? ⟨bb, ob + kk * 9 + 5, none⟩ = some (.string vs2) := hrb 5 _ rfl
     have pa5 : wr.cell? ⟨ba, oa + kk * 9 + 1 + 5, none⟩ = some (.slice yp N1 yc) := hra 6 _ rfl
     have paq5 : wr.cell? ⟨ba, oa + kk * 9 + 6, none⟩ = some (.slice yp N1 yc) := hra 6 _ rfl
     have pb5 : wr.cell? ⟨bb, ob + kk * 9 + 1 + 5, none⟩ = some (.slice zp N2 zc) := hrb 6 _ rfl
     have pbq5 : wr.cell? ⟨bb, ob + kk * 9 + 6, none⟩ = some (.slice zp N2 zc) := hrb 6 _ rfl
     have pa6 : wr.cell? ⟨ba, oa + kk * 9 + 1 + 6, none⟩ = some (.int .i64 pos) := hra 7 _ rfl
     have paq6 : wr.cell? ⟨ba, oa + kk * 9 + 7, none⟩ = some (.int .i64 pos) := hra 7 _ rfl
     have pb6 : wr.cell? ⟨bb, ob + kk * 9 + 1 + 6, none⟩ = some (.int .i64 pos2) := hrb 7 _ rfl
     have pbq6 : wr.cell? ⟨bb, ob + kk * 9 + 7, none⟩ = some (.int .i64 pos2) := hrb 7 _ rfl
     have HRA : Aside (∀ V, Below wr.heap.size wr V → V.cell? ⟨ba, oa + kk * 9, none⟩ = some (.string what) ∧ V.cell? ⟨ba, oa + kk * 9 + 8, none⟩ = some (.string name) ∧ V.cell? ⟨bb, ob + kk * 9, none⟩ = some (.string what) ∧ V.cell? ⟨bb, ob + kk * 9 + 8, none⟩ = some (.string name)) := fun V hV => ⟨by rw [hV.cell (p := ⟨ba, _, none⟩) lb1]; exact hra 0 _ rfl, by rw [hV.cell (p := ⟨ba, _, none⟩) lb1]; exact hra 8 _ rfl, by rw [hV.cell (p := ⟨bb, _, none⟩) lb2]; exact hrb 0 _ rfl, by rw [hV.cell (p := ⟨bb, _, none⟩) lb2]; exact hrb 8 _ rfl⟩
     have HTA := (show Aside _ from T1)
     clear hra hrb BZ
     have HT3 : Aside (Blk wr w.heap.size QA 30) := T1
     have HT4 : Aside (Blk wr (w.heap.size + 1) QB 30) := T2
     clear T1 T2 HTA
     go_wp2
     go_region_with (go_at_call 22; refine (cS _ (Below.drew (Below.refl _ _))).mono ?_; rintro e' w5 ⟨rfl, b5⟩)
     all_goals
      have D5 := drewB b5
      have B5 : Aside (∀ V, Below w5.heap.size w5 V → True) := fun _ _ => trivial
      have B6 := BX.out.trans (D5.mono BX.out.size)
      have HB6 := (show Aside _ from B6)
      obtain ⟨s0, s8, z0, z8⟩ := HRA.out w5 D5
      have T5 := HT3.out.on D5
      have T6 := HT4.out.on D5
      have m1 : w5.cell? ⟨w.heap.size, 13, none⟩ = some (.slice (some ⟨ba, oa, none⟩) NA acA) := by rw [T5.cell]; exact HQ.out.2.2.2.2.2
      have m2 : w5.cell? ⟨w.heap.size + 1, 13, none⟩ = some (.slice (some ⟨bb, ob, none⟩) NA acB) := by rw [T6.cell]; exact HP.out.2.2.2.2.2
      have m3 := T5.lt
      have m4 := T6.lt
      have lb3 : ba < w5.heap.size := by have := D5.size; omega
      have lb4 : bb < w5.heap.size := by have := D5.size; omega
      have qw : (what.toList == what.toList) = true := by simp
      have qn : (name.toList == name.toList) = true := by simp
      clear cS b5 BX D5 T5 T6 g1 g2 t1 t2 B5 B6
      clear pa0 pb0 pa1 paq1 pb1 pbq1 pa2 paq2 pb2 pbq2 pa3 paq3 pb3 pbq3 pa4 paq4 pb4 pbq4 pa5 paq5 pb5 pbq5 pa6 paq6 pb6 pbq6
      go_simp
      go_wp2
      go_big_quiet (fail)
      go_wp2
      go_roundg (NA - (kk + 1))
      case measure => omega
      case rel => exact ⟨kk + 1, by omega, by omega, by go_num, (show Aside _ from below_drewN HB6.out _)⟩
    ·have hltz : ¬ (kk : Int) < (NA : Int) := by omega
     go_wp2
     go_ret
     exact ⟨rfl, BZ⟩
theorem like_p (a c : Qy) (QA QB : Array Value) (w : World) (hA : QyQ w QA a) (hC : QyQ w QB c) (hs : sameQ a c = true) :
  Calls Tryz.prog 7 #[.agg QA, .agg QB, .bool false] w fun e w' => e = .returned (.bool true) ∧ Below w.heap.size w w' := by
 obtain ⟨wpA, wcA, cpA, ccA, npA, ncA, gpA, gcA, apA, acA, hA⟩ := hA
 obtain ⟨wpB, wcB, cpB, ccB, npB, ncB, gpB, gcB, apB, acB, hC⟩ := hC
 exact like_q a c QA QB wpA wcA cpA ccA npA ncA gpA gcA apA acA wpB wcB cpB ccB npB ncB gpB gcB apB acB w hA hC (sameQ_is.1 hs)
end Go.Proofs.YtkbhmghdonomnaaGreatDoor
