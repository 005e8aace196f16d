/-
  Package query: write: the text of a query. (Written by wip/gen_qbh.py.)
-/
import Derived.Test.YtkbhmghdonomnaaGreatDoorZQbG
import Derived.Test.YtkbhmghdonomnaaGreatDoorZQrS
namespace Go.Proofs.YtkbhmghdonomnaaGreatDoor
open Go.RowKit Go.BigFrame
set_option linter.unusedVariables false
set_option linter.unusedSimpArgs false
theorem ldQ {W : World} {b : Nat} {QC : Array Value} (hq : QC.size = 14) (X : Blk W b QC 30) {ops : Array Oper} {rest : List Oper} {op : Oper} {a : Act} {Q : Exit → Act → World → Prop} (hgd : op.guard = none) (x : Operand) (ho : op.op = .load 30 x) (hx : a.eval x = .pointer (some ⟨b, 0, none⟩)) (h : wpList Tryz.prog ops Q rest (a.put op.dst (.agg QC)) W) : wpList Tryz.prog ops Q (op :: rest) a W := by
 refine wpList_load_mid (P := Tryz.prog) hgd 30 x ho b 0 hx QC.toList _ (fun j v hv => by rw [X.cell, Nat.zero_add]; simpa using hv) Tryz.underlying30 rfl (by rw [size_qyD, Array.length_toList, hq]) ?_
 rw [Array.toArray_toList]
 exact h
structure QyL (w : World) (QC : Array Value) (q : Qy) (wp : Option Addr) (wc : Nat) (cp : Option Addr) (cc : Nat) (np : Option Addr) (nc : Nat) (gp : Option Addr) (gc : Nat) (ap : Option Addr) (ac : Nat) : Prop where
 qv : QV QC q cp cc np nc gp gc ap ac
 c0 : QC[0]? = some (.string q.frm)
 wh : ∀ (j : Nat) (v : Value), (exL q.whr wp wc)[j]? = some v → QC[1 + j]? = some v
 be : QyBe w (fun _ => True) q wp wc cp cc np nc gp gc ap ac
theorem wrI_of (q : Qy) (I1 I2 I3 I4 J : List UInt8) (h1 : [115, 101, 108, 101, 99, 116, 32] = I1) (h2 : I1 ++ inter [44, 32] (itemsW q) = I2) (h3 : I2 ++ ([32, 102, 114, 111, 109, 32] ++ q.frm.data.toList) = I3) (h4 : I3 ++ whW q.whr = I4) (h5 : I4 ++ gqW q = J) : wrI q = J := by
 rw [← h5, ← h4, ← h3, ← h2, ← h1, wrI, frW]
 simp
theorem wrQ_end {q : Qy} {B b : Nat} {w : World} (h : WI B b (wrI q) w) : (WbIs B b (wrQ q) false w ∧ wrQ q ≠ []) ∨ (∃ acc, WbIs B b acc true w ∧ wrQ q = []) := by
 obtain ⟨acc, fl, h1, h2, h3⟩ := h
 rcases h3 with ⟨rfl, rfl⟩ | ⟨rfl, h3⟩
 ·left
  rw [wrQ, if_pos h2]
  exact ⟨h1, by rw [wrI]; simp⟩
 ·right
  exact ⟨acc, h1, by rw [wrQ, if_neg (by omega)]⟩
set_option maxHeartbeats 8000000 in
set_option maxRecDepth 20000 in
theorem write_ay (q : Qy) (QC : Array Value) (wp : Option Addr) (wc : Nat) (cp : Option Addr) (cc : Nat) (np : Option Addr) (nc : Nat) (gp : Option Addr) (gc : Nat) (ap : Option Addr) (ac : Nat) (w : World) (henv : TEnv w) (hL : QyL w QC q wp wc cp cc np nc gp gc ap ac) (hW : QyW q) (hag : 0 < q.aggs.length) (hwh : noOp q.whr = false) :
  Calls Tryz.prog 19 #[.agg QC] w fun e w' => e = .returned (.string ⟨(wrQ q).toArray⟩) ∧ Below w.heap.size w w' := by
 obtain ⟨⟨hs14, h8, h9, h10, h11, h12, h13⟩, h0, hw7, hB⟩ := hL
 obtain ⟨NC, hNC⟩ : ∃ NC, q.cols.length = NC := ⟨_, rfl⟩
 obtain ⟨NN, hNN⟩ : ∃ NN, q.names.length = NN := ⟨_, rfl⟩
 obtain ⟨NG, hNG⟩ : ∃ NG, q.group.length = NG := ⟨_, rfl⟩
 obtain ⟨NA, hNA⟩ : ∃ NA, q.aggs.length = NA := ⟨_, rfl⟩
 have hA6 : NA ≤ 1048576 := by rw [← hNA]; exact hB.aggs.1
 have hN6 : NN ≤ 1048576 := by rw [← hNN]; obtain ⟨_, _, _, ⟨_, h⟩, _⟩ := hB.names; exact h
 have hC6 : NC ≤ 1048576 := by rw [← hNC]; exact hB.clen
 rw [hNC] at h8
 rw [hNN] at h9
 rw [hNG] at h10
 rw [hNA] at h13
 have hnm := hB.names
 have hgr := hB.group
 have hcl := hB.cols
 rw [hNN] at hnm
 rw [hNG] at hgr
 rw [hNC] at hcl
 have b1 : Below w.heap.size w ((w.alloc (.cells QC 30)).alloc (.cells #[.pointer none, .slice none 0 0, .bool false] 93)) := (al w _).alloc (by simp) _
 have X1 : Qbx w w.heap.size QC ((w.alloc (.cells QC 30)).alloc (.cells #[.pointer none, .slice none 0 0, .bool false] 93)) := ⟨(blk_alloc w _ _).on (al _ _), b1⟩
 have Z1 : WI w.heap.size (w.heap.size + 1) [] ((w.alloc (.cells QC 30)).alloc (.cells #[.pointer none, .slice none 0 0, .bool false] 93)) := ⟨[], false, by
  have := wb_fresh' w.heap.size (w.alloc (.cells QC 30)) (by simp)
  rwa [show (w.alloc (.cells QC 30)).heap.size = w.heap.size + 1 by simp] at this, by simp, .inl ⟨rfl, rfl⟩⟩
 have hne : w.heap.size ≠ w.heap.size + 1 := by omega
 obtain ⟨I1, hI1⟩ : ∃ I1 : List UInt8, [115, 101, 108, 101, 99, 116, 32] = I1 := ⟨_, rfl⟩
 obtain ⟨I2, hI2⟩ : ∃ I2, I1 ++ inter [44, 32] (itemsW q) = I2 := ⟨_, rfl⟩
 obtain ⟨I3, hI3⟩ : ∃ I3, I2 ++ ([32, 102, 114, 111, 109, 32] ++ q.frm.data.toList) = I3 := ⟨_, rfl⟩
 obtain ⟨I4, hI4⟩ : ∃ I4, I3 ++ whW q.whr = I4 := ⟨_, rfl⟩
 obtain ⟨J, hJ⟩ : ∃ J, I4 ++ gqW q = J := ⟨_, rfl⟩
 have hJw := wrI_of q I1 I2 I3 I4 J hI1 hI2 hI3 hI4 hJ
 have HJW : Hid (wrI q = J) := hJw
 have c1 := put1_q ⟨#[115, 101, 108, 101, 99, 116, 32]⟩ [115, 101, 108, 101, 99, 116, 32] rfl w.heap.size (w.heap.size + 1) (w.heap.size + 2) [] I1 (by rw [← hI1]; rfl) _ (by simp) Z1 (by simp; omega) (by decide)
 have c2 := fun (V : World) (hV : Qbx w w.heap.size QC V) (hI : WI w.heap.size (w.heap.size + 1) I1 V) => several_w 42 #[.pointer (some ⟨w.heap.size + 1, 0, none⟩), .pointer (some ⟨w.heap.size, 0, none⟩)] ent_w1 w.heap.size (w.heap.size + 1) NA (q.aggs.map agW) (by simpa using hNA) hA6 (Qbx w w.heap.size QC) (fun W W' h k => h.keeps hne k) (part1_w q ap ac NA w (w.heap.size + 1) w.heap.size QC hNA h13 hB.aggs hW henv) I1 I2 (by rw [← hI2, itemsW, if_pos (by omega)]) V hI hV.2.size hV
 have hgt : (0 : Int) < (NA : Int) := by omega
 have hgd : decide ((0 : Int) < (NA : Int)) = true := by simpa using hgt
 have c3 := fun (V : World) (g : Nat) (hg : g = V.heap.size) (hI : WI w.heap.size (w.heap.size + 1) I2 V) (hB2 : w.heap.size ≤ V.heap.size) => put2_q ⟨#[32, 102, 114, 111, 109, 32]⟩ q.frm w.heap.size (w.heap.size + 1) g I2 I3 hI3 V hg hI hB2 (by decide) hW.f
 have cN := fun (V : World) (hV : Qbx w w.heap.size QC V) => isNothing_any q.whr (fun _ => True) (exV q.whr wp wc) V (hB.whr.on hV.2)
 rw [hwh] at cN
 have hldw := fun (V : World) (hV : Qbx w w.heap.size QC V) {ops : Array Oper} {rest : List Oper} {op : Oper} {a : Act} {Q : Exit → Act → World → Prop} (hgd : op.guard = none) (x : Operand) (ho : op.op = .load 26 x) (hx : a.eval x = .pointer (some ⟨w.heap.size, 1, none⟩)) (h : wpList Tryz.prog ops Q rest (a.put op.dst (exV q.whr wp wc)) V) => wpList_load_mid (P := Tryz.prog) hgd 26 x ho w.heap.size 1 hx (exL q.whr wp wc) _ (fun j v hv => by rw [hV.1.cell]; exact hw7 j v hv) Tryz.underlying26 rfl size_exU h
 have c5 := fun (V : World) (g : Nat) (hg : g = V.heap.size) (hI : WI w.heap.size (w.heap.size + 1) I3 V) (hB2 : w.heap.size ≤ V.heap.size) => put1_q ⟨#[32, 119, 104, 101, 114, 101, 32]⟩ [32, 119, 104, 101, 114, 101, 32] rfl w.heap.size (w.heap.size + 1) g I3 _ rfl V hg hI hB2 (by decide)
 have c6 := fun (V : World) (hV : Qbx w w.heap.size QC V) (hI : WI w.heap.size (w.heap.size + 1) (I3 ++ [32, 119, 104, 101, 114, 101, 32]) V) => expression_w q.whr wp wc (fun _ => True) w.heap.size (w.heap.size + 1) (I3 ++ [32, 119, 104, 101, 114, 101, 32]) I4 (by rw [← hI4, whW, if_neg (by rw [hwh]; decide)]; simp) V (henv.on hV.2) (hB.whr.on hV.2) hW.w hI hV.2.size
 have c7 := fun (V : World) (hV : Qbx w w.heap.size QC V) (hI : WI w.heap.size (w.heap.size + 1) I4 V) => group_w q gp gc NG w (w.heap.size + 1) QC hs14 hNG h10 h11 h12 hgr hW henv I4 J (by rw [← hJ, gqW, if_pos (by omega)]) V hV.2 hI
 have hcl2 : ∀ V, Qbx w w.heap.size QC V → V.cell? ⟨w.heap.size, 0, none⟩ = some (.string q.frm) ∧ V.cell? ⟨w.heap.size, 8, none⟩ = some (.slice cp NC cc) ∧ V.cell? ⟨w.heap.size, 9, none⟩ = some (.slice np NN nc) ∧ V.cell? ⟨w.heap.size, 13, none⟩ = some (.slice ap NA ac) ∧ w.heap.size < V.heap.size := fun V hV => ⟨by rw [hV.1.cell]; exact h0, by rw [hV.1.cell]; exact h8, by rw [hV.1.cell]; exact h9, by rw [hV.1.cell]; exact h13, hV.1.lt⟩
 have HC := (show Aside _ from hcl2)
 have HX : Aside (Qbx w w.heap.size QC ((w.alloc (.cells QC 30)).alloc (.cells #[.pointer none, .slice none 0 0, .bool false] 93))) := X1
 have K1 : Aside (Keeps w.heap.size (w.heap.size + 1) ((w.alloc (.cells QC 30)).alloc (.cells #[.pointer none, .slice none 0 0, .bool false] 93)) ((w.alloc (.cells QC 30)).alloc (.cells #[.pointer none, .slice none 0 0, .bool false] 93))) := Keeps.refl _ _ _
 obtain ⟨QW, hQW⟩ : ∃ QW, wrQ q = QW := ⟨_, rfl⟩
 have HQW : Hid (wrQ q = QW) := hQW
 rw [hQW]
 have HEV := (show Aside _ from hldw)
 clear hQW hnm hgr hcl hB hI1 hI2 hI3 hI4 hJ hJw h0 h8 h9 h10 h11 h12 h13 hw7 hcl2 X1 Z1 b1 hNC hNN hNG hldw
 go_enter Tryz.func19, Tryz.ntmps19
 go_wp2_with fail
 refine c1.mono ?_
 rintro e w1 ⟨rfl, W1, KA⟩
 have X1 := HX.out.keeps hne KA.out
 have B1 : w.heap.size ≤ w1.heap.size := X1.2.size
 obtain ⟨d0, d8, d9, d13, dl⟩ := HC.out w1 X1
 have c2' := c2 w1 X1 W1.out
 clear c2
 go_wp2_with fail
 refine c2'.mono ?_
 rintro e w2 ⟨rfl, W2, KB⟩
 have X2 := X1.keeps hne KB.out
 have B2 : w.heap.size ≤ w2.heap.size := X2.2.size
 clear c2'
 obtain ⟨f0, -, -, f13, fl⟩ := HC.out w2 X2
 have c3' := c3 w2 _ rfl W2.out B2
 clear c1 d0 d8 d9 d13 dl
 go_wp2_with fail
 refine c3'.mono ?_
 rintro e w3 ⟨rfl, W3, KC⟩
 have X3 := X2.keeps hne KC.out
 have B3 : w.heap.size ≤ w3.heap.size := X3.2.size
 have cN' := cN w3 X3
 have hldA := fun {ops : Array Oper} {rest : List Oper} {op : Oper} {a : Act} {Q : Exit → Act → World → Prop} => HEV.out w3 X3 (ops := ops) (rest := rest) (op := op) (a := a) (Q := Q)
 clear c3 c3' cN f0 f13 fl
 go_wp2_with (refine hldA rfl _ rfl rfl ?_)
 refine cN'.mono ?_
 rintro e w4 ⟨rfl, b4⟩
 have X4 : Qbx w w.heap.size QC w4 := ⟨X3.1.on b4, X3.2.trans (b4.mono B3)⟩
 have W4 : WI w.heap.size (w.heap.size + 1) I3 w4 := W3.out.on b4
 have B4 : w.heap.size ≤ w4.heap.size := X4.2.size
 clear cN' hldA
 have c5' := c5 w4 _ rfl W4 B4
 clear c5
 go_wp2_with fail
 refine c5'.mono ?_
 rintro e w4b ⟨rfl, W4b, KD⟩
 have X4b := X4.keeps hne KD.out
 have c6' := c6 w4b X4b W4b.out
 have hldB := fun {ops : Array Oper} {rest : List Oper} {op : Oper} {a : Act} {Q : Exit → Act → World → Prop} => HEV.out w4b X4b (ops := ops) (rest := rest) (op := op) (a := a) (Q := Q)
 clear c5' c6
 go_wp2_with (refine hldB rfl _ rfl rfl ?_)
 refine c6'.mono ?_
 rintro e w5 ⟨rfl, W5', KE⟩
 have X5 := X4b.keeps hne KE.out
 have W5 : WI w.heap.size (w.heap.size + 1) I4 w5 := W5'.out
 obtain ⟨-, -, -, g13, gl⟩ := HC.out w5 X5
 clear c6' hldB
 have c7' := c7 w5 X5 W5
 have hldC := fun {ops : Array Oper} {rest : List Oper} {op : Oper} {a : Act} {Q : Exit → Act → World → Prop} => ldQ (ops := ops) (rest := rest) (op := op) (a := a) (Q := Q) hs14 X5.1
 clear c7
 go_wp2_with (refine hldC rfl _ rfl rfl ?_)
 refine c7'.mono ?_
 rintro e w6 ⟨rfl, W6', KF⟩
 have X6 := X5.keeps hne KF.out
 have W6 : WI w.heap.size (w.heap.size + 1) J w6 := W6'.out
 clear c7' hldC
 have WF := W6
 rw [← HJW.out] at WF
 rcases wrQ_end WF with ⟨wf, hnn⟩ | ⟨acc, wf, hnn⟩
 ·rw [HQW.out] at wf hnn
  obtain ⟨k2, -, kl⟩ := wf.cells
  have cS := Wbl.string w.heap.size (w.heap.size + 1) QW false w6 wf hnn
  clear wf hnn WF W6
  go_wp2_with fail
  refine cS.mono ?_
  rintro e w7 ⟨rfl, b7⟩
  have BF := X6.2.trans b7
  clear cS
  go_wp2
  go_ret
  exact ⟨rfl, BF⟩
 ·rw [HQW.out] at hnn
  obtain ⟨k2, -, kl⟩ := wf.cells
  have BF := X6.2
  subst hnn
  clear wf WF W6
  go_wp2
  go_ret
  exact ⟨rfl, BF⟩
set_option maxHeartbeats 8000000 in
set_option maxRecDepth 20000 in
theorem write_an (q : Qy) (QC : Array Value) (wp : Option Addr) (wc : Nat) (cp : Option Addr) (cc : Nat) (np : Option Addr) (nc : Nat) (gp : Option Addr) (gc : Nat) (ap : Option Addr) (ac : Nat) (w : World) (henv : TEnv w) (hL : QyL w QC q wp wc cp cc np nc gp gc ap ac) (hW : QyW q) (hag : 0 < q.aggs.length) (hwh : noOp q.whr = true) :
  Calls Tryz.prog 19 #[.agg QC] w fun e w' => e = .returned (.string ⟨(wrQ q).toArray⟩) ∧ Below w.heap.size w w' := by
 obtain ⟨⟨hs14, h8, h9, h10, h11, h12, h13⟩, h0, hw7, hB⟩ := hL
 obtain ⟨NC, hNC⟩ : ∃ NC, q.cols.length = NC := ⟨_, rfl⟩
 obtain ⟨NN, hNN⟩ : ∃ NN, q.names.length = NN := ⟨_, rfl⟩
 obtain ⟨NG, hNG⟩ : ∃ NG, q.group.length = NG := ⟨_, rfl⟩
 obtain ⟨NA, hNA⟩ : ∃ NA, q.aggs.length = NA := ⟨_, rfl⟩
 have hA6 : NA ≤ 1048576 := by rw [← hNA]; exact hB.aggs.1
 have hN6 : NN ≤ 1048576 := by rw [← hNN]; obtain ⟨_, _, _, ⟨_, h⟩, _⟩ := hB.names; exact h
 have hC6 : NC ≤ 1048576 := by rw [← hNC]; exact hB.clen
 rw [hNC] at h8
 rw [hNN] at h9
 rw [hNG] at h10
 rw [hNA] at h13
 have hnm := hB.names
 have hgr := hB.group
 have hcl := hB.cols
 rw [hNN] at hnm
 rw [hNG] at hgr
 rw [hNC] at hcl
 have b1 : Below w.heap.size w ((w.alloc (.cells QC 30)).alloc (.cells #[.pointer none, .slice none 0 0, .bool false] 93)) := (al w _).alloc (by simp) _
 have X1 : Qbx w w.heap.size QC ((w.alloc (.cells QC 30)).alloc (.cells #[.pointer none, .slice none 0 0, .bool false] 93)) := ⟨(blk_alloc w _ _).on (al _ _), b1⟩
 have Z1 : WI w.heap.size (w.heap.size + 1) [] ((w.alloc (.cells QC 30)).alloc (.cells #[.pointer none, .slice none 0 0, .bool false] 93)) := ⟨[], false, by
  have := wb_fresh' w.heap.size (w.alloc (.cells QC 30)) (by simp)
  rwa [show (w.alloc (.cells QC 30)).heap.size = w.heap.size + 1 by simp] at this, by simp, .inl ⟨rfl, rfl⟩⟩
 have hne : w.heap.size ≠ w.heap.size + 1 := by omega
 obtain ⟨I1, hI1⟩ : ∃ I1 : List UInt8, [115, 101, 108, 101, 99, 116, 32] = I1 := ⟨_, rfl⟩
 obtain ⟨I2, hI2⟩ : ∃ I2, I1 ++ inter [44, 32] (itemsW q) = I2 := ⟨_, rfl⟩
 obtain ⟨I3, hI3⟩ : ∃ I3, I2 ++ ([32, 102, 114, 111, 109, 32] ++ q.frm.data.toList) = I3 := ⟨_, rfl⟩
 obtain ⟨I4, hI4⟩ : ∃ I4, I3 ++ whW q.whr = I4 := ⟨_, rfl⟩
 obtain ⟨J, hJ⟩ : ∃ J, I4 ++ gqW q = J := ⟨_, rfl⟩
 have hJw := wrI_of q I1 I2 I3 I4 J hI1 hI2 hI3 hI4 hJ
 have HJW : Hid (wrI q = J) := hJw
 have c1 := put1_q ⟨#[115, 101, 108, 101, 99, 116, 32]⟩ [115, 101, 108, 101, 99, 116, 32] rfl w.heap.size (w.heap.size + 1) (w.heap.size + 2) [] I1 (by rw [← hI1]; rfl) _ (by simp) Z1 (by simp; omega) (by decide)
 have c2 := fun (V : World) (hV : Qbx w w.heap.size QC V) (hI : WI w.heap.size (w.heap.size + 1) I1 V) => several_w 42 #[.pointer (some ⟨w.heap.size + 1, 0, none⟩), .pointer (some ⟨w.heap.size, 0, none⟩)] ent_w1 w.heap.size (w.heap.size + 1) NA (q.aggs.map agW) (by simpa using hNA) hA6 (Qbx w w.heap.size QC) (fun W W' h k => h.keeps hne k) (part1_w q ap ac NA w (w.heap.size + 1) w.heap.size QC hNA h13 hB.aggs hW henv) I1 I2 (by rw [← hI2, itemsW, if_pos (by omega)]) V hI hV.2.size hV
 have hgt : (0 : Int) < (NA : Int) := by omega
 have hgd : decide ((0 : Int) < (NA : Int)) = true := by simpa using hgt
 have c3 := fun (V : World) (g : Nat) (hg : g = V.heap.size) (hI : WI w.heap.size (w.heap.size + 1) I2 V) (hB2 : w.heap.size ≤ V.heap.size) => put2_q ⟨#[32, 102, 114, 111, 109, 32]⟩ q.frm w.heap.size (w.heap.size + 1) g I2 I3 hI3 V hg hI hB2 (by decide) hW.f
 have cN := fun (V : World) (hV : Qbx w w.heap.size QC V) => isNothing_any q.whr (fun _ => True) (exV q.whr wp wc) V (hB.whr.on hV.2)
 rw [hwh] at cN
 have hldw := fun (V : World) (hV : Qbx w w.heap.size QC V) {ops : Array Oper} {rest : List Oper} {op : Oper} {a : Act} {Q : Exit → Act → World → Prop} (hgd : op.guard = none) (x : Operand) (ho : op.op = .load 26 x) (hx : a.eval x = .pointer (some ⟨w.heap.size, 1, none⟩)) (h : wpList Tryz.prog ops Q rest (a.put op.dst (exV q.whr wp wc)) V) => wpList_load_mid (P := Tryz.prog) hgd 26 x ho w.heap.size 1 hx (exL q.whr wp wc) _ (fun j v hv => by rw [hV.1.cell]; exact hw7 j v hv) Tryz.underlying26 rfl size_exU h
 have h34 : I3 = I4 := by rw [← hI4, whW, if_pos hwh, List.append_nil]
 have c7 := fun (V : World) (hV : Qbx w w.heap.size QC V) (hI : WI w.heap.size (w.heap.size + 1) I4 V) => group_w q gp gc NG w (w.heap.size + 1) QC hs14 hNG h10 h11 h12 hgr hW henv I4 J (by rw [← hJ, gqW, if_pos (by omega)]) V hV.2 hI
 have hcl2 : ∀ V, Qbx w w.heap.size QC V → V.cell? ⟨w.heap.size, 0, none⟩ = some (.string q.frm) ∧ V.cell? ⟨w.heap.size, 8, none⟩ = some (.slice cp NC cc) ∧ V.cell? ⟨w.heap.size, 9, none⟩ = some (.slice np NN nc) ∧ V.cell? ⟨w.heap.size, 13, none⟩ = some (.slice ap NA ac) ∧ w.heap.size < V.heap.size := fun V hV => ⟨by rw [hV.1.cell]; exact h0, by rw [hV.1.cell]; exact h8, by rw [hV.1.cell]; exact h9, by rw [hV.1.cell]; exact h13, hV.1.lt⟩
 have HC := (show Aside _ from hcl2)
 have HX : Aside (Qbx w w.heap.size QC ((w.alloc (.cells QC 30)).alloc (.cells #[.pointer none, .slice none 0 0, .bool false] 93))) := X1
 have K1 : Aside (Keeps w.heap.size (w.heap.size + 1) ((w.alloc (.cells QC 30)).alloc (.cells #[.pointer none, .slice none 0 0, .bool false] 93)) ((w.alloc (.cells QC 30)).alloc (.cells #[.pointer none, .slice none 0 0, .bool false] 93))) := Keeps.refl _ _ _
 obtain ⟨QW, hQW⟩ : ∃ QW, wrQ q = QW := ⟨_, rfl⟩
 have HQW : Hid (wrQ q = QW) := hQW
 rw [hQW]
 have HEV := (show Aside _ from hldw)
 clear hQW hnm hgr hcl hB hI1 hI2 hI3 hI4 hJ hJw h0 h8 h9 h10 h11 h12 h13 hw7 hcl2 X1 Z1 b1 hNC hNN hNG hldw
 go_enter Tryz.func19, Tryz.ntmps19
 go_wp2_with fail
 refine c1.mono ?_
 rintro e w1 ⟨rfl, W1, KA⟩
 have X1 := HX.out.keeps hne KA.out
 have B1 : w.heap.size ≤ w1.heap.size := X1.2.size
 obtain ⟨d0, d8, d9, d13, dl⟩ := HC.out w1 X1
 have c2' := c2 w1 X1 W1.out
 clear c2
 go_wp2_with fail
 refine c2'.mono ?_
 rintro e w2 ⟨rfl, W2, KB⟩
 have X2 := X1.keeps hne KB.out
 have B2 : w.heap.size ≤ w2.heap.size := X2.2.size
 clear c2'
 obtain ⟨f0, -, -, f13, fl⟩ := HC.out w2 X2
 have c3' := c3 w2 _ rfl W2.out B2
 clear c1 d0 d8 d9 d13 dl
 go_wp2_with fail
 refine c3'.mono ?_
 rintro e w3 ⟨rfl, W3, KC⟩
 have X3 := X2.keeps hne KC.out
 have B3 : w.heap.size ≤ w3.heap.size := X3.2.size
 have cN' := cN w3 X3
 have hldA := fun {ops : Array Oper} {rest : List Oper} {op : Oper} {a : Act} {Q : Exit → Act → World → Prop} => HEV.out w3 X3 (ops := ops) (rest := rest) (op := op) (a := a) (Q := Q)
 clear c3 c3' cN f0 f13 fl
 go_wp2_with (refine hldA rfl _ rfl rfl ?_)
 refine cN'.mono ?_
 rintro e w4 ⟨rfl, b4⟩
 have X4 : Qbx w w.heap.size QC w4 := ⟨X3.1.on b4, X3.2.trans (b4.mono B3)⟩
 have W4 : WI w.heap.size (w.heap.size + 1) I3 w4 := W3.out.on b4
 have B4 : w.heap.size ≤ w4.heap.size := X4.2.size
 clear cN' hldA
 have X5 := X4
 have W5 : WI w.heap.size (w.heap.size + 1) I4 w4 := by rw [← h34]; exact W4
 obtain ⟨-, -, -, g13, gl⟩ := HC.out w4 X5
 have c7' := c7 w4 X5 W5
 have hldC := fun {ops : Array Oper} {rest : List Oper} {op : Oper} {a : Act} {Q : Exit → Act → World → Prop} => ldQ (ops := ops) (rest := rest) (op := op) (a := a) (Q := Q) hs14 X5.1
 clear c7
 go_wp2_with (refine hldC rfl _ rfl rfl ?_)
 refine c7'.mono ?_
 rintro e w6 ⟨rfl, W6', KF⟩
 have X6 := X5.keeps hne KF.out
 have W6 : WI w.heap.size (w.heap.size + 1) J w6 := W6'.out
 clear c7' hldC
 have WF := W6
 rw [← HJW.out] at WF
 rcases wrQ_end WF with ⟨wf, hnn⟩ | ⟨acc, wf, hnn⟩
 ·rw [HQW.out] at wf hnn
  obtain ⟨k2, -, kl⟩ := wf.cells
  have cS := Wbl.string w.heap.size (w.heap.size + 1) QW false w6 wf hnn
  clear wf hnn WF W6
  go_wp2_with fail
  refine cS.mono ?_
  rintro e w7 ⟨rfl, b7⟩
  have BF := X6.2.trans b7
  clear cS
  go_wp2
  go_ret
  exact ⟨rfl, BF⟩
 ·rw [HQW.out] at hnn
  obtain ⟨k2, -, kl⟩ := wf.cells
  have BF := X6.2
  subst hnn
  clear wf WF W6
  go_wp2
  go_ret
  exact ⟨rfl, BF⟩
set_option maxHeartbeats 8000000 in
set_option maxRecDepth 20000 in
theorem write_cy (q : Qy) (QC : Array Value) (wp : Option Addr) (wc : Nat) (cp : Option Addr) (cc : Nat) (np : Option Addr) (nc : Nat) (gp : Option Addr) (gc : Nat) (ap : Option Addr) (ac : Nat) (w : World) (henv : TEnv w) (hL : QyL w QC q wp wc cp cc np nc gp gc ap ac) (hW : QyW q) (hag : q.aggs.length = 0) (hwh : noOp q.whr = false) :
  Calls Tryz.prog 19 #[.agg QC] w fun e w' => e = .returned (.string ⟨(wrQ q).toArray⟩) ∧ Below w.heap.size w w' := by
 obtain ⟨⟨hs14, h8, h9, h10, h11, h12, h13⟩, h0, hw7, hB⟩ := hL
 obtain ⟨NC, hNC⟩ : ∃ NC, q.cols.length = NC := ⟨_, rfl⟩
 obtain ⟨NN, hNN⟩ : ∃ NN, q.names.length = NN := ⟨_, rfl⟩
 obtain ⟨NG, hNG⟩ : ∃ NG, q.group.length = NG := ⟨_, rfl⟩
 obtain ⟨NA, hNA⟩ : ∃ NA, q.aggs.length = NA := ⟨_, rfl⟩
 have hA6 : NA ≤ 1048576 := by rw [← hNA]; exact hB.aggs.1
 have hN6 : NN ≤ 1048576 := by rw [← hNN]; obtain ⟨_, _, _, ⟨_, h⟩, _⟩ := hB.names; exact h
 have hC6 : NC ≤ 1048576 := by rw [← hNC]; exact hB.clen
 rw [hNC] at h8
 rw [hNN] at h9
 rw [hNG] at h10
 rw [hNA] at h13
 have hnm := hB.names
 have hgr := hB.group
 have hcl := hB.cols
 rw [hNN] at hnm
 rw [hNG] at hgr
 rw [hNC] at hcl
 have b1 : Below w.heap.size w ((w.alloc (.cells QC 30)).alloc (.cells #[.pointer none, .slice none 0 0, .bool false] 93)) := (al w _).alloc (by simp) _
 have X1 : Qbx w w.heap.size QC ((w.alloc (.cells QC 30)).alloc (.cells #[.pointer none, .slice none 0 0, .bool false] 93)) := ⟨(blk_alloc w _ _).on (al _ _), b1⟩
 have Z1 : WI w.heap.size (w.heap.size + 1) [] ((w.alloc (.cells QC 30)).alloc (.cells #[.pointer none, .slice none 0 0, .bool false] 93)) := ⟨[], false, by
  have := wb_fresh' w.heap.size (w.alloc (.cells QC 30)) (by simp)
  rwa [show (w.alloc (.cells QC 30)).heap.size = w.heap.size + 1 by simp] at this, by simp, .inl ⟨rfl, rfl⟩⟩
 have hne : w.heap.size ≠ w.heap.size + 1 := by omega
 obtain ⟨I1, hI1⟩ : ∃ I1 : List UInt8, [115, 101, 108, 101, 99, 116, 32] = I1 := ⟨_, rfl⟩
 obtain ⟨I2, hI2⟩ : ∃ I2, I1 ++ inter [44, 32] (itemsW q) = I2 := ⟨_, rfl⟩
 obtain ⟨I3, hI3⟩ : ∃ I3, I2 ++ ([32, 102, 114, 111, 109, 32] ++ q.frm.data.toList) = I3 := ⟨_, rfl⟩
 obtain ⟨I4, hI4⟩ : ∃ I4, I3 ++ whW q.whr = I4 := ⟨_, rfl⟩
 obtain ⟨J, hJ⟩ : ∃ J, I4 ++ gqW q = J := ⟨_, rfl⟩
 have hJw := wrI_of q I1 I2 I3 I4 J hI1 hI2 hI3 hI4 hJ
 have HJW : Hid (wrI q = J) := hJw
 have c1 := put1_q ⟨#[115, 101, 108, 101, 99, 116, 32]⟩ [115, 101, 108, 101, 99, 116, 32] rfl w.heap.size (w.heap.size + 1) (w.heap.size + 2) [] I1 (by rw [← hI1]; rfl) _ (by simp) Z1 (by simp; omega) (by decide)
 obtain ⟨M, hM⟩ : ∃ M, min NC NN = M := ⟨_, rfl⟩
 have c2 := fun (V : World) (hV : Qbx w w.heap.size QC V) (hI : WI w.heap.size (w.heap.size + 1) I1 V) => several_w 44 #[.pointer (some ⟨w.heap.size + 1, 0, none⟩), .pointer (some ⟨w.heap.size, 0, none⟩)] ent_w2 w.heap.size (w.heap.size + 1) M ((q.cols.zip q.names).map fun p => colW p.1 p.2) (by rw [List.length_map, List.length_zip, hNC, hNN]; exact hM) (by omega) (Qbx w w.heap.size QC) (fun W W' h k => h.keeps hne k) (part2_w q cp cc NC np nc NN w (w.heap.size + 1) w.heap.size QC hNC hNN h8 h9 hcl hnm hW henv) I1 I2 (by rw [← hI2, itemsW, if_neg (by omega)]) V hI hV.2.size hV
 have hgt : ¬ (0 : Int) < (NA : Int) := by omega
 have hgd : decide ((0 : Int) < (NA : Int)) = false := by simpa using hgt
 have hmin : (min (NC : Int) (NN : Int)) = (M : Int) := by omega
 clear hM
 have c3 := fun (V : World) (g : Nat) (hg : g = V.heap.size) (hI : WI w.heap.size (w.heap.size + 1) I2 V) (hB2 : w.heap.size ≤ V.heap.size) => put2_q ⟨#[32, 102, 114, 111, 109, 32]⟩ q.frm w.heap.size (w.heap.size + 1) g I2 I3 hI3 V hg hI hB2 (by decide) hW.f
 have cN := fun (V : World) (hV : Qbx w w.heap.size QC V) => isNothing_any q.whr (fun _ => True) (exV q.whr wp wc) V (hB.whr.on hV.2)
 rw [hwh] at cN
 have hldw := fun (V : World) (hV : Qbx w w.heap.size QC V) {ops : Array Oper} {rest : List Oper} {op : Oper} {a : Act} {Q : Exit → Act → World → Prop} (hgd : op.guard = none) (x : Operand) (ho : op.op = .load 26 x) (hx : a.eval x = .pointer (some ⟨w.heap.size, 1, none⟩)) (h : wpList Tryz.prog ops Q rest (a.put op.dst (exV q.whr wp wc)) V) => wpList_load_mid (P := Tryz.prog) hgd 26 x ho w.heap.size 1 hx (exL q.whr wp wc) _ (fun j v hv => by rw [hV.1.cell]; exact hw7 j v hv) Tryz.underlying26 rfl size_exU h
 have c5 := fun (V : World) (g : Nat) (hg : g = V.heap.size) (hI : WI w.heap.size (w.heap.size + 1) I3 V) (hB2 : w.heap.size ≤ V.heap.size) => put1_q ⟨#[32, 119, 104, 101, 114, 101, 32]⟩ [32, 119, 104, 101, 114, 101, 32] rfl w.heap.size (w.heap.size + 1) g I3 _ rfl V hg hI hB2 (by decide)
 have c6 := fun (V : World) (hV : Qbx w w.heap.size QC V) (hI : WI w.heap.size (w.heap.size + 1) (I3 ++ [32, 119, 104, 101, 114, 101, 32]) V) => expression_w q.whr wp wc (fun _ => True) w.heap.size (w.heap.size + 1) (I3 ++ [32, 119, 104, 101, 114, 101, 32]) I4 (by rw [← hI4, whW, if_neg (by rw [hwh]; decide)]; simp) V (henv.on hV.2) (hB.whr.on hV.2) hW.w hI hV.2.size
 have h45 : I4 = J := by rw [← hJ, gqW, if_neg (by omega), List.append_nil]
 have hcl2 : ∀ V, Qbx w w.heap.size QC V → V.cell? ⟨w.heap.size, 0, none⟩ = some (.string q.frm) ∧ V.cell? ⟨w.heap.size, 8, none⟩ = some (.slice cp NC cc) ∧ V.cell? ⟨w.heap.size, 9, none⟩ = some (.slice np NN nc) ∧ V.cell? ⟨w.heap.size, 13, none⟩ = some (.slice ap NA ac) ∧ w.heap.size < V.heap.size := fun V hV => ⟨by rw [hV.1.cell]; exact h0, by rw [hV.1.cell]; exact h8, by rw [hV.1.cell]; exact h9, by rw [hV.1.cell]; exact h13, hV.1.lt⟩
 have HC := (show Aside _ from hcl2)
 have HX : Aside (Qbx w w.heap.size QC ((w.alloc (.cells QC 30)).alloc (.cells #[.pointer none, .slice none 0 0, .bool false] 93))) := X1
 have K1 : Aside (Keeps w.heap.size (w.heap.size + 1) ((w.alloc (.cells QC 30)).alloc (.cells #[.pointer none, .slice none 0 0, .bool false] 93)) ((w.alloc (.cells QC 30)).alloc (.cells #[.pointer none, .slice none 0 0, .bool false] 93))) := Keeps.refl _ _ _
 obtain ⟨QW, hQW⟩ : ∃ QW, wrQ q = QW := ⟨_, rfl⟩
 have HQW : Hid (wrQ q = QW) := hQW
 rw [hQW]
 have HEV := (show Aside _ from hldw)
 clear hQW hnm hgr hcl hB hI1 hI2 hI3 hI4 hJ hJw h0 h8 h9 h10 h11 h12 h13 hw7 hcl2 X1 Z1 b1 hNC hNN hNG hldw
 go_enter Tryz.func19, Tryz.ntmps19
 go_wp2_with fail
 refine c1.mono ?_
 rintro e w1 ⟨rfl, W1, KA⟩
 have X1 := HX.out.keeps hne KA.out
 have B1 : w.heap.size ≤ w1.heap.size := X1.2.size
 obtain ⟨d0, d8, d9, d13, dl⟩ := HC.out w1 X1
 have c2' := c2 w1 X1 W1.out
 clear c2
 go_wp2_with fail
 refine c2'.mono ?_
 rintro e w2 ⟨rfl, W2, KB⟩
 have X2 := X1.keeps hne KB.out
 have B2 : w.heap.size ≤ w2.heap.size := X2.2.size
 clear c2'
 obtain ⟨f0, -, -, f13, fl⟩ := HC.out w2 X2
 have c3' := c3 w2 _ rfl W2.out B2
 clear c1 d0 d8 d9 d13 dl
 go_wp2_with fail
 refine c3'.mono ?_
 rintro e w3 ⟨rfl, W3, KC⟩
 have X3 := X2.keeps hne KC.out
 have B3 : w.heap.size ≤ w3.heap.size := X3.2.size
 have cN' := cN w3 X3
 have hldA := fun {ops : Array Oper} {rest : List Oper} {op : Oper} {a : Act} {Q : Exit → Act → World → Prop} => HEV.out w3 X3 (ops := ops) (rest := rest) (op := op) (a := a) (Q := Q)
 clear c3 c3' cN f0 f13 fl
 go_wp2_with (refine hldA rfl _ rfl rfl ?_)
 refine cN'.mono ?_
 rintro e w4 ⟨rfl, b4⟩
 have X4 : Qbx w w.heap.size QC w4 := ⟨X3.1.on b4, X3.2.trans (b4.mono B3)⟩
 have W4 : WI w.heap.size (w.heap.size + 1) I3 w4 := W3.out.on b4
 have B4 : w.heap.size ≤ w4.heap.size := X4.2.size
 clear cN' hldA
 have c5' := c5 w4 _ rfl W4 B4
 clear c5
 go_wp2_with fail
 refine c5'.mono ?_
 rintro e w4b ⟨rfl, W4b, KD⟩
 have X4b := X4.keeps hne KD.out
 have c6' := c6 w4b X4b W4b.out
 have hldB := fun {ops : Array Oper} {rest : List Oper} {op : Oper} {a : Act} {Q : Exit → Act → World → Prop} => HEV.out w4b X4b (ops := ops) (rest := rest) (op := op) (a := a) (Q := Q)
 clear c5' c6
 go_wp2_with (refine hldB rfl _ rfl rfl ?_)
 refine c6'.mono ?_
 rintro e w5 ⟨rfl, W5', KE⟩
 have X5 := X4b.keeps hne KE.out
 have W5 : WI w.heap.size (w.heap.size + 1) I4 w5 := W5'.out
 obtain ⟨-, -, -, g13, gl⟩ := HC.out w5 X5
 clear c6' hldB
 have W6 := W5
 rw [h45] at W6
 have X6 := X5
 have WF := W6
 rw [← HJW.out] at WF
 rcases wrQ_end WF with ⟨wf, hnn⟩ | ⟨acc, wf, hnn⟩
 ·rw [HQW.out] at wf hnn
  obtain ⟨k2, -, kl⟩ := wf.cells
  have cS := Wbl.string w.heap.size (w.heap.size + 1) QW false w5 wf hnn
  clear wf hnn WF W6
  go_wp2_with fail
  refine cS.mono ?_
  rintro e w7 ⟨rfl, b7⟩
  have BF := X6.2.trans b7
  clear cS
  go_wp2
  go_ret
  exact ⟨rfl, BF⟩
 ·rw [HQW.out] at hnn
  obtain ⟨k2, -, kl⟩ := wf.cells
  have BF := X6.2
  subst hnn
  clear wf WF W6
  go_wp2
  go_ret
  exact ⟨rfl, BF⟩
set_option maxHeartbeats 8000000 in
set_option maxRecDepth 20000 in
theorem write_cn (q : Qy) (QC : Array Value) (wp : Option Addr) (wc : Nat) (cp : Option Addr) (cc : Nat) (np : Option Addr) (nc : Nat) (gp : Option Addr) (gc : Nat) (ap : Option Addr) (ac : Nat) (w : World) (henv : TEnv w) (hL : QyL w QC q wp wc cp cc np nc gp gc ap ac) (hW : QyW q) (hag : q.aggs.length = 0) (hwh : noOp q.whr = true) :
  Calls Tryz.prog 19 #[.agg QC] w fun e w' => e = .returned (.string ⟨(wrQ q).toArray⟩) ∧ Below w.heap.size w w' := by
 obtain ⟨⟨hs14, h8, h9, h10, h11, h12, h13⟩, h0, hw7, hB⟩ := hL
 obtain ⟨NC, hNC⟩ : ∃ NC, q.cols.length = NC := ⟨_, rfl⟩
 obtain ⟨NN, hNN⟩ : ∃ NN, q.names.length = NN := ⟨_, rfl⟩
 obtain ⟨NG, hNG⟩ : ∃ NG, q.group.length = NG := ⟨_, rfl⟩
 obtain ⟨NA, hNA⟩ : ∃ NA, q.aggs.length = NA := ⟨_, rfl⟩
 have hA6 : NA ≤ 1048576 := by rw [← hNA]; exact hB.aggs.1
 have hN6 : NN ≤ 1048576 := by rw [← hNN]; obtain ⟨_, _, _, ⟨_, h⟩, _⟩ := hB.names; exact h
 have hC6 : NC ≤ 1048576 := by rw [← hNC]; exact hB.clen
 rw [hNC] at h8
 rw [hNN] at h9
 rw [hNG] at h10
 rw [hNA] at h13
 have hnm := hB.names
 have hgr := hB.group
 have hcl := hB.cols
 rw [hNN] at hnm
 rw [hNG] at hgr
 rw [hNC] at hcl
 have b1 : Below w.heap.size w ((w.alloc (.cells QC 30)).alloc (.cells #[.pointer none, .slice none 0 0, .bool false] 93)) := (al w _).alloc (by simp) _
 have X1 : Qbx w w.heap.size QC ((w.alloc (.cells QC 30)).alloc (.cells #[.pointer none, .slice none 0 0, .bool false] 93)) := ⟨(blk_alloc w _ _).on (al _ _), b1⟩
 have Z1 : WI w.heap.size (w.heap.size + 1) [] ((w.alloc (.cells QC 30)).alloc (.cells #[.pointer none, .slice none 0 0, .bool false] 93)) := ⟨[], false, by
  have := wb_fresh' w.heap.size (w.alloc (.cells QC 30)) (by simp)
  rwa [show (w.alloc (.cells QC 30)).heap.size = w.heap.size + 1 by simp] at this, by simp, .inl ⟨rfl, rfl⟩⟩
 have hne : w.heap.size ≠ w.heap.size + 1 := by omega
 obtain ⟨I1, hI1⟩ : ∃ I1 : List UInt8, [115, 101, 108, 101, 99, 116, 32] = I1 := ⟨_, rfl⟩
 obtain ⟨I2, hI2⟩ : ∃ I2, I1 ++ inter [44, 32] (itemsW q) = I2 := ⟨_, rfl⟩
 obtain ⟨I3, hI3⟩ : ∃ I3, I2 ++ ([32, 102, 114, 111, 109, 32] ++ q.frm.data.toList) = I3 := ⟨_, rfl⟩
 obtain ⟨I4, hI4⟩ : ∃ I4, I3 ++ whW q.whr = I4 := ⟨_, rfl⟩
 obtain ⟨J, hJ⟩ : ∃ J, I4 ++ gqW q = J := ⟨_, rfl⟩
 have hJw := wrI_of q I1 I2 I3 I4 J hI1 hI2 hI3 hI4 hJ
 have HJW : Hid (wrI q = J) := hJw
 have c1 := put1_q ⟨#[115, 101, 108, 101, 99, 116, 32]⟩ [115, 101, 108, 101, 99, 116, 32] rfl w.heap.size (w.heap.size + 1) (w.heap.size + 2) [] I1 (by rw [← hI1]; rfl) _ (by simp) Z1 (by simp; omega) (by decide)
 obtain ⟨M, hM⟩ : ∃ M, min NC NN = M := ⟨_, rfl⟩
 have c2 := fun (V : World) (hV : Qbx w w.heap.size QC V) (hI : WI w.heap.size (w.heap.size + 1) I1 V) => several_w 44 #[.pointer (some ⟨w.heap.size + 1, 0, none⟩), .pointer (some ⟨w.heap.size, 0, none⟩)] ent_w2 w.heap.size (w.heap.size + 1) M ((q.cols.zip q.names).map fun p => colW p.1 p.2) (by rw [List.length_map, List.length_zip, hNC, hNN]; exact hM) (by omega) (Qbx w w.heap.size QC) (fun W W' h k => h.keeps hne k) (part2_w q cp cc NC np nc NN w (w.heap.size + 1) w.heap.size QC hNC hNN h8 h9 hcl hnm hW henv) I1 I2 (by rw [← hI2, itemsW, if_neg (by omega)]) V hI hV.2.size hV
 have hgt : ¬ (0 : Int) < (NA : Int) := by omega
 have hgd : decide ((0 : Int) < (NA : Int)) = false := by simpa using hgt
 have hmin : (min (NC : Int) (NN : Int)) = (M : Int) := by omega
 clear hM
 have c3 := fun (V : World) (g : Nat) (hg : g = V.heap.size) (hI : WI w.heap.size (w.heap.size + 1) I2 V) (hB2 : w.heap.size ≤ V.heap.size) => put2_q ⟨#[32, 102, 114, 111, 109, 32]⟩ q.frm w.heap.size (w.heap.size + 1) g I2 I3 hI3 V hg hI hB2 (by decide) hW.f
 have cN := fun (V : World) (hV : Qbx w w.heap.size QC V) => isNothing_any q.whr (fun _ => True) (exV q.whr wp wc) V (hB.whr.on hV.2)
 rw [hwh] at cN
 have hldw := fun (V : World) (hV : Qbx w w.heap.size QC V) {ops : Array Oper} {rest : List Oper} {op : Oper} {a : Act} {Q : Exit → Act → World → Prop} (hgd : op.guard = none) (x : Operand) (ho : op.op = .load 26 x) (hx : a.eval x = .pointer (some ⟨w.heap.size, 1, none⟩)) (h : wpList Tryz.prog ops Q rest (a.put op.dst (exV q.whr wp wc)) V) => wpList_load_mid (P := Tryz.prog) hgd 26 x ho w.heap.size 1 hx (exL q.whr wp wc) _ (fun j v hv => by rw [hV.1.cell]; exact hw7 j v hv) Tryz.underlying26 rfl size_exU h
 have h34 : I3 = I4 := by rw [← hI4, whW, if_pos hwh, List.append_nil]
 have h45 : I4 = J := by rw [← hJ, gqW, if_neg (by omega), List.append_nil]
 have hcl2 : ∀ V, Qbx w w.heap.size QC V → V.cell? ⟨w.heap.size, 0, none⟩ = some (.string q.frm) ∧ V.cell? ⟨w.heap.size, 8, none⟩ = some (.slice cp NC cc) ∧ V.cell? ⟨w.heap.size, 9, none⟩ = some (.slice np NN nc) ∧ V.cell? ⟨w.heap.size, 13, none⟩ = some (.slice ap NA ac) ∧ w.heap.size < V.heap.size := fun V hV => ⟨by rw [hV.1.cell]; exact h0, by rw [hV.1.cell]; exact h8, by rw [hV.1.cell]; exact h9, by rw [hV.1.cell]; exact h13, hV.1.lt⟩
 have HC := (show Aside _ from hcl2)
 have HX : Aside (Qbx w w.heap.size QC ((w.alloc (.cells QC 30)).alloc (.cells #[.pointer none, .slice none 0 0, .bool false] 93))) := X1
 have K1 : Aside (Keeps w.heap.size (w.heap.size + 1) ((w.alloc (.cells QC 30)).alloc (.cells #[.pointer none, .slice none 0 0, .bool false] 93)) ((w.alloc (.cells QC 30)).alloc (.cells #[.pointer none, .slice none 0 0, .bool false] 93))) := Keeps.refl _ _ _
 obtain ⟨QW, hQW⟩ : ∃ QW, wrQ q = QW := ⟨_, rfl⟩
 have HQW : Hid (wrQ q = QW) := hQW
 rw [hQW]
 have HEV := (show Aside _ from hldw)
 clear hQW hnm hgr hcl hB hI1 hI2 hI3 hI4 hJ hJw h0 h8 h9 h10 h11 h12 h13 hw7 hcl2 X1 Z1 b1 hNC hNN hNG hldw
 go_enter Tryz.func19, Tryz.ntmps19
 go_wp2_with fail
 refine c1.mono ?_
 rintro e w1 ⟨rfl, W1, KA⟩
 have X1 := HX.out.keeps hne KA.out
 have B1 : w.heap.size ≤ w1.heap.size := X1.2.size
 obtain ⟨d0, d8, d9, d13, dl⟩ := HC.out w1 X1
 have c2' := c2 w1 X1 W1.out
 clear c2
 go_wp2_with fail
 refine c2'.mono ?_
 rintro e w2 ⟨rfl, W2, KB⟩
 have X2 := X1.keeps hne KB.out
 have B2 : w.heap.size ≤ w2.heap.size := X2.2.size
 clear c2'
 obtain ⟨f0, -, -, f13, fl⟩ := HC.out w2 X2
 have c3' := c3 w2 _ rfl W2.out B2
 clear c1 d0 d8 d9 d13 dl
 go_wp2_with fail
 refine c3'.mono ?_
 rintro e w3 ⟨rfl, W3, KC⟩
 have X3 := X2.keeps hne KC.out
 have B3 : w.heap.size ≤ w3.heap.size := X3.2.size
 have cN' := cN w3 X3
 have hldA := fun {ops : Array Oper} {rest : List Oper} {op : Oper} {a : Act} {Q : Exit → Act → World → Prop} => HEV.out w3 X3 (ops := ops) (rest := rest) (op := op) (a := a) (Q := Q)
 clear c3 c3' cN f0 f13 fl
 go_wp2_with (refine hldA rfl _ rfl rfl ?_)
 refine cN'.mono ?_
 rintro e w4 ⟨rfl, b4⟩
 have X4 : Qbx w w.heap.size QC w4 := ⟨X3.1.on b4, X3.2.trans (b4.mono B3)⟩
 have W4 : WI w.heap.size (w.heap.size + 1) I3 w4 := W3.out.on b4
 have B4 : w.heap.size ≤ w4.heap.size := X4.2.size
 clear cN' hldA
 have X5 := X4
 have W5 : WI w.heap.size (w.heap.size + 1) I4 w4 := by rw [← h34]; exact W4
 obtain ⟨-, -, -, g13, gl⟩ := HC.out w4 X5
 have W6 := W5
 rw [h45] at W6
 have X6 := X5
 have WF := W6
 rw [← HJW.out] at WF
 rcases wrQ_end WF with ⟨wf, hnn⟩ | ⟨acc, wf, hnn⟩
 ·rw [HQW.out] at wf hnn
  obtain ⟨k2, -, kl⟩ := wf.cells
  have cS := Wbl.string w.heap.size (w.heap.size + 1) QW false w4 wf hnn
  clear wf hnn WF W6
  go_wp2_with fail
  refine cS.mono ?_
  rintro e w7 ⟨rfl, b7⟩
  have BF := X6.2.trans b7
  clear cS
  go_wp2
  go_ret
  exact ⟨rfl, BF⟩
 ·rw [HQW.out] at hnn
  obtain ⟨k2, -, kl⟩ := wf.cells
  have BF := X6.2
  subst hnn
  clear wf WF W6
  go_wp2
  go_ret
  exact ⟨rfl, BF⟩
theorem write_q (q : Qy) (QC : Array Value) (wp : Option Addr) (wc : Nat) (cp : Option Addr) (cc : Nat) (np : Option Addr) (nc : Nat) (gp : Option Addr) (gc : Nat) (ap : Option Addr) (ac : Nat) (w : World) (henv : TEnv w) (hL : QyL w QC q wp wc cp cc np nc gp gc ap ac) (hW : QyW q) :
  Calls Tryz.prog 19 #[.agg QC] w fun e w' => e = .returned (.string ⟨(wrQ q).toArray⟩) ∧ Below w.heap.size w w' := by
 cases hwh : noOp q.whr with
 | true =>
  by_cases h : 0 < q.aggs.length
  ·exact write_an q QC wp wc cp cc np nc gp gc ap ac w henv hL hW h hwh
  ·exact write_cn q QC wp wc cp cc np nc gp gc ap ac w henv hL hW (by omega) hwh
 | false =>
  by_cases h : 0 < q.aggs.length
  ·exact write_ay q QC wp wc cp cc np nc gp gc ap ac w henv hL hW h hwh
  ·exact write_cy q QC wp wc cp cc np nc gp gc ap ac w henv hL hW (by omega) hwh
end Go.Proofs.YtkbhmghdonomnaaGreatDoor
