/-
  Package query's writer: the parts of a query, each by its closure.
-/
import Derived.Test.YtkbhmghdonomnaaGreatDoorGzAu
import Derived.Test.YtkbhmghdonomnaaGreatDoorGzAq
import Derived.Deep.RegionWith
namespace Go.Proofs.YtkbhmghdonomnaaGreatDoor
open Go.RowKit Go.BigFrame
set_option linter.unusedVariables false
set_option linter.unusedSimpArgs false
theorem ent_w1 (args : Array Value) (W : World) : Sem.run Tryz.prog (callFunc 42 args) W = .ok (.enter 42 args) W := by kernel_rfl
theorem ent_w2 (args : Array Value) (W : World) : Sem.run Tryz.prog (callFunc 44 args) W = .ok (.enter 44 args) W := by kernel_rfl
theorem ent_g1 (args : Array Value) (W : World) : Sem.run Tryz.prog (callFunc 86 args) W = .ok (.enter 86 args) W := by kernel_rfl
structure QyW (q : Qy) : Prop where
 w : ExO q.whr
 c : ∀ x ∈ q.cols, ExO x
 a : ∀ a ∈ q.aggs, ExO a.arg ∧ a.what.size ≤ 1048576 ∧ a.name.size ≤ 1048576
 n : ∀ s ∈ q.names, s.size ≤ 1048576
 g : ∀ s ∈ q.group, s.size ≤ 1048576
 f : q.frm.size ≤ 1048576
 z : inI q.size
 s : inI q.slide
def Qbx (w0 : World) (qb : Nat) (QC : Array Value) (W : World) : Prop := Blk W qb QC 30 ∧ Below w0.heap.size w0 W
theorem Qbx.keeps {w0 W W' : World} {qb b : Nat} {QC : Array Value} (h : Qbx w0 qb QC W) (hne : qb ≠ b) (hk : Keeps w0.heap.size b W W') : Qbx w0 qb QC W' := ⟨h.1.keeps hk hne (by decide), h.2.trans hk.1⟩
set_option maxHeartbeats 4000000 in
set_option maxRecDepth 20000 in
theorem part1_w (q : Qy) (ap : Option Addr) (ac NA : Nat) (w0 : World) (b qb : Nat) (QC : Array Value) (hNA : q.aggs.length = NA) (h13 : QC[13]? = some (.slice ap NA ac)) (hag : AgsIs w0 (fun _ => True) ap q.aggs) (hW : QyW q) (henv : TEnv w0)
  (i : Nat) (hi : i < (q.aggs.map agW).length) (I : List UInt8) (W : World) (hQ : Qbx w0 qb QC W) (hI : WI w0.heap.size b I W) (hB : w0.heap.size ≤ W.heap.size) :
  Calls Tryz.prog 42 (#[.int .i64 (i : Int)] ++ #[.pointer (some ⟨b, 0, none⟩), .pointer (some ⟨qb, 0, none⟩)]) W fun e w' => e = .returned (.tuple #[]) ∧ Aside (WI w0.heap.size b (I ++ (q.aggs.map agW)[i]) w') ∧ Aside (Keeps w0.heap.size b W w') := by
 have hi2 : i < q.aggs.length := by simpa using hi
 have hiz : (i : Int) < (NA : Int) := by omega
 have h0z : (0 : Int) ≤ (i : Int) := by omega
 have k13 : W.cell? ⟨qb, 13, none⟩ = some (.slice ap NA ac) := by rw [hQ.1.cell]; exact h13
 have lq := hQ.1.lt
 have hl6 : (q.aggs.map agW)[i] = agW q.aggs[i] := by simp
 rw [hl6]
 obtain ⟨ba, oa, yp, yc, rfl, hbl, -, hrg, hx⟩ := agQ_at hag hi2
 have hrg2 := range_on hrg hbl hQ.2
 have hx2 : ExIn W (· < w0.heap.size) (exV q.aggs[i].arg yp yc) q.aggs[i].arg := (ExIn.low (fun b hb _ => hb) _ _ hx).on hQ.2
 obtain ⟨o1, o2, o3⟩ := hW.a _ (List.getElem_mem hi2)
 have cA := agg_w q.aggs[i] yp yc (· < w0.heap.size) w0.heap.size b I _ rfl W (henv.on hQ.2) hx2 o1 o2 o3 hI hB (fun k hk => hk) (fun V hV => henv.on (hQ.2.trans hV))
 have hbW : ba < W.heap.size := by omega
 clear hrg hx hx2 o1 o2 o3 hag hW henv hI hQ h13 hl6
 generalize I ++ agW q.aggs[i] = J at cA ⊢
 generalize q.aggs[i] = x at cA hrg2
 obtain ⟨what, ⟨op, nm, vt, vn, vs, pos, l⟩, name⟩ := x
 simp only [agVW, Ex.op, Ex.nm, Ex.vt, Ex.vn, Ex.vs, Ex.args, Ex.pos] at cA hrg2
 generalize l.length = NL at cA hrg2
 have hld : ∀ {ops : Array Oper} {rest : List Oper} {op' : Oper} {a : Act} {Q : Exit → Act → World → Prop} (hgd : op'.guard = none) (x : Operand) (ho : op'.op = .load 49 x) (hx : a.eval x = .pointer (some ⟨ba, oa + i * 9, none⟩)), wpList Tryz.prog ops Q rest (a.put op'.dst (.agg #[.string what, .string op, .string nm, .int .i64 vt, .int .i64 vn, .string vs, .slice yp NL yc, .int .i64 pos, .string name])) W → wpList Tryz.prog ops Q (op' :: rest) a W := fun hgd x ho hx => wpList_load_mid hgd 49 x ho ba (oa + i * 9) hx _ _ hrg2 Tryz.underlying49 rfl size_agU
 clear hrg2
 simp only [List.append_toArray, List.cons_append, List.nil_append]
 go_enter Tryz.func42, Tryz.ntmps42
 go_wp2_with (refine hld rfl _ rfl rfl ?_)
 refine cA.mono ?_
 rintro e w1 ⟨rfl, W1, K1⟩
 clear cA hld
 go_wp2
 go_end0
 exact ⟨rfl, W1, K1⟩
theorem zipW_at (q : Qy) {i : Nat} (h1 : i < q.cols.length) (h2 : i < q.names.length) (h : i < ((q.cols.zip q.names).map fun p => colW p.1 p.2).length) : ((q.cols.zip q.names).map fun p => colW p.1 p.2)[i] = colW q.cols[i] q.names[i] := by simp
set_option maxHeartbeats 8000000 in
set_option maxRecDepth 20000 in
theorem part2_w (q : Qy) (cp : Option Addr) (cc NC : Nat) (np : Option Addr) (nc NN : Nat) (w0 : World) (b qb : Nat) (QC : Array Value) (hNC : q.cols.length = NC) (hNN : q.names.length = NN) (h8 : QC[8]? = some (.slice cp NC cc)) (h9 : QC[9]? = some (.slice np NN nc)) (hcl : ArgsIs w0 (fun _ => True) (.slice cp NC cc) q.cols) (hnm : StsA w0 (.slice np NN nc) q.names) (hW : QyW q) (henv : TEnv w0)
  (i : Nat) (hi : i < ((q.cols.zip q.names).map fun p => colW p.1 p.2).length) (I : List UInt8) (W : World) (hQ : Qbx w0 qb QC W) (hI : WI w0.heap.size b I W) (hB : w0.heap.size ≤ W.heap.size) :
  Calls Tryz.prog 44 (#[.int .i64 (i : Int)] ++ #[.pointer (some ⟨b, 0, none⟩), .pointer (some ⟨qb, 0, none⟩)]) W fun e w' => e = .returned (.tuple #[]) ∧ Aside (WI w0.heap.size b (I ++ ((q.cols.zip q.names).map fun p => colW p.1 p.2)[i]) w') ∧ Aside (Keeps w0.heap.size b W w') := by
 have hi2 : i < q.cols.length ∧ i < q.names.length := by
  rw [List.length_map, List.length_zip] at hi
  omega
 rw [zipW_at q hi2.1 hi2.2 hi]
 have hiz : (i : Int) < (NC : Int) := by omega
 have hiy : (i : Int) < (NN : Int) := by omega
 have h0z : (0 : Int) ≤ (i : Int) := by omega
 have k8 : W.cell? ⟨qb, 8, none⟩ = some (.slice cp NC cc) := by rw [hQ.1.cell]; exact h8
 have k9 : W.cell? ⟨qb, 9, none⟩ = some (.slice np NN nc) := by rw [hQ.1.cell]; exact h9
 have lq := hQ.1.lt
 obtain ⟨ba, oa, yp, yc, rfl, hbl, -, hrg, hx⟩ := partQ_at hcl hi2.1
 obtain ⟨b2, o2, rfl, l2, h2⟩ := sts_some hnm hi2.2
 have hrg2 := range_on hrg hbl hQ.2
 have en : W.cell? ⟨b2, o2 + i, none⟩ = some (.string q.names[i]) := by rw [hQ.2.cell (p := ⟨b2, _, none⟩) l2]; exact h2 i hi2.2
 have cA := fun (V : World) (hV : Below W.heap.size W V) => col_w q.cols[i] q.names[i] yp yc (fun _ => True) w0.heap.size b I _ rfl V (henv.on (hQ.2.trans (hV.mono hQ.2.size))) ((hx.on hQ.2).on hV) (hW.c _ (List.getElem_mem hi2.1)) (hW.n _ (List.getElem_mem hi2.2)) (hI.on hV) (Nat.le_trans hB hV.size)
 have hbW : ba < W.heap.size := by have := hQ.2.size; omega
 have hb2 : b2 < W.heap.size := by have := hQ.2.size; omega
 have HB : Hid (w0.heap.size ≤ W.heap.size) := hB
 clear hrg hx hcl hnm hW henv hI hQ h8 h9 h2 hi
 generalize I ++ colW q.cols[i] q.names[i] = J at cA ⊢
 generalize q.names[i] = S at cA en
 generalize q.cols[i] = x at cA hrg2
 obtain ⟨op, nm, vt, vn, vs, pos, l⟩ := x
 simp only [exV, Ex.op, Ex.nm, Ex.vt, Ex.vn, Ex.vs, Ex.args, Ex.pos] at cA hrg2
 generalize l.length = NL at cA hrg2
 have r0 : W.cell? ⟨ba, oa + i * 7, none⟩ = some (.string op) := hrg2 0 _ rfl
 have r1 : W.cell? ⟨ba, oa + i * 7 + 1, none⟩ = some (.string nm) := hrg2 1 _ rfl
 have r2 : W.cell? ⟨ba, oa + i * 7 + 2, none⟩ = some (.int .i64 vt) := hrg2 2 _ rfl
 have r3 : W.cell? ⟨ba, oa + i * 7 + 3, none⟩ = some (.int .i64 vn) := hrg2 3 _ rfl
 have r4 : W.cell? ⟨ba, oa + i * 7 + 4, none⟩ = some (.string vs) := hrg2 4 _ rfl
 have r5 : W.cell? ⟨ba, oa + i * 7 + 5, none⟩ = some (.slice yp NL yc) := hrg2 5 _ rfl
 have r6 : W.cell? ⟨ba, oa + i * 7 + 6, none⟩ = some (.int .i64 pos) := hrg2 6 _ rfl
 clear hrg2
 simp only [List.append_toArray, List.cons_append, List.nil_append]
 go_enter Tryz.func44, Tryz.ntmps44
 go_wp2
 go_region_with (go_at_call 45; refine (cA _ (Below.drew (Below.refl _ _))).mono ?_; rintro e' w1 ⟨rfl, W1, K1⟩)
 all_goals
  go_wp2
  go_end0
  exact ⟨rfl, W1, ⟨Below.trans (Below.drew (Below.refl _ _)) K1.out.1, K1.out.2⟩⟩
end Go.Proofs.YtkbhmghdonomnaaGreatDoor
