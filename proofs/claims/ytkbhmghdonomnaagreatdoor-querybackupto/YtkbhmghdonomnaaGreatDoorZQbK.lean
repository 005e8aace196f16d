/-
  Package query: same, Print. (Written by wip/gen_qbk.py.)
-/
import Derived.Test.YtkbhmghdonomnaaGreatDoorZQbH
import Derived.Test.YtkbhmghdonomnaaGreatDoorZQbJ
import Derived.Test.YtkbhmghdonomnaaGreatDoorGzAy
namespace Go.Proofs.YtkbhmghdonomnaaGreatDoor
open Go.RowKit Go.BigFrame
set_option linter.unusedVariables false
set_option linter.unusedSimpArgs false

/-- What is asked of two queries that are held against each other. -/
structure QyZ (a : Qy) : Prop where
  w : a.whr.size ≤ 1048576
  c : ∀ x ∈ a.cols, x.size ≤ 1048576
  g : ∀ x ∈ a.aggs, x.arg.size ≤ 1048576
set_option maxHeartbeats 16000000 in
set_option maxRecDepth 20000 in
theorem same_q (a c : Qy) (QA QB : Array Value) (wpA : Option Addr) (wcA : Nat) (cpA : Option Addr) (ccA : Nat) (npA : Option Addr) (ncA : Nat) (gpA : Option Addr) (gcA : Nat) (apA : Option Addr) (acA : Nat) (wpB : Option Addr) (wcB : Nat) (cpB : Option Addr) (ccB : Nat) (npB : Option Addr) (ncB : Nat) (gpB : Option Addr) (gcB : Nat) (apB : Option Addr) (acB : Nat) (w : World) (hA : QyL w QA a wpA wcA cpA ccA npA ncA gpA gcA apA acA) (hC : QyL w QB c wpB wcB cpB ccB npB ncB gpB gcB apB acB) (hz : QyZ a) :
    Calls Tryz.prog 20 #[.agg QA, .agg QB] w fun e w' => e = .returned (.bool (sameQ a c)) ∧ Below w.heap.size w w' := by
  obtain ⟨R, hR⟩ : ∃ R, sameQ a c = R := ⟨_, rfl⟩
  rw [hR]
  rw [sameQ, ← str_dec, ← eqS_dec, ← eqS_dec] at hR
  have hsz : decide (a.size = c.size) = (a.size == c.size) := by by_cases h : a.size = c.size <;> simp [h]
  have hsl : decide (a.slide = c.slide) = (a.slide == c.slide) := by by_cases h : a.slide = c.slide <;> simp [h]
  rw [hsz, hsl] at hR
  have HR := (show Hid _ from hR)
  obtain ⟨⟨-, a8, a9, a10, a11, a12, a13⟩, a0, a7, aB⟩ := hA
  obtain ⟨⟨-, c8, c9, c10, c11, c12, c13⟩, c0, c7, cB⟩ := hC
  have b0 : Below w.heap.size w ((w.alloc (.cells QA 30)).alloc (.cells QB 30)) := (al w _).alloc (by simp) _
  have XA : Blk ((w.alloc (.cells QA 30)).alloc (.cells QB 30)) w.heap.size QA 30 := (blk_alloc w _ _).on (al _ _)
  have XB : Blk ((w.alloc (.cells QA 30)).alloc (.cells QB 30)) (w.heap.size + 1) QB 30 := by
    have := blk_alloc (w.alloc (.cells QA 30)) QB 30
    rwa [show (w.alloc (.cells QA 30)).heap.size = w.heap.size + 1 by simp] at this
  have cW := fun (V : World) (hV : Below w.heap.size w V) => treeSame_any a.whr c.whr (fun _ => True) (exV a.whr wpA wcA) (exV c.whr wpB wcB) V (aB.whr.on hV) (cB.whr.on hV) hz.w
  have cC := fun (V : World) (hV : Below w.heap.size w V) => equalE_q a.cols c.cols cpA ccA cpB ccB V (aB.cols.onB hV) (cB.cols.onB hV) aB.clen hz.c
  have cN := fun (V : World) (hV : Below w.heap.size w V) => equalS_q a.names c.names _ _ V (aB.names.on hV) (cB.names.on hV)
  have cG := fun (V : World) (hV : Below w.heap.size w V) => equalS_q a.group c.group _ _ V (aB.group.on hV) (cB.group.on hV)
  have cA := fun (V : World) (hV : Below w.heap.size w V) => equalA_q a.aggs c.aggs apA acA apB acB V (aB.aggs.on hV) (cB.aggs.on hV) aB.aggs.1 hz.g
  have hcl : ∀ V, Below ((w.alloc (.cells QA 30)).alloc (.cells QB 30)).heap.size ((w.alloc (.cells QA 30)).alloc (.cells QB 30)) V → Blk V w.heap.size QA 30 ∧ Blk V (w.heap.size + 1) QB 30 ∧ Below w.heap.size w V := fun V hV => ⟨XA.on hV, XB.on hV, b0.trans (hV.mono b0.size)⟩
  have hldA : ∀ {ops : Array Oper} {rest : List Oper} {op : Oper} {ac : Act} {Q : Exit → Act → World → Prop} (gv : Option Nat → Prop) (x : Operand), True := fun _ _ => trivial
  clear hldA
  have hrA : ((w.alloc (.cells QA 30)).alloc (.cells QB 30)).rangeAt w.heap.size 1 (exL a.whr wpA wcA) := fun j v hv => by rw [XA.cell]; exact a7 j v hv
  have hrB : ((w.alloc (.cells QA 30)).alloc (.cells QB 30)).rangeAt (w.heap.size + 1) 1 (exL c.whr wpB wcB) := fun j v hv => by rw [XB.cell]; exact c7 j v hv
  have aw0 : ((w.alloc (.cells QA 30)).alloc (.cells QB 30)).cell? ⟨w.heap.size, 1, none⟩ = some (.string a.whr.op) := hrA 0 _ rfl
  have aw1 : ((w.alloc (.cells QA 30)).alloc (.cells QB 30)).cell? ⟨w.heap.size, 2, none⟩ = some (.string a.whr.nm) := hrA 1 _ rfl
  have aw2 : ((w.alloc (.cells QA 30)).alloc (.cells QB 30)).cell? ⟨w.heap.size, 3, none⟩ = some (.int .i64 a.whr.vt) := hrA 2 _ rfl
  have aw3 : ((w.alloc (.cells QA 30)).alloc (.cells QB 30)).cell? ⟨w.heap.size, 4, none⟩ = some (.int .i64 a.whr.vn) := hrA 3 _ rfl
  have aw4 : ((w.alloc (.cells QA 30)).alloc (.cells QB 30)).cell? ⟨w.heap.size, 5, none⟩ = some (.string a.whr.vs) := hrA 4 _ rfl
  have aw5 : ((w.alloc (.cells QA 30)).alloc (.cells QB 30)).cell? ⟨w.heap.size, 6, none⟩ = some (.slice wpA a.whr.args.length wcA) := hrA 5 _ rfl
  have aw6 : ((w.alloc (.cells QA 30)).alloc (.cells QB 30)).cell? ⟨w.heap.size, 7, none⟩ = some (.int .i64 a.whr.pos) := hrA 6 _ rfl
  have cw0 : ((w.alloc (.cells QA 30)).alloc (.cells QB 30)).cell? ⟨w.heap.size + 1, 1, none⟩ = some (.string c.whr.op) := hrB 0 _ rfl
  have cw1 : ((w.alloc (.cells QA 30)).alloc (.cells QB 30)).cell? ⟨w.heap.size + 1, 2, none⟩ = some (.string c.whr.nm) := hrB 1 _ rfl
  have cw2 : ((w.alloc (.cells QA 30)).alloc (.cells QB 30)).cell? ⟨w.heap.size + 1, 3, none⟩ = some (.int .i64 c.whr.vt) := hrB 2 _ rfl
  have cw3 : ((w.alloc (.cells QA 30)).alloc (.cells QB 30)).cell? ⟨w.heap.size + 1, 4, none⟩ = some (.int .i64 c.whr.vn) := hrB 3 _ rfl
  have cw4 : ((w.alloc (.cells QA 30)).alloc (.cells QB 30)).cell? ⟨w.heap.size + 1, 5, none⟩ = some (.string c.whr.vs) := hrB 4 _ rfl
  have cw5 : ((w.alloc (.cells QA 30)).alloc (.cells QB 30)).cell? ⟨w.heap.size + 1, 6, none⟩ = some (.slice wpB c.whr.args.length wcB) := hrB 5 _ rfl
  have cw6 : ((w.alloc (.cells QA 30)).alloc (.cells QB 30)).cell? ⟨w.heap.size + 1, 7, none⟩ = some (.int .i64 c.whr.pos) := hrB 6 _ rfl
  have z0 : ((w.alloc (.cells QA 30)).alloc (.cells QB 30)).cell? ⟨w.heap.size, 0, none⟩ = some (.string a.frm) := by rw [XA.cell]; exact a0
  have y0 : ((w.alloc (.cells QA 30)).alloc (.cells QB 30)).cell? ⟨w.heap.size + 1, 0, none⟩ = some (.string c.frm) := by rw [XB.cell]; exact c0
  have HCL := (show Aside _ from hcl)
  have HQ : Aside (QA[8]? = some (.slice cpA a.cols.length ccA) ∧ QA[9]? = some (.slice npA a.names.length ncA) ∧ QA[10]? = some (.slice gpA a.group.length gcA) ∧ QA[11]? = some (.int .i64 a.size) ∧ QA[12]? = some (.int .i64 a.slide) ∧ QA[13]? = some (.slice apA a.aggs.length acA)) := ⟨a8, a9, a10, a11, a12, a13⟩
  have HP : Aside (QB[8]? = some (.slice cpB c.cols.length ccB) ∧ QB[9]? = some (.slice npB c.names.length ncB) ∧ QB[10]? = some (.slice gpB c.group.length gcB) ∧ QB[11]? = some (.int .i64 c.size) ∧ QB[12]? = some (.int .i64 c.slide) ∧ QB[13]? = some (.slice apB c.aggs.length acB)) := ⟨c8, c9, c10, c11, c12, c13⟩
  have cW1 := cW _ b0
  simp only [exV] at cW1
  generalize sameE false a.whr c.whr = S1 at cW1 HR
  generalize sameL false a.cols c.cols = S2 at cC HR
  generalize eqS a.names c.names = S3 at cN HR
  generalize eqS a.group c.group = S4 at cG HR
  generalize samesA a.aggs c.aggs = S7 at cA HR
  generalize a.whr.args.length = LA at *
  generalize c.whr.args.length = LB at *
  generalize a.cols.length = CA at *
  generalize c.cols.length = CB at *
  generalize a.names.length = NA at *
  generalize c.names.length = NB at *
  generalize a.group.length = GA at *
  generalize c.group.length = GB at *
  generalize a.aggs.length = AA at *
  generalize c.aggs.length = AB at *
  generalize a.frm = FA at *
  generalize c.frm = FB at *
  generalize a.size = ZA at *
  generalize c.size = ZB at *
  generalize a.slide = LSA at *
  generalize c.slide = LSB at *
  clear hz aB cB hcl XA XB hrA hrB a0 c0 a7 c7 a8 a9 a10 a11 a12 a13 c8 c9 c10 c11 c12 c13 cW hR hsz hsl
  cases q0 : (FA.toList == FB.toList)
  · have hR : R = false := by rw [← HR.out, q0]; rfl
    subst hR
    clear HR cW1 cC cN cG cA
    go_enter Tryz.func20, Tryz.ntmps20
    go_wp2
    go_ret
    exact ⟨rfl, b0⟩
  go_enter Tryz.func20, Tryz.ntmps20
  go_wp2_with fail
  refine cW1.mono ?_
  rintro e w1 ⟨rfl, d1⟩
  obtain ⟨P1, P2, P3⟩ := HCL.out w1 d1
  have D1 : Aside (Below ((w.alloc (.cells QA 30)).alloc (.cells QB 30)).heap.size ((w.alloc (.cells QA 30)).alloc (.cells QB 30)) w1) := d1
  have l1 := P1.lt
  have l2 := P2.lt
  have u1 : w1.cell? ⟨w.heap.size, 8, none⟩ = some (.slice cpA CA ccA) := by rw [P1.cell]; exact HQ.out.1
  have u2 : w1.cell? ⟨w.heap.size + 1, 8, none⟩ = some (.slice cpB CB ccB) := by rw [P2.cell]; exact HP.out.1
  have cC1 := cC w1 P3
  clear cW1 cC d1 P1 P2 aw0 aw1 aw2 aw3 aw4 aw5 aw6 cw0 cw1 cw2 cw3 cw4 cw5 cw6 z0 y0
  cases S1
  · have hR : R = false := by rw [← HR.out, q0]; rfl
    subst hR
    clear HR
    go_wp2
    go_ret
    exact ⟨rfl, P3⟩
  go_wp2_with fail
  refine cC1.mono ?_
  rintro e w2 ⟨rfl, d2⟩
  have D2 : Aside (Below ((w.alloc (.cells QA 30)).alloc (.cells QB 30)).heap.size ((w.alloc (.cells QA 30)).alloc (.cells QB 30)) w2) := D1.out.trans (d2.mono D1.out.size)
  obtain ⟨P1, P2, P3⟩ := HCL.out w2 D2.out
  have l1 := P1.lt
  have l2 := P2.lt
  have v1 : w2.cell? ⟨w.heap.size, 9, none⟩ = some (.slice npA NA ncA) := by rw [P1.cell]; exact HQ.out.2.1
  have v2 : w2.cell? ⟨w.heap.size + 1, 9, none⟩ = some (.slice npB NB ncB) := by rw [P2.cell]; exact HP.out.2.1
  have cN1 := cN w2 P3
  clear cC1 d2 P1 P2 cN u1 u2
  cases S2
  · have hR : R = false := by rw [← HR.out, q0]; rfl
    subst hR
    clear HR
    go_wp2
    go_ret
    exact ⟨rfl, P3⟩
  go_wp2_with fail
  refine cN1.mono ?_
  rintro e w3 ⟨rfl, d3⟩
  have D3 : Aside (Below ((w.alloc (.cells QA 30)).alloc (.cells QB 30)).heap.size ((w.alloc (.cells QA 30)).alloc (.cells QB 30)) w3) := D2.out.trans (d3.mono D2.out.size)
  obtain ⟨P1, P2, P3⟩ := HCL.out w3 D3.out
  have l1 := P1.lt
  have l2 := P2.lt
  have u1 : w3.cell? ⟨w.heap.size, 10, none⟩ = some (.slice gpA GA gcA) := by rw [P1.cell]; exact HQ.out.2.2.1
  have u2 : w3.cell? ⟨w.heap.size + 1, 10, none⟩ = some (.slice gpB GB gcB) := by rw [P2.cell]; exact HP.out.2.2.1
  have cG1 := cG w3 P3
  clear cN1 d3 P1 P2 cG v1 v2
  cases S3
  · have hR : R = false := by rw [← HR.out, q0]; rfl
    subst hR
    clear HR
    go_wp2
    go_ret
    exact ⟨rfl, P3⟩
  go_wp2_with fail
  refine cG1.mono ?_
  rintro e w4 ⟨rfl, d4⟩
  have D4 : Aside (Below ((w.alloc (.cells QA 30)).alloc (.cells QB 30)).heap.size ((w.alloc (.cells QA 30)).alloc (.cells QB 30)) w4) := D3.out.trans (d4.mono D3.out.size)
  obtain ⟨P1, P2, P3⟩ := HCL.out w4 D4.out
  have l1 := P1.lt
  have l2 := P2.lt
  have v1 : w4.cell? ⟨w.heap.size, 11, none⟩ = some (.int .i64 ZA) := by rw [P1.cell]; exact HQ.out.2.2.2.1
  have v2 : w4.cell? ⟨w.heap.size + 1, 11, none⟩ = some (.int .i64 ZB) := by rw [P2.cell]; exact HP.out.2.2.2.1
  have v3 : w4.cell? ⟨w.heap.size, 12, none⟩ = some (.int .i64 LSA) := by rw [P1.cell]; exact HQ.out.2.2.2.2.1
  have v4 : w4.cell? ⟨w.heap.size + 1, 12, none⟩ = some (.int .i64 LSB) := by rw [P2.cell]; exact HP.out.2.2.2.2.1
  have v5 : w4.cell? ⟨w.heap.size, 13, none⟩ = some (.slice apA AA acA) := by rw [P1.cell]; exact HQ.out.2.2.2.2.2
  have v6 : w4.cell? ⟨w.heap.size + 1, 13, none⟩ = some (.slice apB AB acB) := by rw [P2.cell]; exact HP.out.2.2.2.2.2
  have cA1 := cA w4 P3
  clear cG1 d4 P1 P2 cA u1 u2
  cases S4
  · have hR : R = false := by rw [← HR.out, q0]; rfl
    subst hR
    clear HR
    go_wp2
    go_ret
    exact ⟨rfl, P3⟩
  cases q5 : (ZA == ZB)
  · have hR : R = false := by rw [← HR.out, q0, q5]; rfl
    subst hR
    clear HR
    go_wp2
    go_ret
    exact ⟨rfl, P3⟩
  cases q6 : (LSA == LSB)
  · have hR : R = false := by rw [← HR.out, q0, q5, q6]; rfl
    subst hR
    clear HR
    go_wp2
    go_ret
    exact ⟨rfl, P3⟩
  go_wp2_with fail
  refine cA1.mono ?_
  rintro e w5 ⟨rfl, d5⟩
  have P5 := P3.trans (d5.mono P3.size)
  have hR : R = S7 := by rw [← HR.out, q0, q5, q6]; cases S7 <;> rfl
  subst hR
  clear cA1 d5 HR
  go_wp2
  go_ret
  exact ⟨rfl, P5⟩
end Go.Proofs.YtkbhmghdonomnaaGreatDoor
