/-
  Package query's writer: a group.
-/
import Derived.Test.YtkbhmghdonomnaaGreatDoorZQbE
namespace Go.Proofs.YtkbhmghdonomnaaGreatDoor
open Go.RowKit Go.BigFrame
set_option linter.unusedVariables false
set_option linter.unusedSimpArgs false
def Gbx (w0 : World) (b pb qb : Nat) (QC : Array Value) (W : World) : Prop := Blk W pb #[.pointer (some ⟨b, 0, none⟩)] 147 ∧ Qbx w0 qb QC W
theorem Gbx.keeps {w0 W W' : World} {qb pb b : Nat} {QC : Array Value} (h : Gbx w0 b pb qb QC W) (hp : pb ≠ b) (hq : qb ≠ b) (hk : Keeps w0.heap.size b W W') : Gbx w0 b pb qb QC W' := ⟨h.1.keeps hk hp (by decide), h.2.keeps hq hk⟩
theorem drewK {B b : Nat} {W w1 : World} (h : Keeps B b W.drew w1) : Keeps B b W w1 := ⟨Below.trans (Below.drew (Below.refl _ _)) h.1, h.2⟩
set_option maxHeartbeats 8000000 in
set_option maxRecDepth 20000 in
theorem partG_w (q : Qy) (gp : Option Addr) (gc NG : Nat) (w0 : World) (b pb qb : Nat) (QC : Array Value) (hNG : q.group.length = NG) (h10 : QC[10]? = some (.slice gp NG gc)) (hgr : StsA w0 (.slice gp NG gc) q.group) (hW : QyW q)
  (i : Nat) (hi : i < (q.group.map fun n => n.data.toList).length) (I : List UInt8) (W : World) (hG : Gbx w0 b pb qb QC W) (hI : WI w0.heap.size b I W) (hB : w0.heap.size ≤ W.heap.size) :
  Calls Tryz.prog 86 (#[.int .i64 (i : Int)] ++ #[.pointer (some ⟨pb, 0, none⟩), .pointer (some ⟨qb, 0, none⟩)]) W fun e w' => e = .returned (.tuple #[]) ∧ Aside (WI w0.heap.size b (I ++ (q.group.map fun n => n.data.toList)[i]) w') ∧ Aside (Keeps w0.heap.size b W w') := by
 have hi2 : i < q.group.length := by simpa using hi
 have hl6 : (q.group.map fun n => n.data.toList)[i] = q.group[i].data.toList := by simp
 rw [hl6]
 have hiz : (i : Int) < (NG : Int) := by omega
 have h0z : (0 : Int) ≤ (i : Int) := by omega
 have kp : W.cell? ⟨pb, 0, none⟩ = some (.pointer (some ⟨b, 0, none⟩)) := hG.1.cell 0
 have lp := hG.1.lt
 have k10 : W.cell? ⟨qb, 10, none⟩ = some (.slice gp NG gc) := by rw [hG.2.1.cell]; exact h10
 have lq := hG.2.1.lt
 obtain ⟨b2, o2, rfl, l2, h2⟩ := sts_some hgr hi2
 have en : W.cell? ⟨b2, o2 + i, none⟩ = some (.string q.group[i]) := by rw [hG.2.2.cell (p := ⟨b2, _, none⟩) l2]; exact h2 i hi2
 have hb2 : b2 < W.heap.size := by have := hG.2.2.size; omega
 have cA := fun (V : World) (g : Nat) (hg : g = V.heap.size) (hV : Below W.heap.size W V) => put1_q q.group[i] _ rfl w0.heap.size b g I _ rfl V hg (hI.on hV) (Nat.le_trans hB hV.size) (hW.g _ (List.getElem_mem hi2))
 have np : ∀ k, pb ≠ W.heap.size + k := fun k => by omega
 have np0 : pb ≠ W.heap.size := by omega
 have np0' : W.heap.size ≠ pb := by omega
 have HB : Hid (w0.heap.size ≤ W.heap.size) := hB
 clear hgr hW hI hG h10 h2 hi hl6
 generalize I ++ q.group[i].data.toList = J at cA ⊢
 generalize q.group[i] = S at cA en
 simp only [List.append_toArray, List.cons_append, List.nil_append]
 go_enter Tryz.func86, Tryz.ntmps86
 go_wp2
 go_region_with (go_at_call 40; refine (cA W.drew _ rfl (Below.drew (Below.refl _ _))).mono ?_; rintro e' w1 ⟨rfl, W1, K1⟩)
 all_goals
  go_wp2
  go_end0
  exact ⟨rfl, W1, (show Aside _ from drewK K1.out)⟩
end Go.Proofs.YtkbhmghdonomnaaGreatDoor
