/-
  Package query's writer: a group, as a whole.
-/
import Derived.Test.YtkbhmghdonomnaaGreatDoorZQbF
namespace Go.Proofs.YtkbhmghdonomnaaGreatDoor
open Go.RowKit Go.BigFrame
set_option linter.unusedVariables false
set_option linter.unusedSimpArgs false
theorem Gbx.drew {w0 W : World} {b pb qb : Nat} {QC : Array Value} (h : Gbx w0 b pb qb QC W) : Gbx w0 b pb qb QC W.drew := ⟨h.1, h.2.1, Below.drew h.2.2⟩
theorem drewB {W w1 : World} (h : Below W.drew.heap.size W.drew w1) : Below W.heap.size W w1 := Below.trans (Below.drew (Below.refl _ _)) h
theorem itoa_w (z : Int) (hz : inI z) (V : World) (henv : TEnv V) (pb : Nat) (v : Value) (hp : V.cell? ⟨pb, 0, none⟩ = some v) (hl : pb < V.heap.size) :
  Calls Tryz.prog 87 #[.int .i64 z] V fun e w' => e = .returned (.string ⟨(Lib.itoa z).toArray⟩) ∧ Below V.heap.size V w' ∧ w'.cell? ⟨pb, 0, none⟩ = some v ∧ pb < w'.heap.size ∧ pb ≠ w'.heap.size ∧ w'.heap.size ≠ pb := by
 refine (Tryz.strconv_Itoa z hz.1 hz.2 V henv.env.tab).mono fun e w' hh => ⟨hh.1, ?_⟩
 have hb : Below V.heap.size V w' := grow_below hh.2
 have hs := hb.size
 exact ⟨hb, by rw [hb.cell (p := ⟨pb, 0, none⟩) hl]; exact hp, by omega, by omega, by omega⟩
theorem itoa_small {n : Int} (hn : inI n) : (Lib.itoa n).length ≤ 90 := by
 have := Lib.itoa_length_le n hn.1 hn.2
 omega
theorem itoa_len {z : Int} (hz : inI z) : (⟨(Lib.itoa z).toArray⟩ : ByteArray).size ≤ 1048576 := by
 have := itoa_small hz
 rw [size_arr]
 omega
set_option maxHeartbeats 16000000 in
set_option maxRecDepth 20000 in
theorem group_w (q : Qy) (gp : Option Addr) (gc NG : Nat) (w0 : World) (b : Nat) (QC : Array Value) (hs14 : QC.size = 14) (hNG : q.group.length = NG) (h10 : QC[10]? = some (.slice gp NG gc)) (h11 : QC[11]? = some (.int .i64 q.size)) (h12 : QC[12]? = some (.int .i64 q.slide)) (hgr : StsA w0 (.slice gp NG gc) q.group) (hW : QyW q) (henv : TEnv w0)
  (I J : List UInt8) (hJ : I ++ grW q.group q.size q.slide = J) (w : World) (hbl : Below w0.heap.size w0 w) (hI : WI w0.heap.size b I w) :
  Calls Tryz.prog 48 #[.pointer (some ⟨b, 0, none⟩), .agg QC] w fun e w' => e = .returned (.tuple #[]) ∧ Aside (WI w0.heap.size b J w') ∧ Aside (Keeps w0.heap.size b w w') := by
 have hB : w0.heap.size ≤ w.heap.size := hbl.size
 have hlb := hI.lt
 have hNG2 : NG ≤ 1048576 := by obtain ⟨_, _, e, ⟨_, h⟩, _⟩ := hgr; injection e with _ e2 _; omega
 have bA : Below w.heap.size w ((w.alloc (.cells #[.pointer (some ⟨b, 0, none⟩)] 147)).alloc (.cells QC 30)) := (al w _).alloc (by simp) _
 have KA : Keeps w0.heap.size b w ((w.alloc (.cells #[.pointer (some ⟨b, 0, none⟩)] 147)).alloc (.cells QC 30)) := keeps_below bA hB
 have GA : Gbx w0 b w.heap.size (w.heap.size + 1) QC ((w.alloc (.cells #[.pointer (some ⟨b, 0, none⟩)] 147)).alloc (.cells QC 30)) := ⟨(blk_alloc w _ _).on (al _ _), by
  have := blk_alloc (w.alloc (.cells #[.pointer (some ⟨b, 0, none⟩)] 147)) QC 30
  rwa [show (w.alloc (.cells #[.pointer (some ⟨b, 0, none⟩)] 147)).heap.size = w.heap.size + 1 by simp] at this, hbl.trans (bA.mono hB)⟩
 have c1 := put1_q ⟨#[32, 103, 114, 111, 117, 112, 32, 98, 121, 32]⟩ [32, 103, 114, 111, 117, 112, 32, 98, 121, 32] rfl w0.heap.size b (w.heap.size + 2) I _ rfl _ (by simp) (hI.on bA) (by simp; omega) (by decide)
 obtain ⟨I1, hI1⟩ : ∃ I1, I ++ [32, 103, 114, 111, 117, 112, 32, 98, 121, 32] = I1 := ⟨_, rfl⟩
 rw [hI1] at c1
 obtain ⟨I2, hI2⟩ : ∃ I2, I1 ++ inter [44, 32] (q.group.map fun n => n.data.toList) = I2 := ⟨_, rfl⟩
 have c2 := fun (V : World) (hV : Gbx w0 b w.heap.size (w.heap.size + 1) QC V) (hw : WI w0.heap.size b I1 V) => several_w 86 #[.pointer (some ⟨w.heap.size, 0, none⟩), .pointer (some ⟨w.heap.size + 1, 0, none⟩)] ent_g1 w0.heap.size b NG (q.group.map fun n => n.data.toList) (by simpa using hNG) hNG2 (Gbx w0 b w.heap.size (w.heap.size + 1) QC) (fun W W' h k => h.keeps (by omega) (by omega) k) (partG_w q gp gc NG w0 b w.heap.size (w.heap.size + 1) QC hNG h10 hgr hW) I1 I2 hI2 V hw hV.2.2.size hV
 obtain ⟨ZT, hZT⟩ : ∃ ZT : ByteArray, (⟨(Lib.itoa q.size).toArray⟩ : ByteArray) = ZT := ⟨_, rfl⟩
 obtain ⟨ST, hST⟩ : ∃ ST : ByteArray, (⟨(Lib.itoa q.slide).toArray⟩ : ByteArray) = ST := ⟨_, rfl⟩
 obtain ⟨I3, hI3⟩ : ∃ I3, I2 ++ ([32, 119, 105, 110, 100, 111, 119, 32] ++ ZT.data.toList) = I3 := ⟨_, rfl⟩
 have cI := fun (V : World) (hV : Gbx w0 b w.heap.size (w.heap.size + 1) QC V) => itoa_w q.size hW.z V (henv.on hV.2.2) w.heap.size (.pointer (some ⟨b, 0, none⟩)) (hV.1.cell 0) hV.1.lt
 have cS := fun (V : World) (hV : Gbx w0 b w.heap.size (w.heap.size + 1) QC V) => itoa_w q.slide hW.s V (henv.on hV.2.2) w.heap.size (.pointer (some ⟨b, 0, none⟩)) (hV.1.cell 0) hV.1.lt
 rw [hZT] at cI
 rw [hST] at cS
 have cP := fun (V : World) (g : Nat) (hg : g = V.heap.size) (hw : WI w0.heap.size b I2 V) (hB2 : w0.heap.size ≤ V.heap.size) => put2_q ⟨#[32, 119, 105, 110, 100, 111, 119, 32]⟩ ZT w0.heap.size b g I2 I3 hI3 V hg hw hB2 (by decide) (by rw [← hZT]; exact itoa_len hW.z)
 have cR := fun (V : World) (g : Nat) (J1 : List UInt8) (hJ1 : I3 ++ ([32, 115, 108, 105, 100, 101, 32] ++ ST.data.toList) = J1) (hg : g = V.heap.size) (hw : WI w0.heap.size b I3 V) (hB2 : w0.heap.size ≤ V.heap.size) => put2_q ⟨#[32, 115, 108, 105, 100, 101, 32]⟩ ST w0.heap.size b g I3 J1 hJ1 V hg hw hB2 (by decide) (by rw [← hST]; exact itoa_len hW.s)
 have HJ : Hid (J = if q.slide = q.size then I3 else I3 ++ ([32, 115, 108, 105, 100, 101, 32] ++ ST.data.toList)) := by
  show _ = _
  have e1 : ZT.data.toList = Lib.itoa q.size := by rw [← hZT]
  have e2 : ST.data.toList = Lib.itoa q.slide := by rw [← hST]
  rw [← hJ, grW, slW, ← hI3, ← hI2, ← hI1, e1, e2]
  split <;> simp
 have hcl : ∀ V, Gbx w0 b w.heap.size (w.heap.size + 1) QC V → V.cell? ⟨w.heap.size, 0, none⟩ = some (.pointer (some ⟨b, 0, none⟩)) ∧ V.cell? ⟨w.heap.size + 1, 10, none⟩ = some (.slice gp NG gc) ∧ V.cell? ⟨w.heap.size + 1, 11, none⟩ = some (.int .i64 q.size) ∧ V.cell? ⟨w.heap.size + 1, 12, none⟩ = some (.int .i64 q.slide) ∧ w.heap.size < V.heap.size ∧ w.heap.size + 1 < V.heap.size := fun V hV => ⟨hV.1.cell 0, by rw [hV.2.1.cell]; exact h10, by rw [hV.2.1.cell]; exact h11, by rw [hV.2.1.cell]; exact h12, hV.1.lt, hV.2.1.lt⟩
 have HC := (show Aside _ from hcl)
 have HG : Aside (Gbx w0 b w.heap.size (w.heap.size + 1) QC ((w.alloc (.cells #[.pointer (some ⟨b, 0, none⟩)] 147)).alloc (.cells QC 30))) := GA
 have hne1 : w.heap.size ≠ b := by omega
 have hne2 : w.heap.size + 1 ≠ b := by omega
 generalize q.size = Z at *
 generalize q.slide = SL at *
 clear hgr hW henv hJ hI hI1 hI2 hI3 hZT hST h10 h11 h12 hcl GA hbl
 go_enter Tryz.func48, Tryz.ntmps48
 go_wp2_with fail
 refine c1.mono ?_
 rintro e w1 ⟨rfl, W1, K1⟩
 have G1 := HG.out.keeps hne1 hne2 K1.out
 have K1' := KA.trans K1.out
 obtain ⟨p1, t1, -, -, l1, m1⟩ := HC.out w1 G1
 have c2' := c2 w1 G1 W1.out
 have HG1 : Aside (Gbx w0 b w.heap.size (w.heap.size + 1) QC w1) := G1
 clear c1 c2 G1 HG KA bA
 go_wp2_with fail
 refine c2'.mono ?_
 rintro e w2 ⟨rfl, W2, K2⟩
 have G2 := HG1.out.keeps hne1 hne2 K2.out
 have K2' : Aside (Keeps w0.heap.size b w w2) := K1'.trans K2.out
 obtain ⟨p2, -, z2, s2, l2, m2⟩ := HC.out w2 G2
 have HG2 : Aside (Gbx w0 b w.heap.size (w.heap.size + 1) QC w2) := G2
 have hB2 : w0.heap.size ≤ w2.heap.size := G2.2.2.size
 clear c2' p1 t1 l1 m1 HG1 G2 K1' W1 K1 K2
 have cI2 := cI w2.drew HG2.out.drew
 clear cI
 go_wp2
 go_region_with (first
  | (go_at_call 87; refine cI2.mono ?_; rintro e' w3 ⟨rfl, b3, q3, l3, n3, n3'⟩)
  | (go_at_call 40; refine (cP w3 _ rfl (W2.out.on (drewB b3)) (Nat.le_trans hB2 (drewB b3).size)).mono ?_; rintro e' w4 ⟨rfl, W4, K4⟩))
 all_goals
  have G4 := (HG2.out.keeps hne1 hne2 (keeps_below (drewB b3) hB2)).keeps hne1 hne2 K4.out
  have K4' : Aside (Keeps w0.heap.size b w w4) := K2'.out.trans ((keeps_below (drewB b3) hB2).trans K4.out)
  obtain ⟨p4, -, z4, s4, l4, m4⟩ := HC.out w4 G4
  have HG4 : Aside (Gbx w0 b w.heap.size (w.heap.size + 1) QC w4) := G4
  have hB4 : w0.heap.size ≤ w4.heap.size := G4.2.2.size
  clear cI2 cP p2 z2 s2 l2 m2 G4 HG2 W2 K2' K4 b3 q3
  by_cases hd : SL = Z
  ·have hdb : (SL != Z) = false := by simpa using hd
   have W5 : Aside (WI w0.heap.size b J w4) := by rw [HJ.out, if_pos hd]; exact W4
   clear hd HJ
   go_wp2
   go_end0
   exact ⟨rfl, W5, K4'⟩
  ·have hdb : (SL != Z) = true := by simpa using hd
   have HJ2 : Hid (I3 ++ ([32, 115, 108, 105, 100, 101, 32] ++ ST.data.toList) = J) := by show _ = _; rw [HJ.out, if_neg hd]
   have cS2 := cS w4.drew HG4.out.drew
   clear hd HJ cS
   go_wp2
   go_region_with (first
    | (go_at_call 87; refine cS2.mono ?_; rintro e' w5 ⟨rfl, b5, q5, l5, n5, n5'⟩)
    | (go_at_call 40; refine (cR w5 _ J HJ2.out rfl (W4.out.on (drewB b5)) (Nat.le_trans hB4 (drewB b5).size)).mono ?_; rintro e' w6 ⟨rfl, W6, K6⟩))
   all_goals
    have K7 : Aside (Keeps w0.heap.size b w w6) := K4'.out.trans ((keeps_below (drewB b5) hB4).trans K6.out)
    go_wp2
    go_end0
    exact ⟨rfl, W6, K7⟩
end Go.Proofs.YtkbhmghdonomnaaGreatDoor
