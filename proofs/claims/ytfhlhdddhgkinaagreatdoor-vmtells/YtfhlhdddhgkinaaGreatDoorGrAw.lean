/-
  RefCk, RefTy, RefOf, RefRw, in one text.
-/
import Derived.Test.YtfhlhdddhgkinaaGreatDoorGrAv
import Derived.Test.YtfhlhdddhgkinaaGreatDoorGrAu
import Derived.Test.YtfhlhdddhgkinaaGreatDoorGrAm
import Derived.Deep.QuietTactic
import Derived.BigQuiet
import Derived.Test.YtfhlhdddhgkinaaGreatDoorGrAl
import Derived.Test.YtfhlhdddhgkinaaGreatDoorGrAn
namespace Go.Proofs.YtfhlhdddhgkinaaGreatDoor
open Go.RowKit
set_option linter.unusedVariables false

set_option maxHeartbeats 2000000 in
theorem refCheck_any (x : Ex) (lo : Nat → Prop) (v : Value) (w : World) (hx : ExIn w lo v x) (hsz : (x.pre 1).length ≤ 1048576) (K : Int) (hK : ckP x = K) :
    Calls Tryz.prog 25 #[v] w fun e w' => e = .returned (.int .i64 K) ∧ Below w.heap.size w w' := by
  obtain ⟨o1, n1, t1, k1, s1, p1, m1, c1, a1, rfl⟩ := hx.agg
  have b1 : Below w.heap.size w (w.alloc (.cells #[.string o1, .string n1, .int .i64 t1, .int .i64 k1, .string s1, .slice p1 m1 c1, .int .i64 a1] 26)) := (Below.refl _ w).alloc (Nat.le_refl _) _
  have cS := refSmall_any x lo _ _ (hx.on b1) (by rw [← size_pre x 1]; exact hsz)
  have cN := fun W (hb : Below w.heap.size w W) => refNodes_any x lo _ W (hx.on hb)
  rw [ckP_nd] at hK
  have box : Hid (∀ W, Below (w.heap.size + 1) (w.alloc (.cells #[.string o1, .string n1, .int .i64 t1, .int .i64 k1, .string s1, .slice p1 m1 c1, .int .i64 a1] 26)) W → (∀ i, W.cell? ⟨w.heap.size, i, none⟩ = (#[.string o1, .string n1, .int .i64 t1, .int .i64 k1, .string s1, .slice p1 m1 c1, .int .i64 a1] : Array Value)[i]?) ∧ w.heap.size < W.heap.size ∧ Below w.heap.size w W) := fun W hb => by
    obtain ⟨h1, _, h3⟩ := box_at w _ _ hb (Nat.lt_succ_self _)
    exact ⟨h1, h3, b1.trans (hb.mono (Nat.le_succ _))⟩
  clear hx hsz
  cases hs : x.small
  · rw [hs] at cS
    rw [hs, if_pos rfl] at hK
    subst hK
    clear hs cN
    go_enter Tryz.func25, Tryz.ntmps25
    go_wp2_with fail
    refine cS.mono ?_
    rintro e w1 ⟨rfl, b2⟩
    have b3 := b1.trans (b2.mono b1.size)
    clear cS b2
    go_wp2
    go_ret
    exact ⟨rfl, b3⟩
  · rw [hs] at cS
    rw [hs, if_neg (by simp)] at hK
    rw [hK] at cN
    clear hs hK
    go_enter Tryz.func25, Tryz.ntmps25
    go_wp2_with fail
    refine cS.mono ?_
    rintro e w1 ⟨rfl, b2⟩
    obtain ⟨hB, hl, bw1⟩ := box.out w1 (b2.mono (by simp))
    have cN1 := cN w1 bw1
    have g0 : w1.cell? ⟨w.heap.size, 0, none⟩ = some (.string o1) := hB 0
    have g1 : w1.cell? ⟨w.heap.size, 1, none⟩ = some (.string n1) := hB 1
    have g2 : w1.cell? ⟨w.heap.size, 2, none⟩ = some (.int .i64 t1) := hB 2
    have g3 : w1.cell? ⟨w.heap.size, 3, none⟩ = some (.int .i64 k1) := hB 3
    have g4 : w1.cell? ⟨w.heap.size, 4, none⟩ = some (.string s1) := hB 4
    have g5 : w1.cell? ⟨w.heap.size, 5, none⟩ = some (.slice p1 m1 c1) := hB 5
    have g6 : w1.cell? ⟨w.heap.size, 6, none⟩ = some (.int .i64 a1) := hB 6
    clear cS cN b2 hB
    go_wp2_with fail
    refine cN1.mono ?_
    rintro e w2 ⟨rfl, b3⟩
    have b4 := bw1.trans (b3.mono bw1.size)
    clear cN1 b3 g0 g1 g2 g3 g4 g5 g6
    go_wp2
    go_ret
    exact ⟨rfl, b4⟩
end Go.Proofs.YtfhlhdddhgkinaaGreatDoor
namespace Go.Proofs.YtfhlhdddhgkinaaGreatDoor
open Go.RowKit Go.BigFrame
set_option linter.unusedVariables false

theorem leaf_none {x : Ex} (h : nodeE x = 0) (hl : x.op.data.toList = [118, 97, 108] ∨ x.op.data.toList = [99, 111, 108]) : x.args.length = 0 := by
  obtain ⟨_, h2, _⟩ := node_ok h
  have : (apL x.op.data.toList opsL).1 = 0 := by
    rcases hl with h | h <;> rw [h] <;> decide
  omega
set_option maxHeartbeats 8000000 in
set_option maxRecDepth 20000 in
theorem refTyped_any (zs : List (ByteArray × Int)) (b off c : Nat) (hn : zs.length ≤ 6) : ∀ (x : Ex) (d : Nat) (lo : Nat → Prop) (v : Value) (w : World) (T H P : Int), (∀ q ∈ x.pre d, nodeE q.1 = 0) → ExIn w lo v x → ColsIn w b off zs → tyP zs x = (T, H, P) →
    Calls Tryz.prog 27 #[v, .slice (some ⟨b, off, none⟩) zs.length c] w fun e w' => e = .returned (.tuple #[.int .i64 T, .int .i64 H, .int .i64 P]) ∧ Below w.heap.size w w' := by
  refine Ex.ind fun op nm vt vn vs pos l ih d lo v w T H P hpre hx hc hR => ?_
  obtain ⟨i0, hi, hz0, hz1, hzz⟩ := info_parts info_int
  rw [ExIn] at hx
  obtain ⟨p, ca, rfl, ⟨hm, hmc⟩, ho, hnm, hvs, hparts⟩ := hx
  have hself := hpre (.node op nm vt vn vs pos l, d) (by rw [Ex.pre]; exact List.mem_cons_self ..)
  have hl3 : l.length ≤ 3 := by
    obtain ⟨h1, h2, _⟩ := node_ok hself
    have := (apL_le _ h1).1
    have h3 : (l.length : Int) = _ := h2
    omega
  have hleaf : op.data.toList = [118, 97, 108] ∨ op.data.toList = [99, 111, 108] → l.length = 0 := fun h => leaf_none hself h
  have hpre2 : Hid (∀ y ∈ l, ∀ q ∈ y.pre (d + 1), nodeE q.1 = 0) := fun y hy q hq => hpre q (by rw [Ex.pre]; exact List.mem_cons_of_mem _ (pres_mem hy q hq))
  have b1 : Below w.heap.size w (w.alloc (.cells #[.string op, .string nm, .int .i64 vt, .int .i64 vn, .string vs, .slice p l.length ca, .int .i64 pos] 26)) := (Below.refl _ w).alloc (Nat.le_refl _) _
  have HCO : Aside (ColsIn w b off zs) := hc
  have HR : Hid (tyP zs (.node op nm vt vn vs pos l) = (T, H, P)) := hR
  have HLF : Hid (op.data.toList = [118, 97, 108] ∨ op.data.toList = [99, 111, 108] → l.length = 0) := hleaf
  have HI : Aside (∀ y ∈ l, ∀ (d : Nat) (lo : Nat → Prop) (v : Value) (w : World) (T H P : Int), (∀ q ∈ y.pre d, nodeE q.1 = 0) → ExIn w lo v y → ColsIn w b off zs → tyP zs y = (T, H, P) → Calls Tryz.prog 27 #[v, .slice (some ⟨b, off, none⟩) zs.length c] w fun e w' => e = .returned (.tuple #[.int .i64 T, .int .i64 H, .int .i64 P]) ∧ Below w.heap.size w w') := ih
  have HPA : Aside (l.length = 0 ∨ ∃ b off, p = some ⟨b, off, none⟩ ∧ b < w.heap.size ∧ lo b ∧ ExsIn w lo b off l) := hparts
  have box : Hid (∀ wr, Below (w.heap.size + 1) (w.alloc (.cells #[.string op, .string nm, .int .i64 vt, .int .i64 vn, .string vs, .slice p l.length ca, .int .i64 pos] 26)) wr → (∀ i, wr.cell? ⟨w.heap.size, i, none⟩ = (#[.string op, .string nm, .int .i64 vt, .int .i64 vn, .string vs, .slice p l.length ca, .int .i64 pos] : Array Value)[i]?) ∧ w.heap.size < wr.heap.size ∧ Below w.heap.size w wr) := fun wr hb => by
    obtain ⟨h1, _, h3⟩ := box_at w _ _ hb (Nat.lt_succ_self _)
    exact ⟨h1, h3, b1.trans (hb.mono (Nat.le_succ _))⟩
  have hlz : (l.length : Int) ≤ 3 := by omega
  clear hpre ih hc hparts hR hself hleaf b1
  go_enter Tryz.func27, Tryz.ntmps27
  go_wp2
  go_loopg [7, 8, 9, 10, 11] l.length (fun gg s7 s8 _ _ _ wr => ∃ (kk : Nat) (acc : List Int) (q : Option Addr) (cp : Nat), kk ≤ l.length ∧ l.length - kk ≤ gg ∧ s8 = .int .i64 kk ∧ s7 = .slice q kk cp ∧ Aside (wr.ownsRow (w.heap.size + 1) 3 1 (.slice q kk cp) kk (acc.map fun t => .int .i64 t)) ∧ Aside (Below (w.heap.size + 1) (w.alloc (.cells #[.string op, .string nm, .int .i64 vt, .int .i64 vn, .string vs, .slice p l.length ca, .int .i64 pos] 26)) wr) ∧ Hid (tyGo zs acc (l.drop kk) = tysP zs l ∧ acc.length = kk))
  case atStart => exact ⟨0, [], none, 0, Nat.zero_le _, by omega, rfl, rfl, (show Aside _ from ⟨rfl, .inl ⟨rfl, rfl⟩⟩), (show Aside _ from Below.refl _ _), (show Hid _ from ⟨tyGo_start zs l, rfl⟩)⟩
  case round =>
    obtain ⟨kk, acc, q, cp, hkk, hg, rfl, rfl, OW, BW, HG⟩ := hrel
    obtain ⟨hBx, hl0, bwr⟩ := box.out wr BW.out
    have k5 : wr.cell? ⟨w.heap.size, 5, none⟩ = some (.slice p l.length ca) := hBx 5
    by_cases hlt : kk < l.length
    · have hltz : (kk : Int) < (l.length : Int) := by omega
      have h0z : (0 : Int) ≤ (kk : Int) := by omega
      rcases HPA.out with h | ⟨ba, oa, rfl, hbl, hlo, hE⟩
      · exact absurd h (by omega)
      obtain ⟨v0, v1, v2, v3, v4, v5, v6, e0, e1, e2, e3, e4, e5, e6, hy⟩ := exsIn_at w lo ba l oa hE kk hlt
      obtain ⟨u0, u1, u2, u3, u4, u5, u6, u7, u8, huu⟩ := hy.agg
      injection huu with huu
      simp only [Array.mk.injEq, List.cons.injEq, and_true] at huu
      obtain ⟨rfl, rfl, rfl, rfl, rfl, rfl, rfl⟩ := huu
      have kA : ∀ o, wr.cell? ⟨ba, o, none⟩ = w.cell? ⟨ba, o, none⟩ := fun o => bwr.cell (p := ⟨ba, o, none⟩) hbl
      rw [← kA] at e0 e1 e2 e3 e4 e5 e6
      have hblr : ba < wr.heap.size := by have := bwr.size; omega
      obtain ⟨t, h, pp, hty⟩ : ∃ t h pp, tyP zs l[kk] = (t, h, pp) := ⟨_, _, _, rfl⟩
      have cY := HI.out _ (List.getElem_mem hlt) (d + 1) lo _ wr t h pp (hpre2.out _ (List.getElem_mem hlt)) (hy.on bwr) (HCO.out.on bwr) hty
      have HTY : Hid (tyP zs l[kk] = (t, h, pp)) := hty
      have HKL : Hid (kk < l.length) := hlt
      clear hE kA hy hty hBx
      by_cases hh : h = 0
      · subst hh
        have HG2 : Hid (tyGo zs (acc ++ [t]) (l.drop (kk + 1)) = tysP zs l ∧ (acc ++ [t]).length = kk + 1) := by
          refine ⟨?_, by simp [HG.out.2]⟩
          have h := tyGo_ok (zs := zs) (acc := acc) HKL.out (by rw [HTY.out])
          rw [HTY.out] at h
          rw [← h]; exact HG.out.1
        clear HG HTY
        go_wp2_with fail
        refine cY.mono ?_
        rintro e w4 ⟨rfl, b4⟩
        have hz4 : wr.heap.size ≤ w4.heap.size := b4.size
        have OW4 := own_but OW.out (But.of_below' (r := 0) b4 (Nat.zero_le _)) (by omega)
        have BW5 : Aside (Below (w.heap.size + 1) (w.alloc (.cells #[.string op, .string nm, .int .i64 vt, .int .i64 vn, .string vs, .slice (some ⟨ba, oa, none⟩) l.length ca, .int .i64 pos] 26)) w4) := BW.out.trans (b4.mono hl0)
        clear cY b4 e0 e1 e2 e3 e4 e5 e6 OW
        go_wp2_with (at_builtin; refine wpList_append_own _ rfl _ _ 58 rfl (w.heap.size + 1) 3 i0 (.int .i64 0) 1 8 Tryz.underlying58 hi hz0 hz1 hzz rfl (by decide) _ _ _ rfl (OW4.alloc _) ⟨w4.heap.size, 0, none⟩ 1 1 [.int .i64 t] rfl rfl ?c1 ?c2 ?c3 ?c4 ?c5 ?_)
        case c1 =>
          intro i u hu
          rw [Go.WideShapes.add_plain, World.cell?_alloc_at _ _ _ _ (by simp)]
          simpa using hu
        case c2 =>
          intro u hu
          simp at hu
          subst hu; rfl
        case c3 => simp [maxLen]; omega
        case c4 => omega
        case c5 => simp; omega
        · intro v' w5 hown' hgrow _
          have hlo3 : ∀ j, (Value.slice q kk cp).ownBlock = some j → w.heap.size + 1 ≤ j := fun j hj => (OW4.lt j hj).1
          have bg : Below (w.heap.size + 1) w4 w5 := ((Below.refl _ _).alloc (by omega) _).grown hgrow (by simp; omega) hlo3
          have BW6 : Aside (Below (w.heap.size + 1) (w.alloc (.cells #[.string op, .string nm, .int .i64 vt, .int .i64 vn, .string vs, .slice (some ⟨ba, oa, none⟩) l.length ca, .int .i64 pos] 26)) w5) := BW5.out.trans bg
          obtain ⟨q5, c5, rfl⟩ := lown_slice hown'
          have ow6 : w5.ownsRow (w.heap.size + 1) 3 1 (.slice q5 (kk + 1) c5) (kk + 1) ((acc ++ [t]).map fun t => .int .i64 t) := by rw [List.map_append]; exact hown'
          clear hown' hgrow OW4 bg BW5 HI
          go_wp2
          go_roundg (l.length - (kk + 1))
          case measure => have := HKL.out; omega
          case rel => exact ⟨kk + 1, acc ++ [t], q5, c5, by have := HKL.out; omega, by omega, by go_num, rfl, (show Aside _ from ow6), BW6, HG2⟩
      · have hhb : (h != 0) = true := by simpa using hh
        have hv : op.data.toList ≠ [118, 97, 108] := fun hh => absurd (HLF.out (.inl hh)) (by omega)
        have hcl : op.data.toList ≠ [99, 111, 108] := fun hh => absurd (HLF.out (.inr hh)) (by omega)
        have hfin : (0, h, pp) = (T, H, P) := by
          rw [← HR.out, tyP_op hv hcl, ← HG.out.1, tyGo_bad HKL.out (by rw [HTY.out]; exact hh), HTY.out, if_pos hh]
        simp only [Prod.mk.injEq] at hfin
        obtain ⟨rfl, rfl, rfl⟩ := hfin
        clear HR HG HI hh hv hcl
        go_wp2_with fail
        refine cY.mono ?_
        rintro e w4 ⟨rfl, b4⟩
        have b5 : Below w.heap.size w w4 := bwr.trans (b4.mono bwr.size)
        clear cY b4 e0 e1 e2 e3 e4 e5 e6
        go_wp2
        exact bodyPost_ret (v := .tuple #[.int .i64 0, .int .i64 h, .int .i64 pp]) (by simp [results, Tryz.results27, go_sem]) rfl ⟨rfl, b5⟩
    · have hltz : ¬ (kk : Int) < (l.length : Int) := by omega
      have hts : tysP zs l = (acc, 0, 0) := by rw [← HG.out.1, tyGo_end (by omega)]
      have k0 : wr.cell? ⟨w.heap.size, 0, none⟩ = some (.string op) := hBx 0
      have k1 : wr.cell? ⟨w.heap.size, 1, none⟩ = some (.string nm) := hBx 1
      have k2 : wr.cell? ⟨w.heap.size, 2, none⟩ = some (.int .i64 vt) := hBx 2
      have k6 : wr.cell? ⟨w.heap.size, 6, none⟩ = some (.int .i64 pos) := hBx 6
      have HGL : Hid (acc.length = kk) := HG.out.2
      have hfin := HR.out
      clear HR HG HPA HI hpre2 hBx box
      by_cases hv : op.data.toList = [118, 97, 108]
      · have q1 : (op.toList == [118, 97, 108]) = true := by rw [Lib.toList_data]; simpa using hv
        rw [tyP, if_pos hv] at hfin
        simp only [Prod.mk.injEq] at hfin
        obtain ⟨rfl, rfl, rfl⟩ := hfin
        clear hts HLF OW
        go_wp2
        exact bodyPost_ret (v := .tuple #[.int .i64 vt, .int .i64 0, .int .i64 0]) (by simp [results, Tryz.results27, go_sem]) rfl ⟨rfl, bwr⟩
      · have q1 : (op.toList == [118, 97, 108]) = false := by rw [Lib.toList_data]; simpa using hv
        by_cases hcl : op.data.toList = [99, 111, 108]
        · have q2 : (op.toList == [99, 111, 108]) = true := by rw [Lib.toList_data]; simpa using hcl
          rw [tyP, if_neg hv, if_pos hcl] at hfin
          have hco := HCO.out.on bwr
          have cF := refFind_any b off c zs nm wr (by omega) hco
          clear hts HLF OW
          rcases findN_cases nm.data.toList zs with ⟨h, _⟩ | ⟨j, hj, hjl, _⟩
          · rw [if_pos h] at hfin
            simp only [Prod.mk.injEq] at hfin
            obtain ⟨rfl, rfl, rfl⟩ := hfin
            rw [h] at cF
            go_wp2_with fail
            refine cF.mono ?_
            rintro e w4 ⟨rfl, rfl⟩
            go_wp2
            go_quiet (fail)
            go_wp2
            exact bodyPost_ret (v := .tuple #[.int .i64 0, .int .i64 5, .int .i64 pos]) (by simp [results, Tryz.results27, go_sem]) rfl ⟨rfl, by repeat (first | exact bwr | apply below_drewN | refine Below.drew ?_)⟩
          · rw [if_neg (by omega), hj, Int.toNat_natCast, List.getElem?_eq_getElem hjl] at hfin
            simp only [Option.getD_some, Prod.mk.injEq] at hfin
            obtain ⟨rfl, rfl, rfl⟩ := hfin
            rw [hj] at cF
            obtain ⟨d0, d1⟩ := hco.2 j hjl
            have hcl2 := hco.1
            have hj0 : (0 : Int) ≤ (j : Int) := by omega
            have hj1 : (j : Int) < (zs.length : Int) := by omega
            generalize hz : zs[j] = z at d0 d1
            obtain ⟨zn, zt⟩ := z
            simp only at d0 d1
            go_wp2_with fail
            refine cF.mono ?_
            rintro e w4 ⟨rfl, rfl⟩
            go_wp2
            exact bodyPost_ret (v := .tuple #[.int .i64 zt, .int .i64 0, .int .i64 0]) (by simp [results, Tryz.results27, go_sem]) rfl ⟨by rw [hz], bwr⟩
        · have q2 : (op.toList == [99, 111, 108]) = false := by rw [Lib.toList_data]; simpa using hcl
          rw [tyP_op hv hcl, hts] at hfin
          simp only at hfin
          rw [if_neg (by simp)] at hfin
          obtain ⟨RT, RE, hrr⟩ : ∃ RT RE, ruleP op.data.toList acc = (RT, RE) := ⟨_, _, rfl⟩
          rw [hrr] at hfin
          simp only at hfin
          have hla : acc.length = kk := HGL.out
          have cR := refRule_any op q cp kk acc wr hla (by omega) (ownInts hla OW.out) RT RE hrr
          clear hts HLF OW hrr
          by_cases hE : RE = 0
          · subst hE
            rw [if_neg (by simp)] at hfin
            simp only [Prod.mk.injEq] at hfin
            obtain ⟨rfl, rfl, rfl⟩ := hfin
            go_wp2_with fail
            refine cR.mono ?_
            rintro e w4 ⟨rfl, b4⟩
            have b5 : Below w.heap.size w w4 := bwr.trans (b4.mono bwr.size)
            go_wp2
            exact bodyPost_ret (v := .tuple #[.int .i64 RT, .int .i64 0, .int .i64 0]) (by simp [results, Tryz.results27, go_sem]) rfl ⟨rfl, b5⟩
          · rw [if_pos hE] at hfin
            simp only [Prod.mk.injEq] at hfin
            obtain ⟨rfl, rfl, rfl⟩ := hfin
            have hEb : (RE != 0) = true := by simpa using hE
            go_wp2_with fail
            refine cR.mono ?_
            rintro e w4 ⟨rfl, b4⟩
            have b5 : Below w.heap.size w w4 := bwr.trans (b4.mono bwr.size)
            have m6 : w4.cell? ⟨w.heap.size, 6, none⟩ = some (.int .i64 pos) := by rw [b4.cell (p := ⟨w.heap.size, 6, none⟩) hl0]; exact k6
            have hl4 : w.heap.size < w4.heap.size := by have := b4.size; omega
            clear cR b4
            go_wp2
            go_quiet (fail)
            go_wp2
            exact bodyPost_ret (v := .tuple #[.int .i64 0, .int .i64 RE, .int .i64 pos]) (by simp [results, Tryz.results27, go_sem]) rfl ⟨rfl, by repeat (first | exact b5 | apply below_drewN | refine Below.drew ?_)⟩
end Go.Proofs.YtfhlhdddhgkinaaGreatDoor
namespace Go.Proofs.YtfhlhdddhgkinaaGreatDoor
open Go.RowKit Go.BigFrame
set_option linter.unusedVariables false

theorem refSchemaV (v : Value) (zs : List (ByteArray × Int)) (w : World) (h : ColsV w v zs) : Calls Tryz.prog 26 #[v] w fun e w' => e = .returned (.int .i64 (schE zs)) ∧ w' = w := by
  obtain ⟨q, c, rfl, h⟩ := h
  rcases h with h | ⟨b, off, rfl, h1, h2, h3⟩
  · rw [h, schE, if_pos h]
    exact refSchema_none q c w
  · exact refSchema_any b off c zs w h2 h3
set_option maxHeartbeats 2000000 in
theorem refOf_any (x : Ex) (lo : Nat → Prop) (v vl : Value) (zs : List (ByteArray × Int)) (w : World) (hx : ExIn w lo v x) (hsz : (x.pre 1).length ≤ 1048576) (hcv : ColsV w vl zs) (T H P : Int) (hR : ofP zs x = (T, H, P)) :
    Calls Tryz.prog 9 #[v, vl] w fun e w' => e = .returned (.tuple #[.int .i64 T, .int .i64 H, .int .i64 P]) ∧ Below w.heap.size w w' := by
  obtain ⟨o1, n1, t1, k1, s1, p1, m1, c1, a1, rfl⟩ := hx.agg
  have b1 : Below w.heap.size w (w.alloc (.cells #[.string o1, .string n1, .int .i64 t1, .int .i64 k1, .string s1, .slice p1 m1 c1, .int .i64 a1] 26)) := (Below.refl _ w).alloc (Nat.le_refl _) _
  have box : Hid (∀ W, Below (w.heap.size + 1) (w.alloc (.cells #[.string o1, .string n1, .int .i64 t1, .int .i64 k1, .string s1, .slice p1 m1 c1, .int .i64 a1] 26)) W → (∀ i, W.cell? ⟨w.heap.size, i, none⟩ = (#[.string o1, .string n1, .int .i64 t1, .int .i64 k1, .string s1, .slice p1 m1 c1, .int .i64 a1] : Array Value)[i]?) ∧ w.heap.size < W.heap.size ∧ Below w.heap.size w W) := fun W hb => by
    obtain ⟨h1, _, h3⟩ := box_at w _ _ hb (Nat.lt_succ_self _)
    exact ⟨h1, h3, b1.trans (hb.mono (Nat.le_succ _))⟩
  rw [ofP] at hR
  by_cases hck : ckP x = 0
  · have cC := refCheck_any x lo _ _ (hx.on b1) hsz 0 hck
    rw [if_neg (fun h => h hck)] at hR
    have cS := fun W (hb : Below w.heap.size w W) => refSchemaV vl zs W (hcv.on hb)
    by_cases hsc : schE zs = 0
    · rw [if_neg (fun h => h hsc)] at hR
      rw [hsc] at cS
      obtain ⟨hz1, hz2, _⟩ := schE_zero hsc
      obtain ⟨q, c, rfl, hcols⟩ := hcv
      rcases hcols with h | ⟨b, off, rfl, _, _, hco⟩
      · exact absurd h hz1
      have cT := fun W (hb : Below w.heap.size w W) => refTyped_any zs b off c hz2 x 1 lo _ W T H P (ckP_zero hck).2 (hx.on hb) (hco.on hb) hR
      clear hck hR hsc hz1 hx hco hsz
      go_enter Tryz.func9, Tryz.ntmps9
      go_wp2_with fail
      refine cC.mono ?_
      rintro e w1 ⟨rfl, b2⟩
      obtain ⟨hB, hl, bw1⟩ := box.out w1 (b2.mono (by simp))
      have cS1 := cS w1 bw1
      have cT1 := cT w1 bw1
      have g0 : w1.cell? ⟨w.heap.size, 0, none⟩ = some (.string o1) := hB 0
      have g1 : w1.cell? ⟨w.heap.size, 1, none⟩ = some (.string n1) := hB 1
      have g2 : w1.cell? ⟨w.heap.size, 2, none⟩ = some (.int .i64 t1) := hB 2
      have g3 : w1.cell? ⟨w.heap.size, 3, none⟩ = some (.int .i64 k1) := hB 3
      have g4 : w1.cell? ⟨w.heap.size, 4, none⟩ = some (.string s1) := hB 4
      have g5 : w1.cell? ⟨w.heap.size, 5, none⟩ = some (.slice p1 m1 c1) := hB 5
      have g6 : w1.cell? ⟨w.heap.size, 6, none⟩ = some (.int .i64 a1) := hB 6
      clear cC cS cT b2 hB
      go_wp2_with fail
      refine cS1.mono ?_
      rintro e w2 ⟨rfl, rfl⟩
      go_wp2_with fail
      refine cT1.mono ?_
      rintro e w3 ⟨rfl, b4⟩
      have b5 := bw1.trans (b4.mono bw1.size)
      clear cS1 cT1 b4 g0 g1 g2 g3 g4 g5 g6
      go_wp2
      exact bodyPost_ret (v := .tuple #[.int .i64 T, .int .i64 H, .int .i64 P]) (by simp [results, Tryz.results9, go_sem]) rfl ⟨rfl, b5⟩
    · rw [if_pos hsc] at hR
      simp only [Prod.mk.injEq] at hR
      obtain ⟨rfl, hH, rfl⟩ := hR
      obtain ⟨S, hS⟩ : ∃ S, schE zs = S := ⟨_, rfl⟩
      rw [hS] at hsc hH cS
      subst hH
      have hsb : (S != 0) = true := by simpa using hsc
      clear hck hS hx hsz hsc
      go_enter Tryz.func9, Tryz.ntmps9
      go_wp2_with fail
      refine cC.mono ?_
      rintro e w1 ⟨rfl, b2⟩
      obtain ⟨_, hl, bw1⟩ := box.out w1 (b2.mono (by simp))
      have cS1 := cS w1 bw1
      clear cC cS b2
      go_wp2_with fail
      refine cS1.mono ?_
      rintro e w2 ⟨rfl, rfl⟩
      go_wp2
      exact bodyPost_ret (v := .tuple #[.int .i64 0, .int .i64 S, .int .i64 0]) (by simp [results, Tryz.results9, go_sem]) rfl ⟨rfl, bw1⟩
  · rw [if_pos hck] at hR
    simp only [Prod.mk.injEq] at hR
    obtain ⟨rfl, hH, rfl⟩ := hR
    have cC := refCheck_any x lo _ _ (hx.on b1) hsz H hH
    have hH0 : H ≠ 0 := by rw [← hH]; exact hck
    have hHb : (H != 0) = true := by simpa using hH0
    have hHe : (H == 0) = false := by simpa using hH0
    clear hck hH hx hsz hH0
    go_enter Tryz.func9, Tryz.ntmps9
    go_wp2_with fail
    refine cC.mono ?_
    rintro e w1 ⟨rfl, b2⟩
    obtain ⟨_, hl, bw1⟩ := box.out w1 (b2.mono (by simp))
    clear cC b2
    go_wp2
    exact bodyPost_ret (v := .tuple #[.int .i64 0, .int .i64 H, .int .i64 0]) (by simp [results, Tryz.results9, go_sem]) rfl ⟨rfl, bw1⟩
end Go.Proofs.YtfhlhdddhgkinaaGreatDoor
namespace Go.Proofs.YtfhlhdddhgkinaaGreatDoor
open Go.RowKit
set_option linter.unusedVariables false

def ValsI (w : World) (b off : Nat) (rs : List V3) : Prop :=
  b < w.heap.size ∧ ∀ j (h : j < rs.length), w.cell? ⟨b, off + j * 3, none⟩ = some (.int .i64 rs[j].1) ∧ w.cell? ⟨b, off + j * 3 + 1, none⟩ = some (.int .i64 rs[j].2.1) ∧ w.cell? ⟨b, off + j * 3 + 2, none⟩ = some (.string rs[j].2.2)
theorem ValsI.on {w w' : World} {b off : Nat} {rs : List V3} (h : ValsI w b off rs) (hb : Below w.heap.size w w') : ValsI w' b off rs :=
  ⟨by have := hb.size; have := h.1; omega, fun j hj => by
    rw [hb.cell (p := ⟨b, off + j * 3, none⟩) h.1, hb.cell (p := ⟨b, off + j * 3 + 1, none⟩) h.1, hb.cell (p := ⟨b, off + j * 3 + 2, none⟩) h.1]; exact h.2 j hj⟩
set_option maxHeartbeats 4000000 in
theorem refRowV (lv rv : Value) (zs : List (ByteArray × Int)) (rs : List V3) (w : World) (hl : ColsV w lv zs) (hr : ValsV w rv rs) (hsz : SizedV rs) :
    Calls Tryz.prog 18 #[lv, rv] w fun e w' => e = .returned (.int .i64 (rowChk zs rs)) ∧ Below w.heap.size w w' := by
  have cS := refSchemaV lv zs w hl
  obtain ⟨K, hK⟩ : ∃ K, rowChk zs rs = K := ⟨_, rfl⟩
  rw [hK]
  rw [rowChk] at hK
  by_cases h0 : schE zs = 0
  · rw [if_neg (by simpa using h0)] at hK
    rw [h0] at cS
    have hzm := (schE_zero h0).2.1
    obtain ⟨zp, zc, rfl, hzz⟩ := hl
    obtain ⟨rp, rc, rfl, hrm, hrr⟩ := hr
    have hz0 := (schE_zero h0).1
    clear h0
    by_cases hle : rs.length = zs.length
    · rw [if_neg (by simpa using hle)] at hK
      rcases hzz with h | ⟨zb, zo, rfl, _, _, hzi⟩
      · exact absurd h hz0
      · rcases hrr with h | ⟨rb, ro, rfl, hri0⟩
        · exact absurd (hle.symm.trans h) hz0
        · have hri : ValsI w rb ro rs := hri0
          clear hri0
          have hlez : (rs.length : Int) = (zs.length : Int) := by omega
          have hqz : ((rs.length : Int) != (zs.length : Int)) = false := by rw [hlez]; simp
          have HK : Hid (rcGo zs rs = K) := hK
          unfold maxLen at hrm
          clear hK
          go_enter Tryz.func18, Tryz.ntmps18
          go_wp2_with fail
          refine cS.mono ?_
          rintro e w0 ⟨rfl, hq0⟩
          obtain rfl : w = w0 := hq0.symm
          go_wp2
          go_loopg [5, 6] rs.length (fun gg _ s6 wr => ∃ kk : Nat, kk ≤ rs.length ∧ rs.length - kk ≤ gg ∧ s6 = .int .i64 kk ∧ Aside (Below w.heap.size w wr) ∧ Hid (K = rcGo (zs.drop kk) (rs.drop kk)))
          case atStart => exact ⟨0, Nat.zero_le _, by omega, rfl, Below.refl _ _, (show Hid _ by simp [Hid, HK.out])⟩
          case round =>
            obtain ⟨kk, hkk, hg, rfl, BW, HS⟩ := hrel
            by_cases hlt : kk < rs.length
            · have hltz : (kk : Int) < (rs.length : Int) := by omega
              have hltz2 : (kk : Int) < (zs.length : Int) := by omega
              have k0 : (0 : Int) ≤ (kk : Int) := by omega
              have hri2 := (hri.on BW.out)
              obtain ⟨c0, c1, c2⟩ := hri2.2 kk hlt
              have hrl := hri2.1
              have hltn : kk < zs.length := by omega
              have HS2 : Hid (K = _) := HS.out.trans (rcGo_at hltn hlt)
              obtain ⟨hs1, hn1⟩ := hsz _ (List.getElem_mem hlt)
              have hzi2 := (hzi.on BW.out)
              obtain ⟨d0, d1⟩ := hzi2.2 kk hltn
              have hzl := hzi2.1
              generalize hy : rs[kk] = y at c0 c1 c2 HS2 hs1 hn1
              generalize hyz : zs[kk] = z at d0 d1 HS2
              obtain ⟨yt, yn, ys⟩ := y
              obtain ⟨zn, zt⟩ := z
              simp only at c0 c1 c2 d0 d1 HS2 hs1 hn1
              have cC := refVal_any yt yn ys wr hs1
              obtain ⟨ce, hce⟩ : ∃ ce, chk yt yn ys.data.toList = ce := ⟨_, rfl⟩
              rw [hce] at cC
              have HS3 : Hid (K = if ce ≠ 0 then ce else if yt ≠ zt then 8 else rcGo (zs.drop (kk + 1)) (rs.drop (kk + 1))) := by
                rw [← hce]; exact HS2
              clear HS HS2 hy hyz hce hsz
              go_wp2_with fail
              refine cC.mono ?_
              rintro e w1 ⟨rfl, b1⟩
              obtain ⟨hc1, hf1⟩ := bcells b1
              have g0 : w1.cell? ⟨rb, ro + kk * 3, none⟩ = some (.int .i64 yt) := by
                rw [hc1 _ _ hrl]; exact c0
              have g1 : w1.cell? ⟨zb, zo + kk * 2 + 1, none⟩ = some (.int .i64 zt) := by
                rw [hc1 _ _ hzl]; exact d1
              have B2 := BW.out.trans (b1.mono BW.out.size)
              clear hc1 hf1 b1 cC c0 c1 c2 d0 d1 hzi2 hri2
              by_cases hz : ce = 0
              · have hb : (ce != 0) = false := by simpa using hz
                by_cases htt : yt = zt
                · have hq : (yt != zt) = false := by simpa using htt
                  have HS4 : Hid (K = rcGo (zs.drop (kk + 1)) (rs.drop (kk + 1))) := by
                    have := HS3.out
                    rwa [if_neg (by simpa using hz), if_neg (by simpa using htt)] at this
                  clear HS3 hz htt
                  go_wp2
                  go_quiet (fail)
                  go_wp2
                  go_roundg (rs.length - (kk + 1))
                  case measure => omega
                  case rel => exact ⟨kk + 1, by omega, by omega, by go_num, by repeat (first | exact B2 | apply below_drewN | refine Below.drew ?_), HS4⟩
                · have hq : (yt != zt) = true := by simpa using htt
                  have HS4 : K = 8 := by
                    have := HS3.out
                    rwa [if_neg (by simpa using hz), if_pos htt] at this
                  subst HS4
                  clear HS3 hz htt
                  go_wp2
                  go_quiet (fail)
                  go_wp2
                  go_ret
                  exact ⟨rfl, by repeat (first | exact B2 | apply below_drewN | refine Below.drew ?_)⟩
              · have hb : (ce != 0) = true := by simpa using hz
                have HS4 : K = ce := by
                  have := HS3.out
                  rwa [if_pos hz] at this
                subst HS4
                clear HS3 hz
                go_wp2
                go_ret
                exact ⟨rfl, B2⟩
            · have hltz : ¬ (kk : Int) < (rs.length : Int) := by omega
              have hkz : K = 0 := by
                rw [HS.out, List.drop_eq_nil_of_le (show zs.length ≤ kk by omega)]; rfl
              subst hkz
              clear HS HK
              go_wp2
              go_ret
              exact ⟨rfl, BW.out⟩
    · rw [if_pos hle] at hK
      subst hK
      have hqz : ((rs.length : Int) != (zs.length : Int)) = true := by simp; omega
      clear hle hzz hrr
      go_enter Tryz.func18, Tryz.ntmps18
      go_wp2_with fail
      refine cS.mono ?_
      rintro e w' ⟨rfl, rfl⟩
      go_wp2
      go_ret
      exact ⟨rfl, Below.refl _ _⟩
  · rw [if_pos h0] at hK
    rw [hK] at cS h0
    have hb : (K != 0) = true := by simpa using h0
    clear hK h0 hl hr
    go_enter Tryz.func18, Tryz.ntmps18
    go_wp2_with fail
    refine cS.mono ?_
    rintro e w' ⟨rfl, rfl⟩
    go_wp2
    go_ret
    exact ⟨rfl, Below.refl _ _⟩
end Go.Proofs.YtfhlhdddhgkinaaGreatDoor
