/-
  The document's typed (package sluiceref1): the type of an expression that is right, over columns.
-/
import Derived.Test.YtpgadbpkednjkaaGreatDoorRefRul
import Derived.Test.YtpgadbpkednjkaaGreatDoorRefRow1
import Derived.Test.YtpgadbpkednjkaaGreatDoorEvFn
import Derived.Deep.QuietTactic
import Derived.BigQuiet
namespace Go.Proofs.YtpgadbpkednjkaaGreatDoor
open Go.RowKit Go.BigFrame
set_option linter.unusedVariables false

theorem leaf_none {x : Ex} (h : nodeE x = 0) (hl : x.op.data.toList = [118, 97, 108] ∨ x.op.data.toList = [99, 111, 108]) : x.args.length = 0 := by
  obtain ⟨_, h2, _⟩ := node_ok h
  have : (apL x.op.data.toList opsL).1 = 0 := by
    rcases hl with h | h <;> rw [h] <;> decide
  omega
set_option maxHeartbeats 8000000 in
set_option maxRecDepth 20000 in
theorem refTyped_any (zs : List (ByteArray × Int)) (b off c : Nat) (hn : zs.length ≤ 6) : ∀ (x : Ex) (d : Nat) (lo : Nat → Prop) (v : Value) (w : World) (T H P : Int), (∀ q ∈ x.pre d, nodeE q.1 = 0) → ExIn w lo v x → ColsIn w b off zs → tyP zs x = (T, H, P) →
    Calls Tryz.prog 52 #[v, .slice (some ⟨b, off, none⟩) zs.length c] w fun e w' => e = .returned (.tuple #[.int .i64 T, .int .i64 H, .int .i64 P]) ∧ Below w.heap.size w w' := by
  refine Ex.ind fun op nm vt vn vs pos l ih d lo v w T H P hpre hx hc hR => ?_
  obtain ⟨i0, hi, hz0, hz1, hzz⟩ := info_parts info_int
  rw [ExIn] at hx
  obtain ⟨p, ca, rfl, ⟨hm, hmc⟩, ho, hnm, hvs, hparts⟩ := hx
  have hself := hpre (.node op nm vt vn vs pos l, d) (by rw [Ex.pre]; exact List.mem_cons_self ..)
  have hl3 : l.length ≤ 3 := by
    obtain ⟨h1, h2, _⟩ := node_ok hself
    have := (apL_le _ h1).1
    have h3 : (l.length : Int) = _ := h2
    omega
  have hleaf : op.data.toList = [118, 97, 108] ∨ op.data.toList = [99, 111, 108] → l.length = 0 := fun h => leaf_none hself h
  have hpre2 : Hid (∀ y ∈ l, ∀ q ∈ y.pre (d + 1), nodeE q.1 = 0) := fun y hy q hq => hpre q (by rw [Ex.pre]; exact List.mem_cons_of_mem _ (pres_mem hy q hq))
  have b1 : Below w.heap.size w (w.alloc (.cells #[.string op, .string nm, .int .i64 vt, .int .i64 vn, .string vs, .slice p l.length ca, .int .i64 pos] 26)) := (Below.refl _ w).alloc (Nat.le_refl _) _
  have HCO : Aside (ColsIn w b off zs) := hc
  have HR : Hid (tyP zs (.node op nm vt vn vs pos l) = (T, H, P)) := hR
  have HLF : Hid (op.data.toList = [118, 97, 108] ∨ op.data.toList = [99, 111, 108] → l.length = 0) := hleaf
  have HI : Aside (∀ y ∈ l, ∀ (d : Nat) (lo : Nat → Prop) (v : Value) (w : World) (T H P : Int), (∀ q ∈ y.pre d, nodeE q.1 = 0) → ExIn w lo v y → ColsIn w b off zs → tyP zs y = (T, H, P) → Calls Tryz.prog 52 #[v, .slice (some ⟨b, off, none⟩) zs.length c] w fun e w' => e = .returned (.tuple #[.int .i64 T, .int .i64 H, .int .i64 P]) ∧ Below w.heap.size w w') := ih
  have HPA : Aside (l.length = 0 ∨ ∃ b off, p = some ⟨b, off, none⟩ ∧ b < w.heap.size ∧ lo b ∧ ExsIn w lo b off l) := hparts
  have box : Hid (∀ wr, Below (w.heap.size + 1) (w.alloc (.cells #[.string op, .string nm, .int .i64 vt, .int .i64 vn, .string vs, .slice p l.length ca, .int .i64 pos] 26)) wr → (∀ i, wr.cell? ⟨w.heap.size, i, none⟩ = (#[.string op, .string nm, .int .i64 vt, .int .i64 vn, .string vs, .slice p l.length ca, .int .i64 pos] : Array Value)[i]?) ∧ w.heap.size < wr.heap.size ∧ Below w.heap.size w wr) := fun wr hb => by
    obtain ⟨h1, _, h3⟩ := box_at w _ _ hb (Nat.lt_succ_self _)
    exact ⟨h1, h3, b1.trans (hb.mono (Nat.le_succ _))⟩
  have hlz : (l.length : Int) ≤ 3 := by omega
  clear hpre ih hc hparts hR hself hleaf b1
  go_enter Tryz.func52, Tryz.ntmps52
  go_wp2
  go_loopg [7, 8, 9, 10, 11] l.length (fun gg s7 s8 _ _ _ wr => ∃ (kk : Nat) (acc : List Int) (q : Option Addr) (cp : Nat), kk ≤ l.length ∧ l.length - kk ≤ gg ∧ s8 = .int .i64 kk ∧ s7 = .slice q kk cp ∧ Aside (wr.ownsRow (w.heap.size + 1) 3 1 (.slice q kk cp) kk (acc.map fun t => .int .i64 t)) ∧ Aside (Below (w.heap.size + 1) (w.alloc (.cells #[.string op, .string nm, .int .i64 vt, .int .i64 vn, .string vs, .slice p l.length ca, .int .i64 pos] 26)) wr) ∧ Hid (tyGo zs acc (l.drop kk) = tysP zs l ∧ acc.length = kk))
  case atStart => exact ⟨0, [], none, 0, Nat.zero_le _, by omega, rfl, rfl, (show Aside _ from ⟨rfl, .inl ⟨rfl, rfl⟩⟩), (show Aside _ from Below.refl _ _), (show Hid _ from ⟨tyGo_start zs l, rfl⟩)⟩
  case round =>
    obtain ⟨kk, acc, q, cp, hkk, hg, rfl, rfl, OW, BW, HG⟩ := hrel
    obtain ⟨hBx, hl0, bwr⟩ := box.out wr BW.out
    have k5 : wr.cell? ⟨w.heap.size, 5, none⟩ = some (.slice p l.length ca) := hBx 5
    by_cases hlt : kk < l.length
    · have hltz : (kk : Int) < (l.length : Int) := by omega
      have h0z : (0 : Int) ≤ (kk : Int) := by omega
      rcases HPA.out with h | ⟨ba, oa, rfl, hbl, hlo, hE⟩
      · exact absurd h (by omega)
      obtain ⟨v0, v1, v2, v3, v4, v5, v6, e0, e1, e2, e3, e4, e5, e6, hy⟩ := exsIn_at w lo ba l oa hE kk hlt
      obtain ⟨u0, u1, u2, u3, u4, u5, u6, u7, u8, huu⟩ := hy.agg
      injection huu with huu
      simp only [Array.mk.injEq, List.cons.injEq, and_true] at huu
      obtain ⟨rfl, rfl, rfl, rfl, rfl, rfl, rfl⟩ := huu
      have kA : ∀ o, wr.cell? ⟨ba, o, none⟩ = w.cell? ⟨ba, o, none⟩ := fun o => bwr.cell (p := ⟨ba, o, none⟩) hbl
      rw [← kA] at e0 e1 e2 e3 e4 e5 e6
      have hblr : ba < wr.heap.size := by have := bwr.size; omega
      obtain ⟨t, h, pp, hty⟩ : ∃ t h pp, tyP zs l[kk] = (t, h, pp) := ⟨_, _, _, rfl⟩
      have cY := HI.out _ (List.getElem_mem hlt) (d + 1) lo _ wr t h pp (hpre2.out _ (List.getElem_mem hlt)) (hy.on bwr) (HCO.out.on bwr) hty
      have HTY : Hid (tyP zs l[kk] = (t, h, pp)) := hty
      have HKL : Hid (kk < l.length) := hlt
      clear hE kA hy hty hBx
      by_cases hh : h = 0
      · subst hh
        have HG2 : Hid (tyGo zs (acc ++ [t]) (l.drop (kk + 1)) = tysP zs l ∧ (acc ++ [t]).length = kk + 1) := by
          refine ⟨?_, by simp [HG.out.2]⟩
          have h := tyGo_ok (zs := zs) (acc := acc) HKL.out (by rw [HTY.out])
          rw [HTY.out] at h
          rw [← h]; exact HG.out.1
        clear HG HTY
        go_wp2_with fail
        refine cY.mono ?_
        rintro e w4 ⟨rfl, b4⟩
        have hz4 : wr.heap.size ≤ w4.heap.size := b4.size
        have OW4 := own_but OW.out (But.of_below' (r := 0) b4 (Nat.zero_le _)) (by omega)
        have BW5 : Aside (Below (w.heap.size + 1) (w.alloc (.cells #[.string op, .string nm, .int .i64 vt, .int .i64 vn, .string vs, .slice (some ⟨ba, oa, none⟩) l.length ca, .int .i64 pos] 26)) w4) := BW.out.trans (b4.mono hl0)
        clear cY b4 e0 e1 e2 e3 e4 e5 e6 OW
        go_wp2_with (at_builtin; refine wpList_append_own _ rfl _ _ 48 rfl (w.heap.size + 1) 3 i0 (.int .i64 0) 1 8 Tryz.underlying48 hi hz0 hz1 hzz rfl (by decide) _ _ _ rfl (OW4.alloc _) ⟨w4.heap.size, 0, none⟩ 1 1 [.int .i64 t] rfl rfl ?c1 ?c2 ?c3 ?c4 ?c5 ?_)
        case c1 =>
          intro i u hu
          rw [Go.WideShapes.add_plain, World.cell?_alloc_at _ _ _ _ (by simp)]
          simpa using hu
        case c2 =>
          intro u hu
          simp at hu
          subst hu; rfl
        case c3 => simp [maxLen]; omega
        case c4 => omega
        case c5 => simp; omega
        · intro v' w5 hown' hgrow _
          have hlo3 : ∀ j, (Value.slice q kk cp).ownBlock = some j → w.heap.size + 1 ≤ j := fun j hj => (OW4.lt j hj).1
          have bg : Below (w.heap.size + 1) w4 w5 := ((Below.refl _ _).alloc (by omega) _).grown hgrow (by simp; omega) hlo3
          have BW6 : Aside (Below (w.heap.size + 1) (w.alloc (.cells #[.string op, .string nm, .int .i64 vt, .int .i64 vn, .string vs, .slice (some ⟨ba, oa, none⟩) l.length ca, .int .i64 pos] 26)) w5) := BW5.out.trans bg
          obtain ⟨q5, c5, rfl⟩ := lown_slice hown'
          have ow6 : w5.ownsRow (w.heap.size + 1) 3 1 (.slice q5 (kk + 1) c5) (kk + 1) ((acc ++ [t]).map fun t => .int .i64 t) := by rw [List.map_append]; exact hown'
          clear hown' hgrow OW4 bg BW5 HI
          go_wp2
          go_roundg (l.length - (kk + 1))
          case measure => have := HKL.out; omega
          case rel => exact ⟨kk + 1, acc ++ [t], q5, c5, by have := HKL.out; omega, by omega, by go_num, rfl, (show Aside _ from ow6), BW6, HG2⟩
      · have hhb : (h != 0) = true := by simpa using hh
        have hv : op.data.toList ≠ [118, 97, 108] := fun hh => absurd (HLF.out (.inl hh)) (by omega)
        have hcl : op.data.toList ≠ [99, 111, 108] := fun hh => absurd (HLF.out (.inr hh)) (by omega)
        have hfin : (0, h, pp) = (T, H, P) := by
          rw [← HR.out, tyP_op hv hcl, ← HG.out.1, tyGo_bad HKL.out (by rw [HTY.out]; exact hh), HTY.out, if_pos hh]
        simp only [Prod.mk.injEq] at hfin
        obtain ⟨rfl, rfl, rfl⟩ := hfin
        clear HR HG HI hh hv hcl
        go_wp2_with fail
        refine cY.mono ?_
        rintro e w4 ⟨rfl, b4⟩
        have b5 : Below w.heap.size w w4 := bwr.trans (b4.mono bwr.size)
        clear cY b4 e0 e1 e2 e3 e4 e5 e6
        go_wp2
        exact bodyPost_ret (v := .tuple #[.int .i64 0, .int .i64 h, .int .i64 pp]) (by simp [results, Tryz.results52, go_sem]) rfl ⟨rfl, b5⟩
    · have hltz : ¬ (kk : Int) < (l.length : Int) := by omega
      have hts : tysP zs l = (acc, 0, 0) := by rw [← HG.out.1, tyGo_end (by omega)]
      have k0 : wr.cell? ⟨w.heap.size, 0, none⟩ = some (.string op) := hBx 0
      have k1 : wr.cell? ⟨w.heap.size, 1, none⟩ = some (.string nm) := hBx 1
      have k2 : wr.cell? ⟨w.heap.size, 2, none⟩ = some (.int .i64 vt) := hBx 2
      have k6 : wr.cell? ⟨w.heap.size, 6, none⟩ = some (.int .i64 pos) := hBx 6
      have HGL : Hid (acc.length = kk) := HG.out.2
      have hfin := HR.out
      clear HR HG HPA HI hpre2 hBx box
      by_cases hv : op.data.toList = [118, 97, 108]
      · have q1 : (op.toList == [118, 97, 108]) = true := by rw [Lib.toList_data]; simpa using hv
        rw [tyP, if_pos hv] at hfin
        simp only [Prod.mk.injEq] at hfin
        obtain ⟨rfl, rfl, rfl⟩ := hfin
        clear hts HLF OW
        go_wp2
        exact bodyPost_ret (v := .tuple #[.int .i64 vt, .int .i64 0, .int .i64 0]) (by simp [results, Tryz.results52, go_sem]) rfl ⟨rfl, bwr⟩
      · have q1 : (op.toList == [118, 97, 108]) = false := by rw [Lib.toList_data]; simpa using hv
        by_cases hcl : op.data.toList = [99, 111, 108]
        · have q2 : (op.toList == [99, 111, 108]) = true := by rw [Lib.toList_data]; simpa using hcl
          rw [tyP, if_neg hv, if_pos hcl] at hfin
          have hco := HCO.out.on bwr
          have cF := refFind_any b off c zs nm wr (by omega) hco
          clear hts HLF OW
          rcases findN_cases nm.data.toList zs with ⟨h, _⟩ | ⟨j, hj, hjl, _⟩
          · rw [if_pos h] at hfin
            simp only [Prod.mk.injEq] at hfin
            obtain ⟨rfl, rfl, rfl⟩ := hfin
            rw [h] at cF
            go_wp2_with fail
            refine cF.mono ?_
            rintro e w4 ⟨rfl, rfl⟩
            go_wp2
            go_quiet (fail)
            go_wp2
            exact bodyPost_ret (v := .tuple #[.int .i64 0, .int .i64 5, .int .i64 pos]) (by simp [results, Tryz.results52, go_sem]) rfl ⟨rfl, by repeat (first | exact bwr | apply below_drewN | refine Below.drew ?_)⟩
          · rw [if_neg (by omega), hj, Int.toNat_natCast, List.getElem?_eq_getElem hjl] at hfin
            simp only [Option.getD_some, Prod.mk.injEq] at hfin
            obtain ⟨rfl, rfl, rfl⟩ := hfin
            rw [hj] at cF
            obtain ⟨d0, d1⟩ := hco.2 j hjl
            have hcl2 := hco.1
            have hj0 : (0 : Int) ≤ (j : Int) := by omega
            have hj1 : (j : Int) < (zs.length : Int) := by omega
            generalize hz : zs[j] = z at d0 d1
            obtain ⟨zn, zt⟩ := z
            simp only at d0 d1
            go_wp2_with fail
            refine cF.mono ?_
            rintro e w4 ⟨rfl, rfl⟩
            go_wp2
            exact bodyPost_ret (v := .tuple #[.int .i64 zt, .int .i64 0, .int .i64 0]) (by simp [results, Tryz.results52, go_sem]) rfl ⟨by rw [hz], bwr⟩
        · have q2 : (op.toList == [99, 111, 108]) = false := by rw [Lib.toList_data]; simpa using hcl
          rw [tyP_op hv hcl, hts] at hfin
          simp only at hfin
          rw [if_neg (by simp)] at hfin
          obtain ⟨RT, RE, hrr⟩ : ∃ RT RE, ruleP op.data.toList acc = (RT, RE) := ⟨_, _, rfl⟩
          rw [hrr] at hfin
          simp only at hfin
          have hla : acc.length = kk := HGL.out
          have cR := refRule_any op q cp kk acc wr hla (by omega) (ownInts hla OW.out) RT RE hrr
          clear hts HLF OW hrr
          by_cases hE : RE = 0
          · subst hE
            rw [if_neg (by simp)] at hfin
            simp only [Prod.mk.injEq] at hfin
            obtain ⟨rfl, rfl, rfl⟩ := hfin
            go_wp2_with fail
            refine cR.mono ?_
            rintro e w4 ⟨rfl, b4⟩
            have b5 : Below w.heap.size w w4 := bwr.trans (b4.mono bwr.size)
            go_wp2
            exact bodyPost_ret (v := .tuple #[.int .i64 RT, .int .i64 0, .int .i64 0]) (by simp [results, Tryz.results52, go_sem]) rfl ⟨rfl, b5⟩
          · rw [if_pos hE] at hfin
            simp only [Prod.mk.injEq] at hfin
            obtain ⟨rfl, rfl, rfl⟩ := hfin
            have hEb : (RE != 0) = true := by simpa using hE
            go_wp2_with fail
            refine cR.mono ?_
            rintro e w4 ⟨rfl, b4⟩
            have b5 : Below w.heap.size w w4 := bwr.trans (b4.mono bwr.size)
            have m6 : w4.cell? ⟨w.heap.size, 6, none⟩ = some (.int .i64 pos) := by rw [b4.cell (p := ⟨w.heap.size, 6, none⟩) hl0]; exact k6
            have hl4 : w.heap.size < w4.heap.size := by have := b4.size; omega
            clear cR b4
            go_wp2
            go_quiet (fail)
            go_wp2
            exact bodyPost_ret (v := .tuple #[.int .i64 0, .int .i64 RE, .int .i64 pos]) (by simp [results, Tryz.results52, go_sem]) rfl ⟨rfl, by repeat (first | exact b5 | apply below_drewN | refine Below.drew ?_)⟩
end Go.Proofs.YtpgadbpkednjkaaGreatDoor
