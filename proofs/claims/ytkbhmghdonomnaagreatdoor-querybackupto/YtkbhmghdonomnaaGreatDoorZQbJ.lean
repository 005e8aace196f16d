/-
  Package query: sameAgg; slices.EqualFunc of aggregates.
-/
import Derived.Test.YtkbhmghdonomnaaGreatDoorZQbI
namespace Go.Proofs.YtkbhmghdonomnaaGreatDoor
open Go.RowKit Go.BigFrame
set_option linter.unusedVariables false
set_option linter.unusedSimpArgs false

theorem str_dec (a b : ByteArray) : (a.toList == b.toList) = decide (a = b) := by
  rw [Lib.toList_data, Lib.toList_data]
  by_cases h : a = b
  · subst h; simp
  · rw [decide_eq_false h]
    cases he : (a.data.toList == b.data.toList) with
    | false => rfl
    | true => exact absurd (arr_eq (by simpa using he)) h
set_option maxHeartbeats 4000000 in
set_option maxRecDepth 20000 in
theorem sameAgg_q (a c : Ag) (yp : Option Addr) (yc : Nat) (zp : Option Addr) (zc : Nat) (w : World) (hx : ExIn w (fun _ => True) (exV a.arg yp yc) a.arg) (hy : ExIn w (fun _ => True) (exV c.arg zp zc) c.arg) (hz : a.arg.size ≤ 1048576) :
    Calls Tryz.prog 54 #[agV a yp yc, agV c zp zc] w fun e w' => e = .returned (.bool (sameA a c)) ∧ Below w.heap.size w w' := by
  obtain ⟨R, hR⟩ : ∃ R, sameA a c = R := ⟨_, rfl⟩
  rw [hR]
  rw [sameA, ← str_dec, ← str_dec] at hR
  have HR := (show Hid _ from hR)
  have cS := fun (V : World) (hV : Below w.heap.size w V) => treeSame_any a.arg c.arg (fun _ => True) (exV a.arg yp yc) (exV c.arg zp zc) V (hx.on hV) (hy.on hV) hz
  clear hx hy hz hR
  generalize sameE false a.arg c.arg = SB at cS HR
  obtain ⟨what, ⟨op, nm, vt, vn, vs, pos, l⟩, name⟩ := a
  obtain ⟨what2, ⟨op2, nm2, vt2, vn2, vs2, pos2, l2⟩, name2⟩ := c
  simp only [agV, exV, Ex.op, Ex.nm, Ex.vt, Ex.vn, Ex.vs, Ex.args, Ex.pos] at cS HR ⊢
  generalize l.length = N1 at cS ⊢
  generalize l2.length = N2 at cS ⊢
  have bB : Below w.heap.size w ((w.alloc (.cells #[.string what, .string op, .string nm, .int .i64 vt, .int .i64 vn, .string vs, .slice yp N1 yc, .int .i64 pos, .string name] 49)).alloc (.cells #[.string what2, .string op2, .string nm2, .int .i64 vt2, .int .i64 vn2, .string vs2, .slice zp N2 zc, .int .i64 pos2, .string name2] 49)) := (al w _).alloc (by simp) _
  have cS2 := cS _ bB
  have X1 : Blk ((w.alloc (.cells #[.string what, .string op, .string nm, .int .i64 vt, .int .i64 vn, .string vs, .slice yp N1 yc, .int .i64 pos, .string name] 49)).alloc (.cells #[.string what2, .string op2, .string nm2, .int .i64 vt2, .int .i64 vn2, .string vs2, .slice zp N2 zc, .int .i64 pos2, .string name2] 49)) w.heap.size #[.string what, .string op, .string nm, .int .i64 vt, .int .i64 vn, .string vs, .slice yp N1 yc, .int .i64 pos, .string name] 49 := (blk_alloc w _ _).on (al _ _)
  have X2 : Blk ((w.alloc (.cells #[.string what, .string op, .string nm, .int .i64 vt, .int .i64 vn, .string vs, .slice yp N1 yc, .int .i64 pos, .string name] 49)).alloc (.cells #[.string what2, .string op2, .string nm2, .int .i64 vt2, .int .i64 vn2, .string vs2, .slice zp N2 zc, .int .i64 pos2, .string name2] 49)) (w.heap.size + 1) #[.string what2, .string op2, .string nm2, .int .i64 vt2, .int .i64 vn2, .string vs2, .slice zp N2 zc, .int .i64 pos2, .string name2] 49 := by
    have := blk_alloc (w.alloc (.cells #[.string what, .string op, .string nm, .int .i64 vt, .int .i64 vn, .string vs, .slice yp N1 yc, .int .i64 pos, .string name] 49)) #[.string what2, .string op2, .string nm2, .int .i64 vt2, .int .i64 vn2, .string vs2, .slice zp N2 zc, .int .i64 pos2, .string name2] 49
    rwa [show (w.alloc (.cells #[.string what, .string op, .string nm, .int .i64 vt, .int .i64 vn, .string vs, .slice yp N1 yc, .int .i64 pos, .string name] 49)).heap.size = w.heap.size + 1 by simp] at this
  clear cS
  cases q0 : (what.toList == what2.toList)
  · have hR : R = false := by rw [← HR.out, q0]; rfl
    subst hR
    clear HR cS2
    go_enter Tryz.func54, Tryz.ntmps54
    go_wp2
    go_ret
    exact ⟨rfl, bB⟩
  · go_enter Tryz.func54, Tryz.ntmps54
    go_wp2_with fail
    refine cS2.mono ?_
    rintro e w1 ⟨rfl, b1⟩
    have B1 : Below w.heap.size w w1 := bB.trans (b1.mono bB.size)
    have Y1 := X1.on b1
    have Y2 := X2.on b1
    have g1 : w1.cell? ⟨w.heap.size, 8, none⟩ = some (.string name) := Y1.cell 8
    have g2 : w1.cell? ⟨w.heap.size + 1, 8, none⟩ = some (.string name2) := Y2.cell 8
    have l1 := Y1.lt
    have l2 := Y2.lt
    clear cS2 Y1 Y2 b1 bB
    cases SB
    · have hR : R = false := by rw [← HR.out, q0]; rfl
      subst hR
      clear HR
      go_wp2
      go_ret
      exact ⟨rfl, B1⟩
    · cases q1 : (name.toList == name2.toList)
      · have hR : R = false := by rw [← HR.out, q0, q1]; rfl
        subst hR
        clear HR
        go_wp2
        go_ret
        exact ⟨rfl, B1⟩
      · have hR : R = true := by rw [← HR.out, q0, q1]; rfl
        subst hR
        clear HR
        go_wp2
        go_ret
        exact ⟨rfl, B1⟩
set_option maxHeartbeats 4000000 in
set_option maxRecDepth 20000 in
theorem equalA_q (l m : List Ag) (p : Option Addr) (c : Nat) (q : Option Addr) (d : Nat) (w : World) (hu : AgsIs w (fun _ => True) p l) (hv : AgsIs w (fun _ => True) q m) (hl6 : l.length ≤ 1048576) (hz : ∀ x ∈ l, x.arg.size ≤ 1048576) :
    Calls Tryz.prog 53 #[.slice p l.length c, .slice q m.length d, .func (.func 54) #[] #[]] w fun e w' => e = .returned (.bool (samesA l m)) ∧ Below w.heap.size w w' := by
  obtain ⟨R, hR⟩ : ∃ R, samesA l m = R := ⟨_, rfl⟩
  have HR : Hid (samesA l m = R) := hR
  rw [hR]
  have hent := ent_sag
  by_cases hne : l.length = m.length
  · obtain ⟨N, hN⟩ : ∃ N, l.length = N := ⟨_, rfl⟩
    have hM : m.length = N := by rw [← hne]; exact hN
    have HN : Hid (l.length = N) := hN
    have HM : Hid (m.length = N) := hM
    simp only [hN, hM]
    rw [hN] at hl6
    have HU : Aside (AgsIs w (fun _ => True) p l) := hu
    have HV : Aside (AgsIs w (fun _ => True) q m) := hv
    have HZ := (show Aside _ from hz)
    have qn : ((N : Int) != (N : Int)) = false := by simp
    clear hu hv hN hM hne hR hz
    go_enter Tryz.func53, Tryz.ntmps53
    go_wp2
    go_loopg [7, 8, 9, 17] N (fun gg _ _ _ s17 wr => ∃ kk : Nat, kk ≤ N ∧ N - kk ≤ gg ∧ s17 = .int .i64 kk ∧ Aside (Below w.heap.size w wr) ∧ Hid (samesA (l.drop kk) (m.drop kk) = R))
    case atStart => exact ⟨0, Nat.zero_le _, by omega, rfl, (show Aside _ from Below.refl _ _), HR⟩
    case round =>
      obtain ⟨kk, hkk, hg, rfl, BW, A⟩ := hrel
      clear HR
      by_cases hlt : kk < N
      · have hltz : (kk : Int) < (N : Int) := by omega
        have h0z : (0 : Int) ≤ (kk : Int) := by omega
        have hk1 : kk < l.length := by rw [HN.out]; exact hlt
        have hk2 : kk < m.length := by rw [HM.out]; exact hlt
        obtain ⟨ba, oa, yp, yc, rfl, hbl, -, hrg, hx⟩ := agQ_at HU.out hk1
        obtain ⟨bb, ob, zp, zc, rfl, hbl2, -, hrgb, hy⟩ := agQ_at HV.out hk2
        have hra := range_on hrg hbl BW.out
        have hrb := range_on hrgb hbl2 BW.out
        have HD : Hid ((sameA l[kk] m[kk] && samesA (l.drop (kk + 1)) (m.drop (kk + 1))) = R) := by show _ = _; rw [← samesA_drop hk1 hk2]; exact A.out
        have lb1 : ba < wr.heap.size := by have := BW.out.size; omega
        have lb2 : bb < wr.heap.size := by have := BW.out.size; omega
        have cS := fun (V : World) (hV : Below wr.heap.size wr V) => sameAgg_q l[kk] m[kk] yp yc zp zc V ((hx.on BW.out).on hV) ((hy.on BW.out).on hV) (HZ.out _ (List.getElem_mem hk1))
        clear hrg hrgb hx hy A
        generalize sameA l[kk] m[kk] = SB at cS HD
        generalize l[kk] = x at cS hra
        generalize m[kk] = y at cS hrb
        obtain ⟨what, ⟨op, nm, vt, vn, vs, pos, as1⟩, name⟩ := x
        obtain ⟨what2, ⟨op2, nm2, vt2, vn2, vs2, pos2, as2⟩, name2⟩ := y
        simp only [agV, exV, Ex.op, Ex.nm, Ex.vt, Ex.vn, Ex.vs, Ex.args, Ex.pos] at cS hra hrb
        generalize as1.length = N1 at cS hra
        generalize as2.length = N2 at cS hrb
        have hld1 : ∀ {ops : Array Oper} {rest : List Oper} {op' : Oper} {a : Act} {Q : Exit → Act → World → Prop} (hgd : op'.guard = none) (x : Operand) (ho : op'.op = .load 49 x) (hx : a.eval x = .pointer (some ⟨ba, oa + kk * 9, none⟩)), wpList Tryz.prog ops Q rest (a.put op'.dst (.agg #[.string what, .string op, .string nm, .int .i64 vt, .int .i64 vn, .string vs, .slice yp N1 yc, .int .i64 pos, .string name])) wr → wpList Tryz.prog ops Q (op' :: rest) a wr := fun hgd x ho hx => wpList_load_mid hgd 49 x ho ba (oa + kk * 9) hx _ _ hra Tryz.underlying49 rfl size_agU
        have bB := al wr (.cells #[.string what, .string op, .string nm, .int .i64 vt, .int .i64 vn, .string vs, .slice yp N1 yc, .int .i64 pos, .string name] 49)
        have hrb2 := range_on hrb lb2 bB
        have hld2 : ∀ {ops : Array Oper} {rest : List Oper} {op' : Oper} {a : Act} {Q : Exit → Act → World → Prop} (hgd : op'.guard = none) (x : Operand) (ho : op'.op = .load 49 x) (hx : a.eval x = .pointer (some ⟨bb, ob + kk * 9, none⟩)), wpList Tryz.prog ops Q rest (a.put op'.dst (.agg #[.string what2, .string op2, .string nm2, .int .i64 vt2, .int .i64 vn2, .string vs2, .slice zp N2 zc, .int .i64 pos2, .string name2])) (wr.alloc (.cells #[.string what, .string op, .string nm, .int .i64 vt, .int .i64 vn, .string vs, .slice yp N1 yc, .int .i64 pos, .string name] 49)) → wpList Tryz.prog ops Q (op' :: rest) a (wr.alloc (.cells #[.string what, .string op, .string nm, .int .i64 vt, .int .i64 vn, .string vs, .slice yp N1 yc, .int .i64 pos, .string name] 49)) := fun hgd x ho hx => wpList_load_mid hgd 49 x ho bb (ob + kk * 9) hx _ _ hrb2 Tryz.underlying49 rfl size_agU
        have bC : Below wr.heap.size wr ((wr.alloc (.cells #[.string what, .string op, .string nm, .int .i64 vt, .int .i64 vn, .string vs, .slice yp N1 yc, .int .i64 pos, .string name] 49)).alloc (.cells #[.string what2, .string op2, .string nm2, .int .i64 vt2, .int .i64 vn2, .string vs2, .slice zp N2 zc, .int .i64 pos2, .string name2] 49)) := bB.alloc (by simp) _
        have cS2 := cS _ bC
        clear hra hrb hrb2 cS
        go_wp2_with (first | (refine hld1 rfl _ rfl rfl ?_) | (refine hld2 rfl _ rfl rfl ?_))
        refine cS2.mono ?_
        rintro e w1 ⟨rfl, b1⟩
        have B1 : Aside (Below w.heap.size w w1) := BW.out.trans ((bC.trans (b1.mono bC.size)).mono BW.out.size)
        clear hld1 hld2 cS2 BW b1 bC bB
        cases SB
        · have hR : R = false := by rw [← HD.out]; rfl
          subst hR
          clear HD
          go_wp2
          go_ret
          exact ⟨rfl, B1.out⟩
        · have HD2 : Hid (samesA (l.drop (kk + 1)) (m.drop (kk + 1)) = R) := by show _ = _; rw [← HD.out]; rfl
          clear HD
          go_wp2
          go_roundg (N - (kk + 1))
          case measure => omega
          case rel => exact ⟨kk + 1, by omega, by omega, by go_num, B1, HD2⟩
      · have hltz : ¬ (kk : Int) < (N : Int) := by omega
        have hR : R = true := by
          rw [← A.out, List.drop_eq_nil_of_le (by rw [HN.out]; omega), List.drop_eq_nil_of_le (by rw [HM.out]; omega), samesA]
        subst hR
        clear A
        go_wp2
        go_ret
        exact ⟨rfl, BW.out⟩
  · have hR2 : R = false := by rw [← hR]; exact samesA_len hne
    subst hR2
    have qn : ((l.length : Int) != (m.length : Int)) = true := by simp; omega
    clear hu hv HR hR hz
    generalize l.length = N at *
    generalize m.length = M at *
    go_enter Tryz.func53, Tryz.ntmps53
    go_wp2
    go_ret
    exact ⟨rfl, Below.refl _ _⟩
end Go.Proofs.YtkbhmghdonomnaaGreatDoor
