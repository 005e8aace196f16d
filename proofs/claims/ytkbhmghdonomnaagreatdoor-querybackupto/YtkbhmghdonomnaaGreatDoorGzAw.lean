/-
  QbI, QbJ, QbK, QbL, in one text.
-/
import Derived.Test.YtkbhmghdonomnaaGreatDoorZTreeSame
import Derived.Test.YtkbhmghdonomnaaGreatDoorZQuC4
import Derived.Test.YtkbhmghdonomnaaGreatDoorGzAv
import Derived.Test.YtkbhmghdonomnaaGreatDoorZQbH
namespace Go.Proofs.YtkbhmghdonomnaaGreatDoor
open Go.RowKit Go.BigFrame
set_option linter.unusedVariables false
set_option linter.unusedSimpArgs false
def eqS : List ByteArray → List ByteArray → Bool
 | [], [] => true
 | x :: xs, y :: ys => (x.toList == y.toList) && eqS xs ys
 | _, _ => false
theorem eqS_is : ∀ {l m : List ByteArray}, eqS l m = true ↔ l = m
 | [], [] => by simp [eqS]
 | [], y :: ys => by simp [eqS]
 | x :: xs, [] => by simp [eqS]
 | x :: xs, y :: ys => by
  rw [eqS, Bool.and_eq_true, eqS_is (l := xs) (m := ys)]
  simp only [beq_iff_eq, Lib.toList_data, List.cons.injEq]
  exact ⟨fun ⟨h1, h2⟩ => ⟨arr_eq h1, h2⟩, fun ⟨h1, h2⟩ => ⟨by rw [h1], h2⟩⟩
theorem eqS_dec (l m : List ByteArray) : eqS l m = decide (l = m) := by
 by_cases h : l = m
 ·rw [eqS_is.2 h, decide_eq_true h]
 ·rw [decide_eq_false h]
  cases he : eqS l m with
  | false => rfl
  | true => exact absurd (eqS_is.1 he) h
theorem eqS_len : ∀ {l m : List ByteArray}, l.length ≠ m.length → eqS l m = false
 | [], [], h => absurd rfl h
 | [], y :: ys, _ => by simp [eqS]
 | x :: xs, [], _ => by simp [eqS]
 | x :: xs, y :: ys, h => by rw [eqS, eqS_len (l := xs) (m := ys) (by simpa using h), Bool.and_false]
theorem eqS_drop {l m : List ByteArray} {k : Nat} (h1 : k < l.length) (h2 : k < m.length) : eqS (l.drop k) (m.drop k) = ((l[k].toList == m[k].toList) && eqS (l.drop (k + 1)) (m.drop (k + 1))) := by
 rw [List.drop_eq_getElem_cons h1, List.drop_eq_getElem_cons h2, eqS]
theorem sameL_drop {l m : List Ex} {k : Nat} (h1 : k < l.length) (h2 : k < m.length) : sameL false (l.drop k) (m.drop k) = (sameE false l[k] m[k] && sameL false (l.drop (k + 1)) (m.drop (k + 1))) := by
 rw [List.drop_eq_getElem_cons h1, List.drop_eq_getElem_cons h2, sameL]
theorem samesA_drop {l m : List Ag} {k : Nat} (h1 : k < l.length) (h2 : k < m.length) : samesA (l.drop k) (m.drop k) = (sameA l[k] m[k] && samesA (l.drop (k + 1)) (m.drop (k + 1))) := by
 rw [List.drop_eq_getElem_cons h1, List.drop_eq_getElem_cons h2, samesA]
theorem samesA_len : ∀ {l m : List Ag}, l.length ≠ m.length → samesA l m = false
 | [], [], h => absurd rfl h
 | [], y :: ys, _ => by simp [samesA]
 | x :: xs, [], _ => by simp [samesA]
 | x :: xs, y :: ys, h => by rw [samesA, samesA_len (l := xs) (m := ys) (by simpa using h), Bool.and_false]
set_option maxHeartbeats 4000000 in
set_option maxRecDepth 20000 in
theorem equalS_q (l m : List ByteArray) (u v : Value) (w : World) (hu : StsA w u l) (hv : StsA w v m) :
  Calls Tryz.prog 52 #[u, v] w fun e w' => e = .returned (.bool (eqS l m)) ∧ Below w.heap.size w w' := by
 obtain ⟨p, c, rfl⟩ := sts_form hu
 obtain ⟨q, d, rfl⟩ := sts_form hv
 obtain ⟨R, hR⟩ : ∃ R, eqS l m = R := ⟨_, rfl⟩
 have HR : Hid (eqS l m = R) := hR
 rw [hR]
 have hl6 : l.length ≤ 1048576 := by obtain ⟨_, _, _, ⟨_, h⟩, _⟩ := hu; exact h
 by_cases hne : l.length = m.length
 ·obtain ⟨N, hN⟩ : ∃ N, l.length = N := ⟨_, rfl⟩
  have hM : m.length = N := by rw [← hne]; exact hN
  have HN : Hid (l.length = N) := hN
  have HM : Hid (m.length = N) := hM
  simp only [hN, hM] at hu hv ⊢
  rw [hN] at hl6
  have HU : Aside (StsA w (.slice p N c) l) := hu
  have HV : Aside (StsA w (.slice q N d) m) := hv
  have qn : ((N : Int) != (N : Int)) = false := by simp
  clear hu hv hN hM hne hR
  go_enter Tryz.func52, Tryz.ntmps52
  go_wp2
  go_loopg [5, 13] N (fun gg _ s13 wr => ∃ kk : Nat, kk ≤ N ∧ N - kk ≤ gg ∧ s13 = .int .i64 kk ∧ Aside (Below w.heap.size w wr) ∧ Hid (eqS (l.drop kk) (m.drop kk) = R))
  case atStart => exact ⟨0, Nat.zero_le _, by omega, rfl, (show Aside _ from Below.refl _ _), HR⟩
  case round =>
   obtain ⟨kk, hkk, hg, rfl, BW, A⟩ := hrel
   clear HR
   by_cases hlt : kk < N
   ·have hltz : (kk : Int) < (N : Int) := by omega
    have h0z : (0 : Int) ≤ (kk : Int) := by omega
    have hk1 : kk < l.length := by rw [HN.out]; exact hlt
    have hk2 : kk < m.length := by rw [HM.out]; exact hlt
    obtain ⟨b1, o1, rfl, l1, h1⟩ := sts_some HU.out hk1
    obtain ⟨b2, o2, rfl, l2, h2⟩ := sts_some HV.out hk2
    have e1 : wr.cell? ⟨b1, o1 + kk, none⟩ = some (.string l[kk]) := by rw [BW.out.cell (p := ⟨b1, _, none⟩) l1]; exact h1 kk hk1
    have e2 : wr.cell? ⟨b2, o2 + kk, none⟩ = some (.string m[kk]) := by rw [BW.out.cell (p := ⟨b2, _, none⟩) l2]; exact h2 kk hk2
    have HD : Hid (((l[kk].toList == m[kk].toList) && eqS (l.drop (kk + 1)) (m.drop (kk + 1))) = R) := by show _ = _; rw [← eqS_drop hk1 hk2]; exact A.out
    have lb1 : b1 < wr.heap.size := by have := BW.out.size; omega
    have lb2 : b2 < wr.heap.size := by have := BW.out.size; omega
    clear h1 h2 A
    generalize l[kk] = S at e1 HD
    generalize m[kk] = T at e2 HD
    cases qs : (S.toList == T.toList)
    ·have hR : R = false := by rw [← HD.out, qs]; rfl
     subst hR
     clear HD
     go_wp2
     go_quiet (fail)
     go_wp2
     go_ret
     exact ⟨rfl, below_drewN BW.out _⟩
    ·have HD2 : Hid (eqS (l.drop (kk + 1)) (m.drop (kk + 1)) = R) := by show _ = _; rw [← HD.out, qs]; rfl
     clear HD
     go_wp2
     go_quiet (fail)
     go_wp2
     go_roundg (N - (kk + 1))
     case measure => omega
     case rel => exact ⟨kk + 1, by omega, by omega, by go_num, (show Aside _ from below_drewN BW.out _), HD2⟩
   ·have hltz : ¬ (kk : Int) < (N : Int) := by omega
    have hR : R = true := by
     rw [← A.out, List.drop_eq_nil_of_le (by rw [HN.out]; omega), List.drop_eq_nil_of_le (by rw [HM.out]; omega)]; rfl
    subst hR
    clear A
    go_wp2
    go_ret
    exact ⟨rfl, BW.out⟩
 ·have hR2 : R = false := by rw [← hR]; exact eqS_len hne
  subst hR2
  have qn : ((l.length : Int) != (m.length : Int)) = true := by simp; omega
  clear hu hv HR hR
  generalize l.length = N at *
  generalize m.length = M at *
  go_enter Tryz.func52, Tryz.ntmps52
  go_wp2
  go_ret
  exact ⟨rfl, Below.refl _ _⟩
theorem ent_same (args : Array Value) (W : World) : Sem.run Tryz.prog (callFunc 50 args) W = .ok (.enter 50 args) W := by kernel_rfl
theorem ent_sag (args : Array Value) (W : World) : Sem.run Tryz.prog (callFunc 54 args) W = .ok (.enter 54 args) W := by kernel_rfl
set_option maxHeartbeats 4000000 in
set_option maxRecDepth 20000 in
theorem equalE_q (l m : List Ex) (p : Option Addr) (c : Nat) (q : Option Addr) (d : Nat) (w : World) (hu : ArgsIs w (fun _ => True) (.slice p l.length c) l) (hv : ArgsIs w (fun _ => True) (.slice q m.length d) m) (hl6 : l.length ≤ 1048576) (hz : ∀ x ∈ l, x.size ≤ 1048576) :
  Calls Tryz.prog 51 #[.slice p l.length c, .slice q m.length d, .func (.func 50) #[] #[]] w fun e w' => e = .returned (.bool (sameL false l m)) ∧ Below w.heap.size w w' := by
 obtain ⟨R, hR⟩ : ∃ R, sameL false l m = R := ⟨_, rfl⟩
 have HR : Hid (sameL false l m = R) := hR
 rw [hR]
 have hent := ent_same
 by_cases hne : l.length = m.length
 ·obtain ⟨N, hN⟩ : ∃ N, l.length = N := ⟨_, rfl⟩
  have hM : m.length = N := by rw [← hne]; exact hN
  have HN : Hid (l.length = N) := hN
  have HM : Hid (m.length = N) := hM
  simp only [hN, hM] at hu hv ⊢
  rw [hN] at hl6
  have HU : Aside (ArgsIs w (fun _ => True) (.slice p N c) l) := hu
  have HV : Aside (ArgsIs w (fun _ => True) (.slice q N d) m) := hv
  have HZ := (show Aside _ from hz)
  have qn : ((N : Int) != (N : Int)) = false := by simp
  clear hu hv hN hM hne hR hz
  go_enter Tryz.func51, Tryz.ntmps51
  go_wp2
  go_loopg [7, 8, 9, 17] N (fun gg _ _ _ s17 wr => ∃ kk : Nat, kk ≤ N ∧ N - kk ≤ gg ∧ s17 = .int .i64 kk ∧ Aside (Below w.heap.size w wr) ∧ Hid (sameL false (l.drop kk) (m.drop kk) = R))
  case atStart => exact ⟨0, Nat.zero_le _, by omega, rfl, (show Aside _ from Below.refl _ _), HR⟩
  case round =>
   obtain ⟨kk, hkk, hg, rfl, BW, A⟩ := hrel
   clear HR
   by_cases hlt : kk < N
   ·have hltz : (kk : Int) < (N : Int) := by omega
    have h0z : (0 : Int) ≤ (kk : Int) := by omega
    have hk1 : kk < l.length := by rw [HN.out]; exact hlt
    have hk2 : kk < m.length := by rw [HM.out]; exact hlt
    obtain ⟨ba, oa, yp, yc, rfl, hbl, -, hrg, hx⟩ := partQ_at HU.out hk1
    obtain ⟨bb, ob, zp, zc, rfl, hbl2, -, hrgb, hy⟩ := partQ_at HV.out hk2
    have hra := range_on hrg hbl BW.out
    have hrb := range_on hrgb hbl2 BW.out
    have HD : Hid ((sameE false l[kk] m[kk] && sameL false (l.drop (kk + 1)) (m.drop (kk + 1))) = R) := by show _ = _; rw [← sameL_drop hk1 hk2]; exact A.out
    have lb1 : ba < wr.heap.size := by have := BW.out.size; omega
    have lb2 : bb < wr.heap.size := by have := BW.out.size; omega
    have cS := fun (V : World) (hV : Below wr.heap.size wr V) => treeSame_any l[kk] m[kk] (fun _ => True) (exV l[kk] yp yc) (exV m[kk] zp zc) V ((hx.on BW.out).on hV) ((hy.on BW.out).on hV) (HZ.out _ (List.getElem_mem hk1))
    clear hrg hrgb hx hy A
    generalize sameE false l[kk] m[kk] = SB at cS HD
    generalize l[kk] = x at cS hra
    generalize m[kk] = y at cS hrb
    obtain ⟨op, nm, vt, vn, vs, pos, as1⟩ := x
    obtain ⟨op2, nm2, vt2, vn2, vs2, pos2, as2⟩ := y
    simp only [exV, Ex.op, Ex.nm, Ex.vt, Ex.vn, Ex.vs, Ex.args, Ex.pos] at cS hra hrb
    generalize as1.length = N1 at cS hra
    generalize as2.length = N2 at cS hrb
    have hld1 : ∀ {ops : Array Oper} {rest : List Oper} {op' : Oper} {a : Act} {Q : Exit → Act → World → Prop} (hgd : op'.guard = none) (x : Operand) (ho : op'.op = .load 26 x) (hx : a.eval x = .pointer (some ⟨ba, oa + kk * 7, none⟩)), wpList Tryz.prog ops Q rest (a.put op'.dst (.agg #[.string op, .string nm, .int .i64 vt, .int .i64 vn, .string vs, .slice yp N1 yc, .int .i64 pos])) wr → wpList Tryz.prog ops Q (op' :: rest) a wr := fun hgd x ho hx => wpList_load_mid hgd 26 x ho ba (oa + kk * 7) hx _ _ hra Tryz.underlying26 rfl size_exU
    have bB := al wr (.cells #[.string op, .string nm, .int .i64 vt, .int .i64 vn, .string vs, .slice yp N1 yc, .int .i64 pos] 26)
    have hrb2 := range_on hrb lb2 bB
    have hld2 : ∀ {ops : Array Oper} {rest : List Oper} {op' : Oper} {a : Act} {Q : Exit → Act → World → Prop} (hgd : op'.guard = none) (x : Operand) (ho : op'.op = .load 26 x) (hx : a.eval x = .pointer (some ⟨bb, ob + kk * 7, none⟩)), wpList Tryz.prog ops Q rest (a.put op'.dst (.agg #[.string op2, .string nm2, .int .i64 vt2, .int .i64 vn2, .string vs2, .slice zp N2 zc, .int .i64 pos2])) (wr.alloc (.cells #[.string op, .string nm, .int .i64 vt, .int .i64 vn, .string vs, .slice yp N1 yc, .int .i64 pos] 26)) → wpList Tryz.prog ops Q (op' :: rest) a (wr.alloc (.cells #[.string op, .string nm, .int .i64 vt, .int .i64 vn, .string vs, .slice yp N1 yc, .int .i64 pos] 26)) := fun hgd x ho hx => wpList_load_mid hgd 26 x ho bb (ob + kk * 7) hx _ _ hrb2 Tryz.underlying26 rfl size_exU
    have bC : Below wr.heap.size wr ((wr.alloc (.cells #[.string op, .string nm, .int .i64 vt, .int .i64 vn, .string vs, .slice yp N1 yc, .int .i64 pos] 26)).alloc (.cells #[.string op2, .string nm2, .int .i64 vt2, .int .i64 vn2, .string vs2, .slice zp N2 zc, .int .i64 pos2] 26)) := bB.alloc (by simp) _
    have cS2 := cS _ bC
    clear hra hrb hrb2 cS
    go_wp2_with (first | (refine hld1 rfl _ rfl rfl ?_) | (refine hld2 rfl _ rfl rfl ?_))
    refine cS2.mono ?_
    rintro e w1 ⟨rfl, b1⟩
    have B1 : Aside (Below w.heap.size w w1) := BW.out.trans ((bC.trans (b1.mono bC.size)).mono BW.out.size)
    clear hld1 hld2 cS2 BW b1 bC bB
    cases SB
    ·have hR : R = false := by rw [← HD.out]; rfl
     subst hR
     clear HD
     go_wp2
     go_ret
     exact ⟨rfl, B1.out⟩
    ·have HD2 : Hid (sameL false (l.drop (kk + 1)) (m.drop (kk + 1)) = R) := by show _ = _; rw [← HD.out]; rfl
     clear HD
     go_wp2
     go_roundg (N - (kk + 1))
     case measure => omega
     case rel => exact ⟨kk + 1, by omega, by omega, by go_num, B1, HD2⟩
   ·have hltz : ¬ (kk : Int) < (N : Int) := by omega
    have hR : R = true := by
     rw [← A.out, List.drop_eq_nil_of_le (by rw [HN.out]; omega), List.drop_eq_nil_of_le (by rw [HM.out]; omega), sameL]
    subst hR
    clear A
    go_wp2
    go_ret
    exact ⟨rfl, BW.out⟩
 ·have hR2 : R = false := by rw [← hR]; exact sameL_len hne
  subst hR2
  have qn : ((l.length : Int) != (m.length : Int)) = true := by simp; omega
  clear hu hv HR hR hz
  generalize l.length = N at *
  generalize m.length = M at *
  go_enter Tryz.func51, Tryz.ntmps51
  go_wp2
  go_ret
  exact ⟨rfl, Below.refl _ _⟩
theorem str_dec (a b : ByteArray) : (a.toList == b.toList) = decide (a = b) := by
 rw [Lib.toList_data, Lib.toList_data]
 by_cases h : a = b
 ·subst h; simp
 ·rw [decide_eq_false h]
  cases he : (a.data.toList == b.data.toList) with
  | false => rfl
  | true => exact absurd (arr_eq (by simpa using he)) h
set_option maxHeartbeats 4000000 in
set_option maxRecDepth 20000 in
theorem sameAgg_q (a c : Ag) (yp : Option Addr) (yc : Nat) (zp : Option Addr) (zc : Nat) (w : World) (hx : ExIn w (fun _ => True) (exV a.arg yp yc) a.arg) (hy : ExIn w (fun _ => True) (exV c.arg zp zc) c.arg) (hz : a.arg.size ≤ 1048576) :
  Calls Tryz.prog 54 #[agV a yp yc, agV c zp zc] w fun e w' => e = .returned (.bool (sameA a c)) ∧ Below w.heap.size w w' := by
 obtain ⟨R, hR⟩ : ∃ R, sameA a c = R := ⟨_, rfl⟩
 rw [hR]
 rw [sameA, ← str_dec, ← str_dec] at hR
 have HR := (show Hid _ from hR)
 have cS := fun (V : World) (hV : Below w.heap.size w V) => treeSame_any a.arg c.arg (fun _ => True) (exV a.arg yp yc) (exV c.arg zp zc) V (hx.on hV) (hy.on hV) hz
 clear hx hy hz hR
 generalize sameE false a.arg c.arg = SB at cS HR
 obtain ⟨what, ⟨op, nm, vt, vn, vs, pos, l⟩, name⟩ := a
 obtain ⟨what2, ⟨op2, nm2, vt2, vn2, vs2, pos2, l2⟩, name2⟩ := c
 simp only [agV, exV, Ex.op, Ex.nm, Ex.vt, Ex.vn, Ex.vs, Ex.args, Ex.pos] at cS HR ⊢
 generalize l.length = N1 at cS ⊢
 generalize l2.length = N2 at cS ⊢
 have bB : Below w.heap.size w ((w.alloc (.cells #[.string what, .string op, .string nm, .int .i64 vt, .int .i64 vn, .string vs, .slice yp N1 yc, .int .i64 pos, .string name] 49)).alloc (.cells #[.string what2, .string op2, .string nm2, .int .i64 vt2, .int .i64 vn2, .string vs2, .slice zp N2 zc, .int .i64 pos2, .string name2] 49)) := (al w _).alloc (by simp) _
 have cS2 := cS _ bB
 have X1 : Blk ((w.alloc (.cells #[.string what, .string op, .string nm, .int .i64 vt, .int .i64 vn, .string vs, .slice yp N1 yc, .int .i64 pos, .string name] 49)).alloc (.cells #[.string what2, .string op2, .string nm2, .int .i64 vt2, .int .i64 vn2, .string vs2, .slice zp N2 zc, .int .i64 pos2, .string name2] 49)) w.heap.size #[.string what, .string op, .string nm, .int .i64 vt, .int .i64 vn, .string vs, .slice yp N1 yc, .int .i64 pos, .string name] 49 := (blk_alloc w _ _).on (al _ _)
 have X2 : Blk ((w.alloc (.cells #[.string what, .string op, .string nm, .int .i64 vt, .int .i64 vn, .string vs, .slice yp N1 yc, .int .i64 pos, .string name] 49)).alloc (.cells #[.string what2, .string op2, .string nm2, .int .i64 vt2, .int .i64 vn2, .string vs2, .slice zp N2 zc, .int .i64 pos2, .string name2] 49)) (w.heap.size + 1) #[.string what2, .string op2, .string nm2, .int .i64 vt2, .int .i64 vn2, .string vs2, .slice zp N2 zc, .int .i64 pos2, .string name2] 49 := by
  have := blk_alloc (w.alloc (.cells #[.string what, .string op, .string nm, .int .i64 vt, .int .i64 vn, .string vs, .slice yp N1 yc, .int .i64 pos, .string name] 49)) #[.string what2, .string op2, .string nm2, .int .i64 vt2, .int .i64 vn2, .string vs2, .slice zp N2 zc, .int .i64 pos2, .string name2] 49
  rwa [show (w.alloc (.cells #[.string what, .string op, .string nm, .int .i64 vt, .int .i64 vn, .string vs, .slice yp N1 yc, .int .i64 pos, .string name] 49)).heap.size = w.heap.size + 1 by simp] at this
 clear cS
 cases q0 : (what.toList == what2.toList)
 ·have hR : R = false := by rw [← HR.out, q0]; rfl
  subst hR
  clear HR cS2
  go_enter Tryz.func54, Tryz.ntmps54
  go_wp2
  go_ret
  exact ⟨rfl, bB⟩
 ·go_enter Tryz.func54, Tryz.ntmps54
  go_wp2_with fail
  refine cS2.mono ?_
  rintro e w1 ⟨rfl, b1⟩
  have B1 : Below w.heap.size w w1 := bB.trans (b1.mono bB.size)
  have Y1 := X1.on b1
  have Y2 := X2.on b1
  have g1 : w1.cell? ⟨w.heap.size, 8, none⟩ = some (.string name) := Y1.cell 8
  have g2 : w1.cell? ⟨w.heap.size + 1, 8, none⟩ = some (.string name2) := Y2.cell 8
  have l1 := Y1.lt
  have l2 := Y2.lt
  clear cS2 Y1 Y2 b1 bB
  cases SB
  ·have hR : R = false := by rw [← HR.out, q0]; rfl
   subst hR
   clear HR
   go_wp2
   go_ret
   exact ⟨rfl, B1⟩
  ·cases q1 : (name.toList == name2.toList)
   ·have hR : R = false := by rw [← HR.out, q0, q1]; rfl
    subst hR
    clear HR
    go_wp2
    go_ret
    exact ⟨rfl, B1⟩
   ·have hR : R = true := by rw [← HR.out, q0, q1]; rfl
    subst hR
    clear HR
    go_wp2
    go_ret
    exact ⟨rfl, B1⟩
set_option maxHeartbeats 4000000 in
set_option maxRecDepth 20000 in
theorem equalA_q (l m : List Ag) (p : Option Addr) (c : Nat) (q : Option Addr) (d : Nat) (w : World) (hu : AgsIs w (fun _ => True) p l) (hv : AgsIs w (fun _ => True) q m) (hl6 : l.length ≤ 1048576) (hz : ∀ x ∈ l, x.arg.size ≤ 1048576) :
  Calls Tryz.prog 53 #[.slice p l.length c, .slice q m.length d, .func (.func 54) #[] #[]] w fun e w' => e = .returned (.bool (samesA l m)) ∧ Below w.heap.size w w' := by
 obtain ⟨R, hR⟩ : ∃ R, samesA l m = R := ⟨_, rfl⟩
 have HR : Hid (samesA l m = R) := hR
 rw [hR]
 have hent := ent_sag
 by_cases hne : l.length = m.length
 ·obtain ⟨N, hN⟩ : ∃ N, l.length = N := ⟨_, rfl⟩
  have hM : m.length = N := by rw [← hne]; exact hN
  have HN : Hid (l.length = N) := hN
  have HM : Hid (m.length = N) := hM
  simp only [hN, hM]
  rw [hN] at hl6
  have HU : Aside (AgsIs w (fun _ => True) p l) := hu
  have HV : Aside (AgsIs w (fun _ => True) q m) := hv
  have HZ := (show Aside _ from hz)
  have qn : ((N : Int) != (N : Int)) = false := by simp
  clear hu hv hN hM hne hR hz
  go_enter Tryz.func53, Tryz.ntmps53
  go_wp2
  go_loopg [7, 8, 9, 17] N (fun gg _ _ _ s17 wr => ∃ kk : Nat, kk ≤ N ∧ N - kk ≤ gg ∧ s17 = .int .i64 kk ∧ Aside (Below w.heap.size w wr) ∧ Hid (samesA (l.drop kk) (m.drop kk) = R))
  case atStart => exact ⟨0, Nat.zero_le _, by omega, rfl, (show Aside _ from Below.refl _ _), HR⟩
  case round =>
   obtain ⟨kk, hkk, hg, rfl, BW, A⟩ := hrel
   clear HR
   by_cases hlt : kk < N
   ·have hltz : (kk : Int) < (N : Int) := by omega
    have h0z : (0 : Int) ≤ (kk : Int) := by omega
    have hk1 : kk < l.length := by rw [HN.out]; exact hlt
    have hk2 : kk < m.length := by rw [HM.out]; exact hlt
    obtain ⟨ba, oa, yp, yc, rfl, hbl, -, hrg, hx⟩ := agQ_at HU.out hk1
    obtain ⟨bb, ob, zp, zc, rfl, hbl2, -, hrgb, hy⟩ := agQ_at HV.out hk2
    have hra := range_on hrg hbl BW.out
    have hrb := range_on hrgb hbl2 BW.out
    have HD : Hid ((sameA l[kk] m[kk] && samesA (l.drop (kk + 1)) (m.drop (kk + 1))) = R) := by show _ = _; rw [← samesA_drop hk1 hk2]; exact A.out
    have lb1 : ba < wr.heap.size := by have := BW.out.size; omega
    have lb2 : bb < wr.heap.size := by have := BW.out.size; omega
    have cS := fun (V : World) (hV : Below wr.heap.size wr V) => sameAgg_q l[kk] m[kk] yp yc zp zc V ((hx.on BW.out).on hV) ((hy.on BW.out).on hV) (HZ.out _ (List.getElem_mem hk1))
    clear hrg hrgb hx hy A
    generalize sameA l[kk] m[kk] = SB at cS HD
    generalize l[kk] = x at cS hra
    generalize m[kk] = y at cS hrb
    obtain ⟨what, ⟨op, nm, vt, vn, vs, pos, as1⟩, name⟩ := x
    obtain ⟨what2, ⟨op2, nm2, vt2, vn2, vs2, pos2, as2⟩, name2⟩ := y
    simp only [agV, exV, Ex.op, Ex.nm, Ex.vt, Ex.vn, Ex.vs, Ex.args, Ex.pos] at cS hra hrb
    generalize as1.length = N1 at cS hra
    generalize as2.length = N2 at cS hrb
    have hld1 : ∀ {ops : Array Oper} {rest : List Oper} {op' : Oper} {a : Act} {Q : Exit → Act → World → Prop} (hgd : op'.guard = none) (x : Operand) (ho : op'.op = .load 49 x) (hx : a.eval x = .pointer (some ⟨ba, oa + kk * 9, none⟩)), wpList Tryz.prog ops Q rest (a.put op'.dst (.agg #[.string what, .string op, .string nm, .int .i64 vt, .int .i64 vn, .string vs, .slice yp N1 yc, .int .i64 pos, .string name])) wr → wpList Tryz.prog ops Q (op' :: rest) a wr := fun hgd x ho hx => wpList_load_mid hgd 49 x ho ba (oa + kk * 9) hx _ _ hra Tryz.underlying49 rfl size_agU
    have bB := al wr (.cells #[.string what, .string op, .string nm, .int .i64 vt, .int .i64 vn, .string vs, .slice yp N1 yc, .int .i64 pos, .string name] 49)
    have hrb2 := range_on hrb lb2 bB
    have hld2 : ∀ {ops : Array Oper} {rest : List Oper} {op' : Oper} {a : Act} {Q : Exit → Act → World → Prop} (hgd : op'.guard = none) (x : Operand) (ho : op'.op = .load 49 x) (hx : a.eval x = .pointer (some ⟨bb, ob + kk * 9, none⟩)), wpList Tryz.prog ops Q rest (a.put op'.dst (.agg #[.string what2, .string op2, .string nm2, .int .i64 vt2, .int .i64 vn2, .string vs2, .slice zp N2 zc, .int .i64 pos2, .string name2])) (wr.alloc (.cells #[.string what, .string op, .string nm, .int .i64 vt, .int .i64 vn, .string vs, .slice yp N1 yc, .int .i64 pos, .string name] 49)) → wpList Tryz.prog ops Q (op' :: rest) a (wr.alloc (.cells #[.string what, .string op, .string nm, .int .i64 vt, .int .i64 vn, .string vs, .slice yp N1 yc, .int .i64 pos, .string name] 49)) := fun hgd x ho hx => wpList_load_mid hgd 49 x ho bb (ob + kk * 9) hx _ _ hrb2 Tryz.underlying49 rfl size_agU
    have bC : Below wr.heap.size wr ((wr.alloc (.cells #[.string what, .string op, .string nm, .int .i64 vt, .int .i64 vn, .string vs, .slice yp N1 yc, .int .i64 pos, .string name] 49)).alloc (.cells #[.string what2, .string op2, .string nm2, .int .i64 vt2, .int .i64 vn2, .string vs2, .slice zp N2 zc, .int .i64 pos2, .string name2] 49)) := bB.alloc (by simp) _
    have cS2 := cS _ bC
    clear hra hrb hrb2 cS
    go_wp2_with (first | (refine hld1 rfl _ rfl rfl ?_) | (refine hld2 rfl _ rfl rfl ?_))
    refine cS2.mono ?_
    rintro e w1 ⟨rfl, b1⟩
    have B1 : Aside (Below w.heap.size w w1) := BW.out.trans ((bC.trans (b1.mono bC.size)).mono BW.out.size)
    clear hld1 hld2 cS2 BW b1 bC bB
    cases SB
    ·have hR : R = false := by rw [← HD.out]; rfl
     subst hR
     clear HD
     go_wp2
     go_ret
     exact ⟨rfl, B1.out⟩
    ·have HD2 : Hid (samesA (l.drop (kk + 1)) (m.drop (kk + 1)) = R) := by show _ = _; rw [← HD.out]; rfl
     clear HD
     go_wp2
     go_roundg (N - (kk + 1))
     case measure => omega
     case rel => exact ⟨kk + 1, by omega, by omega, by go_num, B1, HD2⟩
   ·have hltz : ¬ (kk : Int) < (N : Int) := by omega
    have hR : R = true := by
     rw [← A.out, List.drop_eq_nil_of_le (by rw [HN.out]; omega), List.drop_eq_nil_of_le (by rw [HM.out]; omega), samesA]
    subst hR
    clear A
    go_wp2
    go_ret
    exact ⟨rfl, BW.out⟩
 ·have hR2 : R = false := by rw [← hR]; exact samesA_len hne
  subst hR2
  have qn : ((l.length : Int) != (m.length : Int)) = true := by simp; omega
  clear hu hv HR hR hz
  generalize l.length = N at *
  generalize m.length = M at *
  go_enter Tryz.func53, Tryz.ntmps53
  go_wp2
  go_ret
  exact ⟨rfl, Below.refl _ _⟩
structure QyZ (a : Qy) : Prop where
 w : a.whr.size ≤ 1048576
 c : ∀ x ∈ a.cols, x.size ≤ 1048576
 g : ∀ x ∈ a.aggs, x.arg.size ≤ 1048576
set_option maxHeartbeats 16000000 in
set_option maxRecDepth 20000 in
theorem same_q (a c : Qy) (QA QB : Array Value) (wpA : Option Addr) (wcA : Nat) (cpA : Option Addr) (ccA : Nat) (npA : Option Addr) (ncA : Nat) (gpA : Option Addr) (gcA : Nat) (apA : Option Addr) (acA : Nat) (wpB : Option Addr) (wcB : Nat) (cpB : Option Addr) (ccB : Nat) (npB : Option Addr) (ncB : Nat) (gpB : Option Addr) (gcB : Nat) (apB : Option Addr) (acB : Nat) (w : World) (hA : QyL w QA a wpA wcA cpA ccA npA ncA gpA gcA apA acA) (hC : QyL w QB c wpB wcB cpB ccB npB ncB gpB gcB apB acB) (hz : QyZ a) :
  Calls Tryz.prog 20 #[.agg QA, .agg QB] w fun e w' => e = .returned (.bool (sameQ a c)) ∧ Below w.heap.size w w' := by
 obtain ⟨R, hR⟩ : ∃ R, sameQ a c = R := ⟨_, rfl⟩
 rw [hR]
 rw [sameQ, ← str_dec, ← eqS_dec, ← eqS_dec] at hR
 have hsz : decide (a.size = c.size) = (a.size == c.size) := by by_cases h : a.size = c.size <;> simp [h]
 have hsl : decide (a.slide = c.slide) = (a.slide == c.slide) := by by_cases h : a.slide = c.slide <;> simp [h]
 rw [hsz, hsl] at hR
 have HR := (show Hid _ from hR)
 obtain ⟨⟨-, a8, a9, a10, a11, a12, a13⟩, a0, a7, aB⟩ := hA
 obtain ⟨⟨-, c8, c9, c10, c11, c12, c13⟩, c0, c7, cB⟩ := hC
 have b0 : Below w.heap.size w ((w.alloc (.cells QA 30)).alloc (.cells QB 30)) := (al w _).alloc (by simp) _
 have XA : Blk ((w.alloc (.cells QA 30)).alloc (.cells QB 30)) w.heap.size QA 30 := (blk_alloc w _ _).on (al _ _)
 have XB : Blk ((w.alloc (.cells QA 30)).alloc (.cells QB 30)) (w.heap.size + 1) QB 30 := by
  have := blk_alloc (w.alloc (.cells QA 30)) QB 30
  rwa [show (w.alloc (.cells QA 30)).heap.size = w.heap.size + 1 by simp] at this
 have cW := fun (V : World) (hV : Below w.heap.size w V) => treeSame_any a.whr c.whr (fun _ => True) (exV a.whr wpA wcA) (exV c.whr wpB wcB) V (aB.whr.on hV) (cB.whr.on hV) hz.w
 have cC := fun (V : World) (hV : Below w.heap.size w V) => equalE_q a.cols c.cols cpA ccA cpB ccB V (aB.cols.onB hV) (cB.cols.onB hV) aB.clen hz.c
 have cN := fun (V : World) (hV : Below w.heap.size w V) => equalS_q a.names c.names _ _ V (aB.names.on hV) (cB.names.on hV)
 have cG := fun (V : World) (hV : Below w.heap.size w V) => equalS_q a.group c.group _ _ V (aB.group.on hV) (cB.group.on hV)
 have cA := fun (V : World) (hV : Below w.heap.size w V) => equalA_q a.aggs c.aggs apA acA apB acB V (aB.aggs.on hV) (cB.aggs.on hV) aB.aggs.1 hz.g
 have hcl : ∀ V, Below ((w.alloc (.cells QA 30)).alloc (.cells QB 30)).heap.size ((w.alloc (.cells QA 30)).alloc (.cells QB 30)) V → Blk V w.heap.size QA 30 ∧ Blk V (w.heap.size + 1) QB 30 ∧ Below w.heap.size w V := fun V hV => ⟨XA.on hV, XB.on hV, b0.trans (hV.mono b0.size)⟩
 have hldA : ∀ {ops : Array Oper} {rest : List Oper} {op : Oper} {ac : Act} {Q : Exit → Act → World → Prop} (gv : Option Nat → Prop) (x : Operand), True := fun _ _ => trivial
 clear hldA
 have hrA : ((w.alloc (.cells QA 30)).alloc (.cells QB 30)).rangeAt w.heap.size 1 (exL a.whr wpA wcA) := fun j v hv => by rw [XA.cell]; exact a7 j v hv
 have hrB : ((w.alloc (.cells QA 30)).alloc (.cells QB 30)).rangeAt (w.heap.size + 1) 1 (exL c.whr wpB wcB) := fun j v hv => by rw [XB.cell]; exact c7 j v hv
 have aw0 : ((w.alloc (.cells QA 30)).alloc (.cells QB 30)).cell? ⟨w.heap.size, 1, none⟩ = some (.string a.whr.op) := hrA 0 _ rfl
 have aw1 : ((w.alloc (.cells QA 30)).alloc (.cells QB 30)).cell? ⟨w.heap.size, 2, none⟩ = some (.string a.whr.nm) := hrA 1 _ rfl
 have aw2 : ((w.alloc (.cells QA 30)).alloc (.cells QB 30)).cell? ⟨w.heap.size, 3, none⟩ = some (.int .i64 a.whr.vt) := hrA 2 _ rfl
 have aw3 : ((w.alloc (.cells QA 30)).alloc (.cells QB 30)).cell? ⟨w.heap.size, 4, none⟩ = some (.int .i64 a.whr.vn) := hrA 3 _ rfl
 have aw4 : ((w.alloc (.cells QA 30)).alloc (.cells QB 30)).cell? ⟨w.heap.size, 5, none⟩ = some (.string a.whr.vs) := hrA 4 _ rfl
 have aw5 : ((w.alloc (.cells QA 30)).alloc (.cells QB 30)).cell? ⟨w.heap.size, 6, none⟩ = some (.slice wpA a.whr.args.length wcA) := hrA 5 _ rfl
 have aw6 : ((w.alloc (.cells QA 30)).alloc (.cells QB 30)).cell? ⟨w.heap.size, 7, none⟩ = some (.int .i64 a.whr.pos) := hrA 6 _ rfl
 have cw0 : ((w.alloc (.cells QA 30)).alloc (.cells QB 30)).cell? ⟨w.heap.size + 1, 1, none⟩ = some (.string c.whr.op) := hrB 0 _ rfl
 have cw1 : ((w.alloc (.cells QA 30)).alloc (.cells QB 30)).cell? ⟨w.heap.size + 1, 2, none⟩ = some (.string c.whr.nm) := hrB 1 _ rfl
 have cw2 : ((w.alloc (.cells QA 30)).alloc (.cells QB 30)).cell? ⟨w.heap.size + 1, 3, none⟩ = some (.int .i64 c.whr.vt) := hrB 2 _ rfl
 have cw3 : ((w.alloc (.cells QA 30)).alloc (.cells QB 30)).cell? ⟨w.heap.size + 1, 4, none⟩ = some (.int .i64 c.whr.vn) := hrB 3 _ rfl
 have cw4 : ((w.alloc (.cells QA 30)).alloc (.cells QB 30)).cell? ⟨w.heap.size + 1, 5, none⟩ = some (.string c.whr.vs) := hrB 4 _ rfl
 have cw5 : ((w.alloc (.cells QA 30)).alloc (.cells QB 30)).cell? ⟨w.heap.size + 1, 6, none⟩ = some (.slice wpB c.whr.args.length wcB) := hrB 5 _ rfl
 have cw6 : ((w.alloc (.cells QA 30)).alloc (.cells QB 30)).cell? ⟨w.heap.size + 1, 7, none⟩ = some (.int .i64 c.whr.pos) := hrB 6 _ rfl
 have z0 : ((w.alloc (.cells QA 30)).alloc (.cells QB 30)).cell? ⟨w.heap.size, 0, none⟩ = some (.string a.frm) := by rw [XA.cell]; exact a0
 have y0 : ((w.alloc (.cells QA 30)).alloc (.cells QB 30)).cell? ⟨w.heap.size + 1, 0, none⟩ = some (.string c.frm) := by rw [XB.cell]; exact c0
 have HCL := (show Aside _ from hcl)
 have HQ : Aside (QA[8]? = some (.slice cpA a.cols.length ccA) ∧ QA[9]? = some (.slice npA a.names.length ncA) ∧ QA[10]? = some (.slice gpA a.group.length gcA) ∧ QA[11]? = some (.int .i64 a.size) ∧ QA[12]? = some (.int .i64 a.slide) ∧ QA[13]? = some (.slice apA a.aggs.length acA)) := ⟨a8, a9, a10, a11, a12, a13⟩
 have HP : Aside (QB[8]? = some (.slice cpB c.cols.length ccB) ∧ QB[9]? = some (.slice npB c.names.length ncB) ∧ QB[10]? = some (.slice gpB c.group.length gcB) ∧ QB[11]? = some (.int .i64 c.size) ∧ QB[12]? = some (.int .i64 c.slide) ∧ QB[13]? = some (.slice apB c.aggs.length acB)) := ⟨c8, c9, c10, c11, c12, c13⟩
 have cW1 := cW _ b0
 simp only [exV] at cW1
 generalize sameE false a.whr c.whr = S1 at cW1 HR
 generalize sameL false a.cols c.cols = S2 at cC HR
 generalize eqS a.names c.names = S3 at cN HR
 generalize eqS a.group c.group = S4 at cG HR
 generalize samesA a.aggs c.aggs = S7 at cA HR
 generalize a.whr.args.length = LA at *
 generalize c.whr.args.length = LB at *
 generalize a.cols.length = CA at *
 generalize c.cols.length = CB at *
 generalize a.names.length = NA at *
 generalize c.names.length = NB at *
 generalize a.group.length = GA at *
 generalize c.group.length = GB at *
 generalize a.aggs.length = AA at *
 generalize c.aggs.length = AB at *
 generalize a.frm = FA at *
 generalize c.frm = FB at *
 generalize a.size = ZA at *
 generalize c.size = ZB at *
 generalize a.slide = LSA at *
 generalize c.slide = LSB at *
 clear hz aB cB hcl XA XB hrA hrB a0 c0 a7 c7 a8 a9 a10 a11 a12 a13 c8 c9 c10 c11 c12 c13 cW hR hsz hsl
 cases q0 : (FA.toList == FB.toList)
 ·have hR : R = false := by rw [← HR.out, q0]; rfl
  subst hR
  clear HR cW1 cC cN cG cA
  go_enter Tryz.func20, Tryz.ntmps20
  go_wp2
  go_ret
  exact ⟨rfl, b0⟩
 go_enter Tryz.func20, Tryz.ntmps20
 go_wp2_with fail
 refine cW1.mono ?_
 rintro e w1 ⟨rfl, d1⟩
 obtain ⟨P1, P2, P3⟩ := HCL.out w1 d1
 have D1 : Aside (Below ((w.alloc (.cells QA 30)).alloc (.cells QB 30)).heap.size ((w.alloc (.cells QA 30)).alloc (.cells QB 30)) w1) := d1
 have l1 := P1.lt
 have l2 := P2.lt
 have u1 : w1.cell? ⟨w.heap.size, 8, none⟩ = some (.slice cpA CA ccA) := by rw [P1.cell]; exact HQ.out.1
 have u2 : w1.cell? ⟨w.heap.size + 1, 8, none⟩ = some (.slice cpB CB ccB) := by rw [P2.cell]; exact HP.out.1
 have cC1 := cC w1 P3
 clear cW1 cC d1 P1 P2 aw0 aw1 aw2 aw3 aw4 aw5 aw6 cw0 cw1 cw2 cw3 cw4 cw5 cw6 z0 y0
 cases S1
 ·have hR : R = false := by rw [← HR.out, q0]; rfl
  subst hR
  clear HR
  go_wp2
  go_ret
  exact ⟨rfl, P3⟩
 go_wp2_with fail
 refine cC1.mono ?_
 rintro e w2 ⟨rfl, d2⟩
 have D2 : Aside (Below ((w.alloc (.cells QA 30)).alloc (.cells QB 30)).heap.size ((w.alloc (.cells QA 30)).alloc (.cells QB 30)) w2) := D1.out.trans (d2.mono D1.out.size)
 obtain ⟨P1, P2, P3⟩ := HCL.out w2 D2.out
 have l1 := P1.lt
 have l2 := P2.lt
 have v1 : w2.cell? ⟨w.heap.size, 9, none⟩ = some (.slice npA NA ncA) := by rw [P1.cell]; exact HQ.out.2.1
 have v2 : w2.cell? ⟨w.heap.size + 1, 9, none⟩ = some (.slice npB NB ncB) := by rw [P2.cell]; exact HP.out.2.1
 have cN1 := cN w2 P3
 clear cC1 d2 P1 P2 cN u1 u2
 cases S2
 ·have hR : R = false := by rw [← HR.out, q0]; rfl
  subst hR
  clear HR
  go_wp2
  go_ret
  exact ⟨rfl, P3⟩
 go_wp2_with fail
 refine cN1.mono ?_
 rintro e w3 ⟨rfl, d3⟩
 have D3 : Aside (Below ((w.alloc (.cells QA 30)).alloc (.cells QB 30)).heap.size ((w.alloc (.cells QA 30)).alloc (.cells QB 30)) w3) := D2.out.trans (d3.mono D2.out.size)
 obtain ⟨P1, P2, P3⟩ := HCL.out w3 D3.out
 have l1 := P1.lt
 have l2 := P2.lt
 have u1 : w3.cell? ⟨w.heap.size, 10, none⟩ = some (.slice gpA GA gcA) := by rw [P1.cell]; exact HQ.out.2.2.1
 have u2 : w3.cell? ⟨w.heap.size + 1, 10, none⟩ = some (.slice gpB GB gcB) := by rw [P2.cell]; exact HP.out.2.2.1
 have cG1 := cG w3 P3
 clear cN1 d3 P1 P2 cG v1 v2
 cases S3
 ·have hR : R = false := by rw [← HR.out, q0]; rfl
  subst hR
  clear HR
  go_wp2
  go_ret
  exact ⟨rfl, P3⟩
 go_wp2_with fail
 refine cG1.mono ?_
 rintro e w4 ⟨rfl, d4⟩
 have D4 : Aside (Below ((w.alloc (.cells QA 30)).alloc (.cells QB 30)).heap.size ((w.alloc (.cells QA 30)).alloc (.cells QB 30)) w4) := D3.out.trans (d4.mono D3.out.size)
 obtain ⟨P1, P2, P3⟩ := HCL.out w4 D4.out
 have l1 := P1.lt
 have l2 := P2.lt
 have v1 : w4.cell? ⟨w.heap.size, 11, none⟩ = some (.int .i64 ZA) := by rw [P1.cell]; exact HQ.out.2.2.2.1
 have v2 : w4.cell? ⟨w.heap.size + 1, 11, none⟩ = some (.int .i64 ZB) := by rw [P2.cell]; exact HP.out.2.2.2.1
 have v3 : w4.cell? ⟨w.heap.size, 12, none⟩ = some (.int .i64 LSA) := by rw [P1.cell]; exact HQ.out.2.2.2.2.1
 have v4 : w4.cell? ⟨w.heap.size + 1, 12, none⟩ = some (.int .i64 LSB) := by rw [P2.cell]; exact HP.out.2.2.2.2.1
 have v5 : w4.cell? ⟨w.heap.size, 13, none⟩ = some (.slice apA AA acA) := by rw [P1.cell]; exact HQ.out.2.2.2.2.2
 have v6 : w4.cell? ⟨w.heap.size + 1, 13, none⟩ = some (.slice apB AB acB) := by rw [P2.cell]; exact HP.out.2.2.2.2.2
 have cA1 := cA w4 P3
 clear cG1 d4 P1 P2 cA u1 u2
 cases S4
 ·have hR : R = false := by rw [← HR.out, q0]; rfl
  subst hR
  clear HR
  go_wp2
  go_ret
  exact ⟨rfl, P3⟩
 cases q5 : (ZA == ZB)
 ·have hR : R = false := by rw [← HR.out, q0, q5]; rfl
  subst hR
  clear HR
  go_wp2
  go_ret
  exact ⟨rfl, P3⟩
 cases q6 : (LSA == LSB)
 ·have hR : R = false := by rw [← HR.out, q0, q5, q6]; rfl
  subst hR
  clear HR
  go_wp2
  go_ret
  exact ⟨rfl, P3⟩
 go_wp2_with fail
 refine cA1.mono ?_
 rintro e w5 ⟨rfl, d5⟩
 have P5 := P3.trans (d5.mono P3.size)
 have hR : R = S7 := by rw [← HR.out, q0, q5, q6]; cases S7 <;> rfl
 subst hR
 clear cA1 d5 HR
 go_wp2
 go_ret
 exact ⟨rfl, P5⟩
def prQ (q : Qy) : List UInt8 × Int := if (qpC (wrQ q)).2.1 = 0 ∧ sameQ (qpC (wrQ q)).1 q = true then (wrQ q, 0) else ([], 2)
theorem qyL_of {w : World} {q : Qy} {wp : Option Addr} {wc : Nat} {cp : Option Addr} {cc : Nat} {np : Option Addr} {nc : Nat} {gp : Option Addr} {gc : Nat} {ap : Option Addr} {ac : Nat} (h : QyBe w (fun _ => True) q wp wc cp cc np nc gp gc ap ac) : QyL w (qyC q wp wc cp cc np nc gp gc ap ac) q wp wc cp cc np nc gp gc ap ac := ⟨qv_of _ _ _ _ _ _ _ _ _ _ _, rfl, hw14 _ _ _ _ _ _ _ _ _ _ _, h⟩
theorem QyL.on {w w' : World} {QC : Array Value} {q : Qy} {wp : Option Addr} {wc : Nat} {cp : Option Addr} {cc : Nat} {np : Option Addr} {nc : Nat} {gp : Option Addr} {gc : Nat} {ap : Option Addr} {ac : Nat} (h : QyL w QC q wp wc cp cc np nc gp gc ap ac) (hb : Below w.heap.size w w') : QyL w' QC q wp wc cp cc np nc gp gc ap ac := ⟨h.qv, h.c0, h.wh, h.be.on hb⟩
def QyQ (w : World) (QC : Array Value) (q : Qy) : Prop := ∃ wp wc cp cc np nc gp gc ap ac, QyL w QC q wp wc cp cc np nc gp gc ap ac
theorem QyQ.on {w w' : World} {QC : Array Value} {q : Qy} (h : QyQ w QC q) (hb : Below w.heap.size w w') : QyQ w' QC q := by
 obtain ⟨wp, wc, cp, cc, np, nc, gp, gc, ap, ac, h⟩ := h
 exact ⟨wp, wc, cp, cc, np, nc, gp, gc, ap, ac, h.on hb⟩
theorem QyQ.size {w : World} {QC : Array Value} {q : Qy} (h : QyQ w QC q) : QC.size = 14 := by
 obtain ⟨wp, wc, cp, cc, np, nc, gp, gc, ap, ac, h⟩ := h
 exact h.qv.size
theorem QyQ.be {w : World} {QC : Array Value} {q : Qy} (h : QyQ w QC q) : q.cols.length ≤ 1048576 ∧ q.aggs.length ≤ 1048576 := by
 obtain ⟨wp, wc, cp, cc, np, nc, gp, gc, ap, ac, h⟩ := h
 exact ⟨h.be.clen, h.be.aggs.1⟩
structure PcO (PC : Array Value) : Prop where
 size : PC.size = 14
 one : PC.all (·.oneCell') = true
 blk : ∀ (V W9 : World) (b : Nat), Blk V b q0D 30 → V.setCells b 0 PC.toList = W9 → Blk W9 b PC 30
theorem pcO_of (q : Qy) (wp : Option Addr) (wc : Nat) (cp : Option Addr) (cc : Nat) (np : Option Addr) (nc : Nat) (gp : Option Addr) (gc : Nat) (ap : Option Addr) (ac : Nat) : PcO (qyC q wp wc cp cc np nc gp gc ap ac) := ⟨rfl, one14 _ _ _ _ _ _ _ _ _ _ _, fun V W9 b X h => blk14 X h⟩
theorem parse_p (s : ByteArray) (w : World) (henv : TEnv w) (haenv : AEnv w) (hw : SG w) (hs : s.size ≤ maxLen) (q1 : Qy) (E1 : Int) (P1 : Nat) (hZ : qpC s.data.toList = (q1, E1, P1)) :
  Calls Tryz.prog 5 #[.string s] w fun e w' => (∃ PC, e = .returned (.tuple #[.agg PC, .agg #[.int .i64 E1, .int .i64 (P1 : Nat)]]) ∧ Aside (PcO PC) ∧ Aside (QyQ w' PC q1)) ∧ Below w.heap.size w w' :=
 (parse_q s w henv haenv hw hs q1 E1 P1 hZ).mono fun e w' hh => ⟨by
  obtain ⟨v, he, wp, wc, cp, cc, np, nc, gp, gc, ap, ac, rfl, hB⟩ := hh.1
  exact ⟨_, he, pcO_of _ _ _ _ _ _ _ _ _ _ _, ⟨wp, wc, cp, cc, np, nc, gp, gc, ap, ac, qyL_of hB⟩⟩, hh.2⟩
theorem qpC_small {l : List UInt8} {q : Qy} {E : Int} {P : Nat} (h : qpC l = (q, E, P)) : ∀ x ∈ exsQ q, x.size ≤ 402 := by
 have hz : ∀ x ∈ exsQ qyZ, x.size ≤ 402 := fun x hx => by
  simp [exsQ, qyZ] at hx
  subst hx
  decide
 rw [qpC] at h
 split at h
 ·obtain ⟨rfl, _⟩ := Prod.mk.inj h; exact hz
 rename_i h0
 split at h
 ·rename_i q1 hq
  split at h
  ·obtain ⟨rfl, _⟩ := Prod.mk.inj h; exact hz
  ·obtain ⟨rfl, _⟩ := Prod.mk.inj h
   have hL : lexAll l = ((lexAll l).1, (lexAll l).2.1, (lexAll l).2.2) := rfl
   have h4 := (lexAll_fitQ hL).1
   intro x hx
   have := qU_small h4 (by rw [hq]) x hx
   omega
 ·obtain ⟨rfl, _⟩ := Prod.mk.inj h; exact hz
theorem qyZ_of {q : Qy} (h : ∀ x ∈ exsQ q, x.size ≤ 1048576) : QyZ q := ⟨h _ (by simp [exsQ]), fun x hx => h x (by simp only [exsQ, List.mem_cons, List.mem_append]; exact .inr (.inl hx)), fun a ha => h _ (by simp only [exsQ, List.mem_cons, List.mem_append, List.mem_map]; exact .inr (.inr ⟨a, ha, rfl⟩))⟩
theorem write_p (q : Qy) (QC : Array Value) (w : World) (henv : TEnv w) (hL : QyQ w QC q) (hW : QyW q) (X : ByteArray) (hX : X.data.toList = wrQ q) :
  Calls Tryz.prog 19 #[.agg QC] w fun e w' => e = .returned (.string X) ∧ Below w.heap.size w w' := by
 obtain ⟨wp, wc, cp, cc, np, nc, gp, gc, ap, ac, h⟩ := hL
 have e : (⟨(wrQ q).toArray⟩ : ByteArray) = X := arr_eq (by rw [hX])
 rw [← e]
 exact write_q q QC wp wc cp cc np nc gp gc ap ac w henv h hW
theorem same_p (a c : Qy) (QA QB : Array Value) (w : World) (hA : QyQ w QA a) (hC : QyQ w QB c) (hz : QyZ a) :
  Calls Tryz.prog 20 #[.agg QA, .agg QB] w fun e w' => e = .returned (.bool (sameQ a c)) ∧ Below w.heap.size w w' := by
 obtain ⟨wpA, wcA, cpA, ccA, npA, ncA, gpA, gcA, apA, acA, hA⟩ := hA
 obtain ⟨wpB, wcB, cpB, ccB, npB, ncB, gpB, gcB, apB, acB, hC⟩ := hC
 exact same_q a c QA QB wpA wcA cpA ccA npA ncA gpA gcA apA acA wpB wcB cpB ccB npB ncB gpB gcB apB acB w hA hC hz
theorem ldG {W : World} {b : Nat} {QC : Array Value} (hq : QC.size = 14) (X : Blk W b QC 30) {ops : Array Oper} {rest : List Oper} {op : Oper} {a : Act} {Q : Exit → Act → World → Prop} (hw : Region.wanted op (yielded ops a.tmps) = true) (x : Operand) (ho : op.op = .load 30 x) (hx : a.eval x = .pointer (some ⟨b, 0, none⟩)) (h : wpList Tryz.prog ops Q rest (a.put op.dst (.agg QC)) W) : wpList Tryz.prog ops Q (op :: rest) a W :=
 wpList_step fun K hK => by
  rw [if_pos hw]
  refine wp_load_mid (P := Tryz.prog) 30 x ho b 0 hx QC.toList _ (fun j v hv => by rw [X.cell, Nat.zero_add]; simpa using hv) Tryz.underlying30 rfl (by rw [size_qyD, Array.length_toList, hq]) (hK _ _ ?_)
  rw [Array.toArray_toList]
  exact h
theorem wrQ_len (q : Qy) : (wrQ q).length ≤ 400 := by
 rw [wrQ]
 split
 ·assumption
 ·simp
set_option maxHeartbeats 8000000 in
set_option maxRecDepth 20000 in
theorem print_q (q : Qy) (QC : Array Value) (w : World) (henv : TEnv w) (haenv : AEnv w) (hsg : SG w) (hL : QyQ w QC q) (hW : QyW q) (T : ByteArray) (K : Int) (hT : T.data.toList = (prQ q).1) (hK : (prQ q).2 = K) :
  Calls Tryz.prog 6 #[.agg QC] w fun e w' => e = .returned (.tuple #[.string T, errV K]) ∧ Below w.heap.size w w' := by
 have hs14 := hL.size
 obtain ⟨X, hX⟩ : ∃ X : ByteArray, X.data.toList = wrQ q := ⟨⟨(wrQ q).toArray⟩, rfl⟩
 have hXs : X.size ≤ maxLen := by
  have := wrQ_len q
  rw [← hX] at this
  have e : X.data.toList.length = X.size := by rw [Lib.size_eq]
  unfold maxLen
  omega
 obtain ⟨p, E, P, hZ⟩ : ∃ p E P, qpC X.data.toList = (p, E, P) := ⟨_, _, _, rfl⟩
 have hZ2 : qpC (wrQ q) = (p, E, P) := by rw [← hX]; exact hZ
 have hz := qyZ_of (fun x hx => by have := qpC_small hZ x hx; omega)
 have b1 := al w (.cells QC 30)
 have X1 : Aside (Blk (w.alloc (.cells QC 30)) w.heap.size QC 30) := blk_alloc w _ _
 have hld1 := fun {ops : Array Oper} {rest : List Oper} {op : Oper} {a : Act} {Q : Exit → Act → World → Prop} => ldQ (ops := ops) (rest := rest) (op := op) (a := a) (Q := Q) hs14 X1.out
 have cW := write_p q QC (w.alloc (.cells QC 30)) (henv.on b1) (hL.on b1) hW X hX
 have hG := henv.big
 have cP := fun (V : World) (hV : Below w.heap.size w V) => parse_p X V (henv.on hV) (haenv.onB hV hG hV.size) (hsg.on hV) hXs p E P hZ
 have cS := fun (V : World) (PC : Array Value) (hV : Below w.heap.size w V) (hP : QyQ V PC p) => same_p p q PC QC V hP (hL.on hV) hz
 have HTK : Hid ((T.data.toList, K) = if E = 0 ∧ sameQ p q = true then (X.data.toList, 0) else ([], 2)) := by
  show _ = _
  rw [hT, ← hK, hX]
  have : ((prQ q).1, (prQ q).2) = prQ q := rfl
  rw [this, prQ, hZ2]
 generalize sameQ p q = SB at cS HTK
 clear henv haenv hsg hL hW hX hZ hZ2 hz hT hK hXs
 go_enter Tryz.func6, Tryz.ntmps6
 go_wp2_with (refine hld1 rfl _ rfl rfl ?_)
 refine cW.mono ?_
 rintro e w2 ⟨rfl, b2⟩
 have B2 : Below w.heap.size w w2 := b1.trans (b2.mono (by simp))
 have X2 : Blk w2 w.heap.size QC 30 := X1.out.on b2
 have cP2 := cP w2 B2
 clear cW cP hld1 b1 b2
 go_wp2_with fail
 refine cP2.mono ?_
 rintro e w3 ⟨⟨PC, rfl, HPO, HPQ⟩, b3⟩
 have B3 : Below w.heap.size w w3 := B2.trans (b3.mono B2.size)
 have X3 : Blk w3 w.heap.size QC 30 := X2.on b3
 have hP14 := HPO.out.size
 have bV : Below w3.heap.size w3 ((w3.alloc (.cells q0D 30)).alloc (.cells #[.int .i64 0, .int .i64 0] 34)) := (al w3 _).alloc (by simp) _
 have XV : Blk ((w3.alloc (.cells q0D 30)).alloc (.cells #[.int .i64 0, .int .i64 0] 34)) w3.heap.size q0D 30 := (blk_alloc w3 _ _).on (al _ _)
 have YV : Blk ((w3.alloc (.cells q0D 30)).alloc (.cells #[.int .i64 0, .int .i64 0] 34)) (w3.heap.size + 1) #[.int .i64 0, .int .i64 0] 34 := by
  have := blk_alloc (w3.alloc (.cells q0D 30)) #[.int .i64 0, .int .i64 0] 34
  rwa [show (w3.alloc (.cells q0D 30)).heap.size = w3.heap.size + 1 by simp] at this
 obtain ⟨W9, h9⟩ : ∃ W9, ((w3.alloc (.cells q0D 30)).alloc (.cells #[.int .i64 0, .int .i64 0] 34)).setCells w3.heap.size 0 PC.toList = W9 := ⟨_, rfl⟩
 have hst := fun {ops : Array Oper} {rest : List Oper} {op : Oper} {a : Act} {Q : Exit → Act → World → Prop} => st14 (ops := ops) (rest := rest) (op := op) (a := a) (Q := Q) XV rfl hP14 HPO.out.one W9 h9
 have X9 : Blk W9 w3.heap.size PC 30 := HPO.out.blk _ _ _ XV h9
 have Y9 : Blk W9 (w3.heap.size + 1) #[.int .i64 0, .int .i64 0] 34 := by rw [← h9]; exact YV.keep (cellsD_far _ _ _ _ (by omega))
 have b9 : Below w3.heap.size w3 W9 := by rw [← h9]; exact belowD_cells (Nat.le_refl _) _ _ _ bV
 have c0 : W9.cell? ⟨w3.heap.size + 1, 0, none⟩ = some (.int .i64 0) := Y9.cell 0
 have c1 : W9.cell? ⟨w3.heap.size + 1, 1, none⟩ = some (.int .i64 0) := Y9.cell 1
 have f0 := Y9.frozen 0
 have f1 := Y9.frozen 1
 have l9 := Y9.lt
 have b10 : Below w3.heap.size w3 ((W9.setCell ⟨w3.heap.size + 1, 0, none⟩ (.int .i64 E)).setCell ⟨w3.heap.size + 1, 1, none⟩ (.int .i64 (P : Nat))) := (b9.setCell (p := ⟨w3.heap.size + 1, 0, none⟩) (by simp) _).setCell (p := ⟨w3.heap.size + 1, 1, none⟩) (by simp) _
 have X10 : Blk ((W9.setCell ⟨w3.heap.size + 1, 0, none⟩ (.int .i64 E)).setCell ⟨w3.heap.size + 1, 1, none⟩ (.int .i64 (P : Nat))) w3.heap.size PC 30 := (X9.far (by omega) 0 _).far (by omega) 1 _
 have XQ : Blk ((W9.setCell ⟨w3.heap.size + 1, 0, none⟩ (.int .i64 E)).setCell ⟨w3.heap.size + 1, 1, none⟩ (.int .i64 (P : Nat))) w.heap.size QC 30 := X3.on b10
 have hldP := fun {ops : Array Oper} {rest : List Oper} {op : Oper} {a : Act} {Q : Exit → Act → World → Prop} => ldG (ops := ops) (rest := rest) (op := op) (a := a) (Q := Q) hP14 X10
 have B10 : Below w.heap.size w ((W9.setCell ⟨w3.heap.size + 1, 0, none⟩ (.int .i64 E)).setCell ⟨w3.heap.size + 1, 1, none⟩ (.int .i64 (P : Nat))) := B3.trans (b10.mono B3.size)
 have cS2 := cS _ PC B10 (HPQ.out.on b10)
 have HXQ : Aside (∀ V, Below w3.heap.size ((W9.setCell ⟨w3.heap.size + 1, 0, none⟩ (.int .i64 E)).setCell ⟨w3.heap.size + 1, 1, none⟩ (.int .i64 (P : Nat))) V → True) := fun _ _ => trivial
 have hldQ := fun {ops : Array Oper} {rest : List Oper} {op : Oper} {a : Act} {Q : Exit → Act → World → Prop} => ldG (ops := ops) (rest := rest) (op := op) (a := a) (Q := Q) hs14 XQ
 have BF : Aside (Below w.heap.size w ((W9.setCell ⟨w3.heap.size + 1, 0, none⟩ (.int .i64 E)).setCell ⟨w3.heap.size + 1, 1, none⟩ (.int .i64 (P : Nat)))) := B10
 clear cP2 cS HPO HPQ b3 bV XV YV h9 X9 Y9 b9 b10 X10 XQ X2 X3 X1 B10 B3 B2 HXQ
 by_cases hE : E = 0
 ·subst hE
  go_wp2_with (first | (refine hst rfl _ _ rfl rfl rfl ?_) | (refine hldP rfl _ rfl rfl ?_) | (refine hldQ rfl _ rfl rfl ?_))
  refine cS2.mono ?_
  rintro e w4 ⟨rfl, b4⟩
  have B4 := BF.out.trans (b4.mono BF.out.size)
  clear cS2 hst hldP hldQ b4
  cases SB
  ·obtain ⟨hT, hK⟩ := Prod.mk.inj (HTK.out.trans (if_neg (fun h => absurd h.2 (by decide))))
   obtain rfl : T = ⟨#[]⟩ := arr_eq (by rw [hT])
   subst hK
   clear HTK
   go_wp2
   go_ret2
   exact ⟨rfl, B4⟩
  ·obtain ⟨hT, hK⟩ := Prod.mk.inj (HTK.out.trans (if_pos (by simp)))
   obtain rfl : T = X := arr_eq hT
   subst hK
   clear HTK
   go_wp2
   go_ret2
   exact ⟨rfl, B4⟩
 ·have hEb : (E != 0) = true := by simpa using hE
  have hEb2 : (E == 0) = false := by simpa using hE
  obtain ⟨hT, hK⟩ := Prod.mk.inj (HTK.out.trans (if_neg (fun h => hE h.1)))
  obtain rfl : T = ⟨#[]⟩ := arr_eq (by rw [hT])
  subst hK
  clear HTK hE cS2
  go_wp2_with (first | (refine hst rfl _ _ rfl rfl rfl ?_))
  go_ret2
  exact ⟨rfl, BF.out⟩
end Go.Proofs.YtkbhmghdonomnaaGreatDoor
