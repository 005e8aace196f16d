/-
  Package slices: Equal of texts, EqualFunc of expressions; package query: sameAgg, EqualFunc of aggregates.
-/
import Derived.Test.YtkbhmghdonomnaaGreatDoorZTreeSame
import Derived.Test.YtkbhmghdonomnaaGreatDoorZQuC4
import Derived.Test.YtkbhmghdonomnaaGreatDoorGzAy
namespace Go.Proofs.YtkbhmghdonomnaaGreatDoor
open Go.RowKit Go.BigFrame
set_option linter.unusedVariables false
set_option linter.unusedSimpArgs false

def eqS : List ByteArray → List ByteArray → Bool
  | [], [] => true
  | x :: xs, y :: ys => (x.toList == y.toList) && eqS xs ys
  | _, _ => false
theorem eqS_is : ∀ {l m : List ByteArray}, eqS l m = true ↔ l = m
  | [], [] => by simp [eqS]
  | [], y :: ys => by simp [eqS]
  | x :: xs, [] => by simp [eqS]
  | x :: xs, y :: ys => by
    rw [eqS, Bool.and_eq_true, eqS_is (l := xs) (m := ys)]
    simp only [beq_iff_eq, Lib.toList_data, List.cons.injEq]
    exact ⟨fun ⟨h1, h2⟩ => ⟨arr_eq h1, h2⟩, fun ⟨h1, h2⟩ => ⟨by rw [h1], h2⟩⟩
theorem eqS_dec (l m : List ByteArray) : eqS l m = decide (l = m) := by
  by_cases h : l = m
  · rw [eqS_is.2 h, decide_eq_true h]
  · rw [decide_eq_false h]
    cases he : eqS l m with
    | false => rfl
    | true => exact absurd (eqS_is.1 he) h
theorem eqS_len : ∀ {l m : List ByteArray}, l.length ≠ m.length → eqS l m = false
  | [], [], h => absurd rfl h
  | [], y :: ys, _ => by simp [eqS]
  | x :: xs, [], _ => by simp [eqS]
  | x :: xs, y :: ys, h => by rw [eqS, eqS_len (l := xs) (m := ys) (by simpa using h), Bool.and_false]
theorem eqS_drop {l m : List ByteArray} {k : Nat} (h1 : k < l.length) (h2 : k < m.length) : eqS (l.drop k) (m.drop k) = ((l[k].toList == m[k].toList) && eqS (l.drop (k + 1)) (m.drop (k + 1))) := by
  rw [List.drop_eq_getElem_cons h1, List.drop_eq_getElem_cons h2, eqS]
theorem sameL_drop {l m : List Ex} {k : Nat} (h1 : k < l.length) (h2 : k < m.length) : sameL false (l.drop k) (m.drop k) = (sameE false l[k] m[k] && sameL false (l.drop (k + 1)) (m.drop (k + 1))) := by
  rw [List.drop_eq_getElem_cons h1, List.drop_eq_getElem_cons h2, sameL]
theorem samesA_drop {l m : List Ag} {k : Nat} (h1 : k < l.length) (h2 : k < m.length) : samesA (l.drop k) (m.drop k) = (sameA l[k] m[k] && samesA (l.drop (k + 1)) (m.drop (k + 1))) := by
  rw [List.drop_eq_getElem_cons h1, List.drop_eq_getElem_cons h2, samesA]
theorem samesA_len : ∀ {l m : List Ag}, l.length ≠ m.length → samesA l m = false
  | [], [], h => absurd rfl h
  | [], y :: ys, _ => by simp [samesA]
  | x :: xs, [], _ => by simp [samesA]
  | x :: xs, y :: ys, h => by rw [samesA, samesA_len (l := xs) (m := ys) (by simpa using h), Bool.and_false]
set_option maxHeartbeats 4000000 in
set_option maxRecDepth 20000 in
theorem equalS_q (l m : List ByteArray) (u v : Value) (w : World) (hu : StsA w u l) (hv : StsA w v m) :
    Calls Tryz.prog 52 #[u, v] w fun e w' => e = .returned (.bool (eqS l m)) ∧ Below w.heap.size w w' := by
  obtain ⟨p, c, rfl⟩ := sts_form hu
  obtain ⟨q, d, rfl⟩ := sts_form hv
  obtain ⟨R, hR⟩ : ∃ R, eqS l m = R := ⟨_, rfl⟩
  have HR : Hid (eqS l m = R) := hR
  rw [hR]
  have hl6 : l.length ≤ 1048576 := by obtain ⟨_, _, _, ⟨_, h⟩, _⟩ := hu; exact h
  by_cases hne : l.length = m.length
  · obtain ⟨N, hN⟩ : ∃ N, l.length = N := ⟨_, rfl⟩
    have hM : m.length = N := by rw [← hne]; exact hN
    have HN : Hid (l.length = N) := hN
    have HM : Hid (m.length = N) := hM
    simp only [hN, hM] at hu hv ⊢
    rw [hN] at hl6
    have HU : Aside (StsA w (.slice p N c) l) := hu
    have HV : Aside (StsA w (.slice q N d) m) := hv
    have qn : ((N : Int) != (N : Int)) = false := by simp
    clear hu hv hN hM hne hR
    go_enter Tryz.func52, Tryz.ntmps52
    go_wp2
    go_loopg [5, 13] N (fun gg _ s13 wr => ∃ kk : Nat, kk ≤ N ∧ N - kk ≤ gg ∧ s13 = .int .i64 kk ∧ Aside (Below w.heap.size w wr) ∧ Hid (eqS (l.drop kk) (m.drop kk) = R))
    case atStart => exact ⟨0, Nat.zero_le _, by omega, rfl, (show Aside _ from Below.refl _ _), HR⟩
    case round =>
      obtain ⟨kk, hkk, hg, rfl, BW, A⟩ := hrel
      clear HR
      by_cases hlt : kk < N
      · have hltz : (kk : Int) < (N : Int) := by omega
        have h0z : (0 : Int) ≤ (kk : Int) := by omega
        have hk1 : kk < l.length := by rw [HN.out]; exact hlt
        have hk2 : kk < m.length := by rw [HM.out]; exact hlt
        obtain ⟨b1, o1, rfl, l1, h1⟩ := sts_some HU.out hk1
        obtain ⟨b2, o2, rfl, l2, h2⟩ := sts_some HV.out hk2
        have e1 : wr.cell? ⟨b1, o1 + kk, none⟩ = some (.string l[kk]) := by rw [BW.out.cell (p := ⟨b1, _, none⟩) l1]; exact h1 kk hk1
        have e2 : wr.cell? ⟨b2, o2 + kk, none⟩ = some (.string m[kk]) := by rw [BW.out.cell (p := ⟨b2, _, none⟩) l2]; exact h2 kk hk2
        have HD : Hid (((l[kk].toList == m[kk].toList) && eqS (l.drop (kk + 1)) (m.drop (kk + 1))) = R) := by show _ = _; rw [← eqS_drop hk1 hk2]; exact A.out
        have lb1 : b1 < wr.heap.size := by have := BW.out.size; omega
        have lb2 : b2 < wr.heap.size := by have := BW.out.size; omega
        clear h1 h2 A
        generalize l[kk] = S at e1 HD
        generalize m[kk] = T at e2 HD
        cases qs : (S.toList == T.toList)
        · have hR : R = false := by rw [← HD.out, qs]; rfl
          subst hR
          clear HD
          go_wp2
          go_quiet (fail)
          go_wp2
          go_ret
          exact ⟨rfl, below_drewN BW.out _⟩
        · have HD2 : Hid (eqS (l.drop (kk + 1)) (m.drop (kk + 1)) = R) := by show _ = _; rw [← HD.out, qs]; rfl
          clear HD
          go_wp2
          go_quiet (fail)
          go_wp2
          go_roundg (N - (kk + 1))
          case measure => omega
          case rel => exact ⟨kk + 1, by omega, by omega, by go_num, (show Aside _ from below_drewN BW.out _), HD2⟩
      · have hltz : ¬ (kk : Int) < (N : Int) := by omega
        have hR : R = true := by
          rw [← A.out, List.drop_eq_nil_of_le (by rw [HN.out]; omega), List.drop_eq_nil_of_le (by rw [HM.out]; omega)]; rfl
        subst hR
        clear A
        go_wp2
        go_ret
        exact ⟨rfl, BW.out⟩
  · have hR2 : R = false := by rw [← hR]; exact eqS_len hne
    subst hR2
    have qn : ((l.length : Int) != (m.length : Int)) = true := by simp; omega
    clear hu hv HR hR
    generalize l.length = N at *
    generalize m.length = M at *
    go_enter Tryz.func52, Tryz.ntmps52
    go_wp2
    go_ret
    exact ⟨rfl, Below.refl _ _⟩
theorem ent_same (args : Array Value) (W : World) : Sem.run Tryz.prog (callFunc 50 args) W = .ok (.enter 50 args) W := by kernel_rfl
theorem ent_sag (args : Array Value) (W : World) : Sem.run Tryz.prog (callFunc 54 args) W = .ok (.enter 54 args) W := by kernel_rfl
set_option maxHeartbeats 4000000 in
set_option maxRecDepth 20000 in
theorem equalE_q (l m : List Ex) (p : Option Addr) (c : Nat) (q : Option Addr) (d : Nat) (w : World) (hu : ArgsIs w (fun _ => True) (.slice p l.length c) l) (hv : ArgsIs w (fun _ => True) (.slice q m.length d) m) (hl6 : l.length ≤ 1048576) (hz : ∀ x ∈ l, x.size ≤ 1048576) :
    Calls Tryz.prog 51 #[.slice p l.length c, .slice q m.length d, .func (.func 50) #[] #[]] w fun e w' => e = .returned (.bool (sameL false l m)) ∧ Below w.heap.size w w' := by
  obtain ⟨R, hR⟩ : ∃ R, sameL false l m = R := ⟨_, rfl⟩
  have HR : Hid (sameL false l m = R) := hR
  rw [hR]
  have hent := ent_same
  by_cases hne : l.length = m.length
  · obtain ⟨N, hN⟩ : ∃ N, l.length = N := ⟨_, rfl⟩
    have hM : m.length = N := by rw [← hne]; exact hN
    have HN : Hid (l.length = N) := hN
    have HM : Hid (m.length = N) := hM
    simp only [hN, hM] at hu hv ⊢
    rw [hN] at hl6
    have HU : Aside (ArgsIs w (fun _ => True) (.slice p N c) l) := hu
    have HV : Aside (ArgsIs w (fun _ => True) (.slice q N d) m) := hv
    have HZ := (show Aside _ from hz)
    have qn : ((N : Int) != (N : Int)) = false := by simp
    clear hu hv hN hM hne hR hz
    go_enter Tryz.func51, Tryz.ntmps51
    go_wp2
    go_loopg [7, 8, 9, 17] N (fun gg _ _ _ s17 wr => ∃ kk : Nat, kk ≤ N ∧ N - kk ≤ gg ∧ s17 = .int .i64 kk ∧ Aside (Below w.heap.size w wr) ∧ Hid (sameL false (l.drop kk) (m.drop kk) = R))
    case atStart => exact ⟨0, Nat.zero_le _, by omega, rfl, (show Aside _ from Below.refl _ _), HR⟩
    case round =>
      obtain ⟨kk, hkk, hg, rfl, BW, A⟩ := hrel
      clear HR
      by_cases hlt : kk < N
      · have hltz : (kk : Int) < (N : Int) := by omega
        have h0z : (0 : Int) ≤ (kk : Int) := by omega
        have hk1 : kk < l.length := by rw [HN.out]; exact hlt
        have hk2 : kk < m.length := by rw [HM.out]; exact hlt
        obtain ⟨ba, oa, yp, yc, rfl, hbl, -, hrg, hx⟩ := partQ_at HU.out hk1
        obtain ⟨bb, ob, zp, zc, rfl, hbl2, -, hrgb, hy⟩ := partQ_at HV.out hk2
        have hra := range_on hrg hbl BW.out
        have hrb := range_on hrgb hbl2 BW.out
        have HD : Hid ((sameE false l[kk] m[kk] && sameL false (l.drop (kk + 1)) (m.drop (kk + 1))) = R) := by show _ = _; rw [← sameL_drop hk1 hk2]; exact A.out
        have lb1 : ba < wr.heap.size := by have := BW.out.size; omega
        have lb2 : bb < wr.heap.size := by have := BW.out.size; omega
        have cS := fun (V : World) (hV : Below wr.heap.size wr V) => treeSame_any l[kk] m[kk] (fun _ => True) (exV l[kk] yp yc) (exV m[kk] zp zc) V ((hx.on BW.out).on hV) ((hy.on BW.out).on hV) (HZ.out _ (List.getElem_mem hk1))
        clear hrg hrgb hx hy A
        generalize sameE false l[kk] m[kk] = SB at cS HD
        generalize l[kk] = x at cS hra
        generalize m[kk] = y at cS hrb
        obtain ⟨op, nm, vt, vn, vs, pos, as1⟩ := x
        obtain ⟨op2, nm2, vt2, vn2, vs2, pos2, as2⟩ := y
        simp only [exV, Ex.op, Ex.nm, Ex.vt, Ex.vn, Ex.vs, Ex.args, Ex.pos] at cS hra hrb
        generalize as1.length = N1 at cS hra
        generalize as2.length = N2 at cS hrb
        have hld1 : ∀ {ops : Array Oper} {rest : List Oper} {op' : Oper} {a : Act} {Q : Exit → Act → World → Prop} (hgd : op'.guard = none) (x : Operand) (ho : op'.op = .load 26 x) (hx : a.eval x = .pointer (some ⟨ba, oa + kk * 7, none⟩)), wpList Tryz.prog ops Q rest (a.put op'.dst (.agg #[.string op, .string nm, .int .i64 vt, .int .i64 vn, .string vs, .slice yp N1 yc, .int .i64 pos])) wr → wpList Tryz.prog ops Q (op' :: rest) a wr := fun hgd x ho hx => wpList_load_mid hgd 26 x ho ba (oa + kk * 7) hx _ _ hra Tryz.underlying26 rfl size_exU
        have bB := al wr (.cells #[.string op, .string nm, .int .i64 vt, .int .i64 vn, .string vs, .slice yp N1 yc, .int .i64 pos] 26)
        have hrb2 := range_on hrb lb2 bB
        have hld2 : ∀ {ops : Array Oper} {rest : List Oper} {op' : Oper} {a : Act} {Q : Exit → Act → World → Prop} (hgd : op'.guard = none) (x : Operand) (ho : op'.op = .load 26 x) (hx : a.eval x = .pointer (some ⟨bb, ob + kk * 7, none⟩)), wpList Tryz.prog ops Q rest (a.put op'.dst (.agg #[.string op2, .string nm2, .int .i64 vt2, .int .i64 vn2, .string vs2, .slice zp N2 zc, .int .i64 pos2])) (wr.alloc (.cells #[.string op, .string nm, .int .i64 vt, .int .i64 vn, .string vs, .slice yp N1 yc, .int .i64 pos] 26)) → wpList Tryz.prog ops Q (op' :: rest) a (wr.alloc (.cells #[.string op, .string nm, .int .i64 vt, .int .i64 vn, .string vs, .slice yp N1 yc, .int .i64 pos] 26)) := fun hgd x ho hx => wpList_load_mid hgd 26 x ho bb (ob + kk * 7) hx _ _ hrb2 Tryz.underlying26 rfl size_exU
        have bC : Below wr.heap.size wr ((wr.alloc (.cells #[.string op, .string nm, .int .i64 vt, .int .i64 vn, .string vs, .slice yp N1 yc, .int .i64 pos] 26)).alloc (.cells #[.string op2, .string nm2, .int .i64 vt2, .int .i64 vn2, .string vs2, .slice zp N2 zc, .int .i64 pos2] 26)) := bB.alloc (by simp) _
        have cS2 := cS _ bC
        clear hra hrb hrb2 cS
        go_wp2_with (first | (refine hld1 rfl _ rfl rfl ?_) | (refine hld2 rfl _ rfl rfl ?_))
        refine cS2.mono ?_
        rintro e w1 ⟨rfl, b1⟩
        have B1 : Aside (Below w.heap.size w w1) := BW.out.trans ((bC.trans (b1.mono bC.size)).mono BW.out.size)
        clear hld1 hld2 cS2 BW b1 bC bB
        cases SB
        · have hR : R = false := by rw [← HD.out]; rfl
          subst hR
          clear HD
          go_wp2
          go_ret
          exact ⟨rfl, B1.out⟩
        · have HD2 : Hid (sameL false (l.drop (kk + 1)) (m.drop (kk + 1)) = R) := by show _ = _; rw [← HD.out]; rfl
          clear HD
          go_wp2
          go_roundg (N - (kk + 1))
          case measure => omega
          case rel => exact ⟨kk + 1, by omega, by omega, by go_num, B1, HD2⟩
      · have hltz : ¬ (kk : Int) < (N : Int) := by omega
        have hR : R = true := by
          rw [← A.out, List.drop_eq_nil_of_le (by rw [HN.out]; omega), List.drop_eq_nil_of_le (by rw [HM.out]; omega), sameL]
        subst hR
        clear A
        go_wp2
        go_ret
        exact ⟨rfl, BW.out⟩
  · have hR2 : R = false := by rw [← hR]; exact sameL_len hne
    subst hR2
    have qn : ((l.length : Int) != (m.length : Int)) = true := by simp; omega
    clear hu hv HR hR hz
    generalize l.length = N at *
    generalize m.length = M at *
    go_enter Tryz.func51, Tryz.ntmps51
    go_wp2
    go_ret
    exact ⟨rfl, Below.refl _ _⟩
end Go.Proofs.YtkbhmghdonomnaaGreatDoor
