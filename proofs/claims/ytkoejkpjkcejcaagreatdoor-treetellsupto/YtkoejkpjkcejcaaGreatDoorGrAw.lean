/-
  TreeOc, TreeOi, TreeAg, TreeAh, TreeAi, in one text.
-/
import Derived.Test.YtkoejkpjkcejcaaGreatDoorGrAt
import Derived.Test.YtkoejkpjkcejcaaGreatDoorGrAh
import Derived.Test.YtkoejkpjkcejcaaGreatDoorGrAv
import Derived.Test.YtkoejkpjkcejcaaGreatDoorGrAu
import Derived.Test.YtkoejkpjkcejcaaGreatDoorGrAs
namespace Go.Proofs.YtkoejkpjkcejcaaGreatDoor
open Go.RowKit
set_option linter.unusedVariables false
set_option linter.unusedSimpArgs false

theorem Box7.onB {w w' : World} {b B : Nat} {a0 a1 a2 a3 a4 a5 a6 : Value} (h : Box7 w b a0 a1 a2 a3 a4 a5 a6) (hb : Below B w w') (hB : b < B) : Box7 w' b a0 a1 a2 a3 a4 a5 a6 := by
  obtain ⟨c0, c1, c2, c3, c4, c5, c6, fz, lt⟩ := h
  have hc := fun o => hb.cell (p := ⟨b, o, none⟩) hB
  have hf := fun o => hb.frozen (p := ⟨b, o, none⟩) hB
  refine ⟨?_, ?_, ?_, ?_, ?_, ?_, ?_, fun o => by rw [hf]; exact fz o, by have := hb.size; omega⟩
  all_goals (rw [hc]; assumption)
theorem Box7.put5 {w : World} {b : Nat} {a0 a1 a2 a3 a4 a5 a6 : Value} (h : Box7 w b a0 a1 a2 a3 a4 a5 a6) (v : Value) : Box7 (w.setCell ⟨b, 5, none⟩ v) b a0 a1 a2 a3 a4 v a6 := by
  obtain ⟨c0, c1, c2, c3, c4, c5, c6, fz, lt⟩ := h
  refine ⟨?_, ?_, ?_, ?_, ?_, ?_, ?_, fun o => by simpa using fz o, by simpa [World.setCell] using lt⟩
  all_goals simp [World.cell?_setCell_other, World.cell?_setCell_same, c0, c1, c2, c3, c4, c5, c6]
theorem InAt.onB {w w' : World} {r B : Nat} {tp : Option Addr} {tc : Nat} {ts : List Tok} {en : Nat} {st : St} (h : InAt w r tp tc ts en st) (hb : Below B w w') (hr : r < B) (ht : ts.length = 0 ∨ ∃ b off, tp = some ⟨b, off, none⟩ ∧ b < B) : InAt w' r tp tc ts en st := by
  obtain ⟨c0, c1, c2, c3, f1, f3, lt, tk⟩ := h
  have hc := fun o => hb.cell (p := ⟨r, o, none⟩) hr
  have hf := fun o => hb.frozen (p := ⟨r, o, none⟩) hr
  refine ⟨by rw [hc]; exact c0, by rw [hc]; exact c1, by rw [hc]; exact c2, by rw [hc]; exact c3, by rw [hf]; exact f1, by rw [hf]; exact f3, by have := hb.size; omega, ?_⟩
  rcases tk with h0 | ⟨b, off, e, hb2, h2⟩
  · exact .inl h0
  · rcases ht with h0 | ⟨b', off', e', hb'⟩
    · exact .inl h0
    · rw [e] at e'
      simp only [Option.some.injEq, Addr.mk.injEq] at e'
      have hbz : b < B := by rw [e'.1]; exact hb'
      refine .inr ⟨b, off, e, hb2, by have := h2.1; have := hb.size; omega, fun j hj => ?_⟩
      rw [hb.cell (p := ⟨b, off + j * 3, none⟩) hbz, hb.cell (p := ⟨b, off + j * 3 + 1, none⟩) hbz, hb.cell (p := ⟨b, off + j * 3 + 2, none⟩) hbz]
      exact h2.2 j hj
theorem InAt.setFar {w : World} {r : Nat} {tp : Option Addr} {tc : Nat} {ts : List Tok} {en : Nat} {st : St} (h : InAt w r tp tc ts en st) {z : Nat} (hz : r ≠ z) (ht : TokNe tp ts z) (o : Nat) (v : Value) : InAt (w.setCell ⟨z, o, none⟩ v) r tp tc ts en st := by
  obtain ⟨c0, c1, c2, c3, f1, f3, lt, tk⟩ := h
  refine ⟨by simp [World.cell?_setCell_other, hz, c0], by simp [World.cell?_setCell_other, hz, c1], by simp [World.cell?_setCell_other, hz, c2], by simp [World.cell?_setCell_other, hz, c3], by simpa using f1, by simpa using f3, by simpa [World.setCell] using lt, ?_⟩
  rcases tk with h0 | ⟨b, off, e, hb, h2⟩
  · exact .inl h0
  · rcases ht with h0 | ⟨b', off', e', hb'⟩
    · exact .inl h0
    · rw [e] at e'
      simp only [Option.some.injEq, Addr.mk.injEq] at e'
      have hbz : b ≠ z := by rw [e'.1]; exact hb'
      exact .inr ⟨b, off, e, hb, by simpa [World.setCell] using h2.1, fun j hj => by
        simpa [World.cell?_setCell_other] using h2.2 j hj⟩
set_option maxHeartbeats 8000000 in
set_option maxRecDepth 20000 in
theorem one_len (r : Nat) (tp : Option Addr) (tc : Nat) (ts : List Tok) (en : Nat) (st : St) (sub : St → Ex × St) (hn : ts.length ≤ 400) (hi : st.i ≤ 1000) (hb0 : isT ts st [40] = false) (hb1 : isT ts st [108, 101, 110] = true) (hm : Mono ts sub) (cE : ∀ s, st.i + 1 ≤ s.i → s.i ≤ ts.length → GivesE r tp tc ts en 0 s (sub s).1 (sub s).2) : GivesO r tp tc ts en st (pCall ts en sub [108, 101, 110] 1 (posAt ts en st.i) (adv st)).1 (pCall ts en sub [108, 101, 110] 1 (posAt ts en st.i) (adv st)).2 := by
  intro w h
  obtain ⟨hlt, _⟩ := isT_lt hb1
  obtain ⟨hz, bz, hrl⟩ := in_z h
  have hT : TokNe tp ts w.heap.size := h.ne (Nat.le_refl _)
  have X0 : Box7 (w.alloc zE) w.heap.size (.string ⟨#[]⟩) (.string ⟨#[]⟩) (.int .i64 0) (.int .i64 0) (.string ⟨#[]⟩) (.slice none 0 0) (.int .i64 0) := box7_alloc w _ _ _ _ _ _ _ _
  have cA := in_at _ r tp tc ts en st hz hn (by omega)
  have cH1 := fun W hW => has_no W r tp tc ts en st ⟨#[40]⟩ hW hn hi hb0
  have cH3 := fun W hW => has_yes W r tp tc ts en st ⟨#[108, 101, 110]⟩ hW hn hi hb1
  have hai : (adv st).i = st.i + 1 := rfl
  have hn1 := needT_i (ts := ts) en [40] (st := adv st) (by rw [hai]; omega)
  rw [hai] at hn1
  have cN := fun W hW => in_need W r tp tc ts en (adv st) ⟨#[40]⟩ hW hn (by rw [hai]; omega)
  obtain ⟨S0, hS0⟩ : ∃ S0, needT ts en (adv st) [40] = S0 := ⟨_, rfl⟩
  rw [hS0] at hn1
  have HP : Hid (pCall ts en sub [108, 101, 110] 1 (posAt ts en st.i) (adv st) = (op1 [108, 101, 110] (posAt ts en st.i) (pArgs ts en sub 1 [] S0).1, needT ts en (pArgs ts en sub 1 [] S0).2 [41])) := by
    show _ = _
    rw [pCall, hS0]
  have HS0 : Hid (needT ts en (adv st) [40] = S0) := hS0
  have CE : Hid (∀ s, st.i + 1 ≤ s.i → s.i ≤ ts.length → GivesE r tp tc ts en 0 s (sub s).1 (sub s).2) := cE
  have HMo : Hid (Mono ts sub) := hm
  obtain ⟨g0, g1, g2, g3, gf1, gf3, glt, _⟩ := h
  clear hb0 hb1 hS0 cE hm
  obtain ⟨PC, hPC⟩ : ∃ PC, pCall ts en sub [108, 101, 110] 1 (posAt ts en st.i) (adv st) = PC := ⟨_, rfl⟩
  rw [hPC] at HP ⊢
  clear hPC
  go_enter Tryz.func41, Tryz.ntmps41
  obtain ⟨i0, hii, hz0, hzz1, hzzz⟩ := info_parts info_ex
  go_wp2_with fail
  refine cA.mono ?_
  rintro e w1 ⟨rfl, q, rfl⟩
  have H1 : InAt ((w.alloc zE).drewN q) r tp tc ts en st := hz.same rfl
  have B1 : But r w ((w.alloc zE).drewN q) := bz.drewN q
  have X1 : Box7 ((w.alloc zE).drewN q) w.heap.size (.string ⟨#[]⟩) (.string ⟨#[]⟩) (.int .i64 0) (.int .i64 0) (.string ⟨#[]⟩) (.slice none 0 0) (.int .i64 0) := ⟨X0.c0, X0.c1, X0.c2, X0.c3, X0.c4, X0.c5, X0.c6, X0.fz, X0.lt⟩
  have hz1 : w.heap.size + 1 ≤ ((w.alloc zE).drewN q).heap.size := Nat.le_of_eq (by simp [zE, World.drewN])
  clear cA hz bz X0 g0 g1 g2 g3 gf1 gf3 glt
  generalize hW1 : (w.alloc zE).drewN q = W1 at H1 B1 X1 hz1
  clear hW1
  go_wp2_with fail
  refine (cH1 _ H1).mono ?_
  rintro e w2 ⟨rfl, h2, b2⟩
  have B2 : But r w w2 := B1.trans b2
  have X2 := X1.but b2 (by omega)
  have hz2 : w.heap.size + 1 ≤ w2.heap.size := by have := b2.size; omega
  clear b2 cH1 H1 B1 X1 hz1
  go_wp2_with fail
  refine (cH3 _ h2).mono ?_
  rintro e w3 ⟨rfl, h3, b3⟩
  have B3 : But r w w3 := B2.trans b3
  have X3 := X2.but b3 (by omega)
  have hz3 : w.heap.size + 1 ≤ w3.heap.size := by have := b3.size; omega
  clear b3 cH3 h2 B2 X2 hz2
  have hrl2 := h3.lt
  have E5 := box7_alloc w3 (.string ⟨#[108, 101, 110]⟩) (.string ⟨#[]⟩) (.int .i64 0) (.int .i64 0) (.string ⟨#[]⟩) (.slice none 0 0) (.int .i64 (posAt ts en st.i)) 26
  have al5 := al w3 (.cells #[.string ⟨#[108, 101, 110]⟩, .string ⟨#[]⟩, .int .i64 0, .int .i64 0, .string ⟨#[]⟩, .slice none 0 0, .int .i64 (posAt ts en st.i)] 26)
  have B5 : But r w (w3.alloc (.cells #[.string ⟨#[108, 101, 110]⟩, .string ⟨#[]⟩, .int .i64 0, .int .i64 0, .string ⟨#[]⟩, .slice none 0 0, .int .i64 (posAt ts en st.i)] 26)) := B3.alloc (Nat.le_of_lt hrl2) _
  have X5 := X3.on al5
  have h5 := h3.on al5
  have hz5 : w3.heap.size + 1 ≤ (w3.alloc (.cells #[.string ⟨#[108, 101, 110]⟩, .string ⟨#[]⟩, .int .i64 0, .int .i64 0, .string ⟨#[]⟩, .slice none 0 0, .int .i64 (posAt ts en st.i)] 26)).heap.size := by simp
  obtain ⟨EB, hEB⟩ : ∃ EB, w3.heap.size = EB := ⟨_, rfl⟩
  have hEl : w.heap.size + 1 ≤ EB := by omega
  have hTE : TokNe tp ts EB := h3.ne (by omega)
  have hTB : ts.length = 0 ∨ ∃ b off, tp = some ⟨b, off, none⟩ ∧ b < EB + 1 := by
    rcases h3.toks with h0 | ⟨b, off, e, _, h2⟩
    · exact .inl h0
    · exact .inr ⟨b, off, e, by have := h2.1; omega⟩
  have hrE : r < EB := by omega
  clear B3 X3 h3 hz3 al5
  go_wp2_with fail
  refine (cN _ h5).mono ?_
  rintro e w6 ⟨rfl, h6, b6⟩
  rw [hEB] at E5 hz5
  have E6 := E5.but b6 (by omega)
  have X6 := X5.but b6 (by omega)
  have B6 : Aside (But r w w6) := B5.trans b6
  have hz6 : EB + 1 ≤ w6.heap.size := by have := b6.size; omega
  have I6 : Aside (InAt w6 r tp tc ts en S0) := by
    have := h6
    rw [show needT ts en (adv st) (⟨#[40]⟩ : ByteArray).data.toList = S0 from HS0.out] at this
    exact this
  have EA : Aside (Box7 w6 EB (.string ⟨#[108, 101, 110]⟩) (.string ⟨#[]⟩) (.int .i64 0) (.int .i64 0) (.string ⟨#[]⟩) (.slice none 0 0) (.int .i64 (posAt ts en st.i))) := E6
  have XA : Aside (Box7 w6 w.heap.size (.string ⟨#[]⟩) (.string ⟨#[]⟩) (.int .i64 0) (.int .i64 0) (.string ⟨#[]⟩) (.slice none 0 0) (.int .i64 0)) := X6
  obtain ⟨PO, hPO⟩ : ∃ PO, posAt ts en st.i = PO := ⟨_, rfl⟩
  rw [hPO] at EA HP ⊢
  clear E5 E6 X5 X6 B5 b6 h5 h6 hEB hPO cN hz5
  go_wp2
  go_loopg [8, 9] 1 (fun gg s8 _ wr => ∃ (kk : Nat) (acc : List Ex) (S : St) (q : Option Addr) (c : Nat), kk ≤ 1 ∧ 1 - kk ≤ gg ∧ s8 = .int .i64 kk ∧ acc.length ≤ kk ∧ kk ≤ acc.length ∧ Aside (Box7 wr EB (.string ⟨#[108, 101, 110]⟩) (.string ⟨#[]⟩) (.int .i64 0) (.int .i64 0) (.string ⟨#[]⟩) (.slice q acc.length c) (.int .i64 PO)) ∧ Aside (Box7 wr w.heap.size (.string ⟨#[]⟩) (.string ⟨#[]⟩) (.int .i64 0) (.int .i64 0) (.string ⟨#[]⟩) (.slice none 0 0) (.int .i64 0)) ∧ Aside (ArgsOwn wr (EB + 1) (.slice q acc.length c) acc) ∧ Aside (InAt wr r tp tc ts en S) ∧ Aside (But r w wr) ∧ EB + 1 ≤ wr.heap.size ∧ Hid (pArgs ts en sub 1 [] S0 = pArgs ts en sub (1 - kk) acc S) ∧ Hid (st.i + 1 ≤ S.i ∧ S.i ≤ ts.length))
  case atStart => exact ⟨0, [], S0, none, 0, Nat.zero_le _, by omega, rfl, Nat.le_refl _, Nat.le_refl _, EA, XA, (show Aside _ from argsOwn_nil _ _), I6, B6, hz6, (show Hid _ from rfl), (show Hid _ from hn1)⟩
  case round =>
    obtain ⟨kk, acc, S, q, c, hkk, hg, rfl, ha1, ha2, EA2, XA2, AO, IA, BW, hzr, HU, HSb⟩ := hrel
    clear EA XA I6 B6
    have hSb := HSb.out
    by_cases hlt2 : kk < 1
    · have hltz : (kk : Int) < 1 := by omega
      obtain ⟨S2, hS2⟩ : ∃ S2, (if acc = [] then S else needT ts en S [44]) = S2 := ⟨_, rfl⟩
      have hS2b : st.i + 1 ≤ S2.i ∧ S2.i ≤ ts.length := by
        rw [← hS2]
        split
        · exact hSb
        · have := needT_i en [44] hSb.2
          omega
      have HU2 : Hid (pArgs ts en sub 1 [] S0 = pArgs ts en sub (1 - (kk + 1)) (acc ++ [(sub S2).1]) (sub S2).2) := by
        show _ = _
        rw [HU.out, show 1 - kk = (1 - (kk + 1)) + 1 by omega, pArgs, hS2]
      have HSn : Hid (st.i + 1 ≤ (sub S2).2.i ∧ (sub S2).2.i ≤ ts.length) := by
        have := HMo.out S2 hS2b.2
        exact ⟨by omega, this.2⟩
      have cX := CE.out S2 hS2b.1 hS2b.2
      by_cases hk0 : 0 < kk
      · omega
      · have hkz : ¬ (0 : Int) < (kk : Int) := by omega
        have hne : acc = [] := List.length_eq_zero_iff.1 (by omega)
        rw [if_pos hne] at hS2
        clear hne
        have h7' : InAt wr r tp tc ts en S2 := by rw [← hS2]; exact IA.out
        have B7 := BW.out
        have E7 := EA2.out
        have X7 := XA2.out
        have AO7 := AO.out
        clear EA2 XA2 AO BW IA
        go_wp2_with fail
        refine (cX _ h7').mono ?_
        rintro e w9 ⟨v, rfl, hx, h9, b9⟩
        have hx9 := hx
        obtain ⟨u0, u1, u2, u3, u4, u5, u6, u7, u8, rfl⟩ := hx.agg
        have hz9 := b9.size
        have B9 : But r w w9 := B7.trans b9
        have E9 := E7.but b9 (by omega)
        have X9 := X7.but b9 (by omega)
        have AO9 := AO7.but b9 (by omega)
        have hob : ∀ j, (Value.slice q acc.length c).ownBlock = some j → EB + 1 ≤ j ∧ j < wr.heap.size := fun j hj => by
          obtain ⟨cs3, o3, _⟩ := AO7
          exact o3.lt j hj
        have b10 := (al w9 (.cells #[.string u0, .string u1, .int .i64 u2, .int .i64 u3, .string u4, .slice u5 u6 u7, .int .i64 u8] 26)).trans ((al _ (.cells #[.string u0, .string u1, .int .i64 u2, .int .i64 u3, .string u4, .slice u5 u6 u7, .int .i64 u8] 26)).mono (by simp))
        obtain ⟨cs, ao1, ao2⟩ := AO9.on b10
        have hx2 := ExIn.low (lo' := fun b => EB + 1 ≤ b ∧ some b ≠ (Value.slice q acc.length c).ownBlock) (fun b _ hb => ⟨by omega, fun e => by have := hob b e.symm; omega⟩) _ _ (hx9.on b10)
        obtain ⟨f0, f1, f2, f3, f4, f5, f6, ff, fl⟩ := E9
        have E10 := (Box7.mk f0 f1 f2 f3 f4 f5 f6 ff fl).on b10
        have X10 := X9.on b10
        have h10 := h9.on b10
        have B10 : But r w ((w9.alloc (.cells #[.string u0, .string u1, .int .i64 u2, .int .i64 u3, .string u4, .slice u5 u6 u7, .int .i64 u8] 26)).alloc (.cells #[.string u0, .string u1, .int .i64 u2, .int .i64 u3, .string u4, .slice u5 u6 u7, .int .i64 u8] 26)) := B9.on b10 hrl
        have hs10 := b10.size
        have hE9 : EB < w9.heap.size := by omega
        clear X9 hx hx9 ff b9
        go_wp2_with (at_builtin; refine wpList_append_fresh rfl _ _ 24 rfl (EB + 1) 26 i0 (.agg #[.string ⟨#[]⟩, .string ⟨#[]⟩, .int .i64 0, .int .i64 0, .string ⟨#[]⟩, .slice none 0 0, .int .i64 0]) 7 96 Tryz.underlying24 hii hz0 hzz1 hzzz rfl (by decide) _ _ _ rfl ao1 ⟨w9.heap.size + 1, 0, none⟩ 1 1 [.string u0, .string u1, .int .i64 u2, .int .i64 u3, .string u4, .slice u5 u6 u7, .int .i64 u8] rfl rfl ?c1 ?c2 (by decide) ?c3 ?c4 ?c5 ?_)
        case c1 =>
          intro i u hu
          rw [Go.WideShapes.add_plain, World.cell?_alloc_at _ _ _ _ (by simp)]
          simpa using hu
        case c2 =>
          intro u hu
          simp at hu
          rcases hu with rfl | rfl | rfl | rfl | rfl | rfl | rfl <;> rfl
        case c3 => unfold maxLen; omega
        case c4 => omega
        case c5 => simp; omega
        intro v' w11 hown' hgrow hfr
        have AO11 := ArgsOwn.push ao1 ao2 hx2 hown' hgrow (hfr.imp id (fun h => by rw [h]; simp))
        have hgs := hgrow.size
        have bE : Below (EB + 1) ((w9.alloc (.cells #[.string u0, .string u1, .int .i64 u2, .int .i64 u3, .string u4, .slice u5 u6 u7, .int .i64 u8] 26)).alloc (.cells #[.string u0, .string u1, .int .i64 u2, .int .i64 u3, .string u4, .slice u5 u6 u7, .int .i64 u8] 26)) w11 := (Below.refl (EB + 1) _).grown hgrow (by simp; omega) (fun j hj => (hob j hj).1)
        have E11 := E10.onB bE (by omega)
        have X11 := X10.onB bE (by omega)
        have h11 := h10.onB bE (by omega) hTB
        have B11 : But r w w11 := ⟨B10.below.grown hgrow (by simp; omega) (fun j hj => by have := (hob j hj).1; omega), Nat.le_trans B10.size hgs, fun j hj hjr => by rw [hgrow.block j (by have := B10.size; omega) (fun e => by have := (hob j e.symm).1; omega)]; exact B10.kept j hj hjr⟩
        obtain ⟨cs5, o5, _⟩ := id AO11
        obtain ⟨q5, c5, rfl⟩ := lown_slice o5
        have AS : Aside (ArgsOwn (w11.setCell ⟨EB, 5, none⟩ (.slice q5 (acc.length + 1) c5)) (EB + 1) (.slice q5 (acc ++ [(sub S2).1]).length c5) (acc ++ [(sub S2).1])) := by
          exact AO11.but ((But.refl EB w11).set 5 _) (Nat.lt_succ_self _)
        have ES : Aside (Box7 (w11.setCell ⟨EB, 5, none⟩ (.slice q5 (acc.length + 1) c5)) EB (.string ⟨#[108, 101, 110]⟩) (.string ⟨#[]⟩) (.int .i64 0) (.int .i64 0) (.string ⟨#[]⟩) (.slice q5 (acc ++ [(sub S2).1]).length c5) (.int .i64 PO)) := by
          rw [List.length_append, List.length_singleton]
          exact E11.put5 _
        have XS : Aside (Box7 (w11.setCell ⟨EB, 5, none⟩ (.slice q5 (acc.length + 1) c5)) w.heap.size (.string ⟨#[]⟩) (.string ⟨#[]⟩) (.int .i64 0) (.int .i64 0) (.string ⟨#[]⟩) (.slice none 0 0) (.int .i64 0)) := X11.but ((But.refl EB w11).set 5 _) (by omega)
        have IS : Aside (InAt (w11.setCell ⟨EB, 5, none⟩ (.slice q5 (acc.length + 1) c5)) r tp tc ts en (sub S2).2) := h11.setFar (by omega) hTE 5 _
        have BS : Aside (But r w (w11.setCell ⟨EB, 5, none⟩ (.slice q5 (acc.length + 1) c5))) := B11.setNew EB 5 (by omega) (by omega) _
        have hzS : EB + 1 ≤ (w11.setCell ⟨EB, 5, none⟩ (.slice q5 (acc.length + 1) c5)).heap.size := by simp [World.setCell]; omega
        obtain ⟨k0, k1, k2, k3, k4, k5, k6, kf, kl⟩ := E11
        have kf5 := kf 5
        clear o5 hown' hgrow hfr AO11 X11 h11 B11 bE kf
        go_wp2
        go_roundg (1 - (kk + 1))
        case measure => omega
        case rel => exact ⟨kk + 1, acc ++ [(sub S2).1], (sub S2).2, q5, c5, by omega, by omega, by go_num, by rw [List.length_append, List.length_singleton]; omega, by rw [List.length_append, List.length_singleton]; omega, ES, XS, AS, IS, BS, hzS, HU2, HSn⟩
    · have hltz : ¬ (kk : Int) < 1 := by omega
      obtain rfl : kk = 1 := by omega
      have hU := HU.out
      rw [Nat.sub_self, pArgs] at hU
      have hP := HP.out
      rw [hU] at hP
      have cN2 := fun W hW => in_need W r tp tc ts en S ⟨#[41]⟩ hW hn (by omega)
      obtain ⟨a0, a1, a2, a3, a4, a5, a6, af, alt⟩ := EA2.out
      clear HU HSb
      go_wp2_with fail
      refine (cN2 _ IA.out).mono ?_
      rintro e w8 ⟨rfl, h8, b8⟩
      have B8 := BW.out.trans b8
      obtain ⟨d0, d1, d2, d3, d4, d5, d6, df, dl⟩ := XA2.out.but b8 (by omega)
      obtain ⟨e0, e1, e2, e3, e4, e5, e6, ef, el⟩ := EA2.out.but b8 (by omega)
      have AO8 := AO.out.but b8 (by omega)
      have df0 := df 0
      have df1 := df 1
      have df2 := df 2
      have df3 := df 3
      have df4 := df 4
      have df5 := df 5
      have df6 := df 6
      clear df ef af XA2 EA2 a0 a1 a2 a3 a4 a5 a6 b8 AO BW IA cN2
      go_wp2
      refine bodyPost_ret (v := .agg #[.string ⟨#[108, 101, 110]⟩, .string ⟨#[]⟩, .int .i64 0, .int .i64 0, .string ⟨#[]⟩, .slice q acc.length c, .int .i64 PO]) (by simp [results, Tryz.results41, go_sem, d0, d1, d2, d3, d4, d5, d6, dl]) rfl ⟨_, rfl, ?_, ?_, ?_⟩
      · rw [hP]
        exact ((ex_args (op := ⟨#[108, 101, 110]⟩) (nm := ⟨#[]⟩) (vs := ⟨#[]⟩) AO8.is (by decide) (by decide) (by decide)).set7 (own_ne (by omega)) _ _ _ _ _ _ _).lowB (by omega)
      · rw [hP]
        exact h8.set7 (by omega) hT _ _ _ _ _ _ _
      · exact B8.set7 (Nat.le_refl _) (by omega) _ _ _ _ _ _ _
set_option maxHeartbeats 8000000 in
set_option maxRecDepth 20000 in
theorem one_if (r : Nat) (tp : Option Addr) (tc : Nat) (ts : List Tok) (en : Nat) (st : St) (sub : St → Ex × St) (hn : ts.length ≤ 400) (hi : st.i ≤ 1000) (hb0 : isT ts st [40] = false) (hb1 : isT ts st [108, 101, 110] = false) (hb2 : isT ts st [105, 102] = true) (hm : Mono ts sub) (cE : ∀ s, st.i + 1 ≤ s.i → s.i ≤ ts.length → GivesE r tp tc ts en 0 s (sub s).1 (sub s).2) : GivesO r tp tc ts en st (pCall ts en sub [105, 102] 3 (posAt ts en st.i) (adv st)).1 (pCall ts en sub [105, 102] 3 (posAt ts en st.i) (adv st)).2 := by
  intro w h
  obtain ⟨hlt, _⟩ := isT_lt hb2
  obtain ⟨hz, bz, hrl⟩ := in_z h
  have hT : TokNe tp ts w.heap.size := h.ne (Nat.le_refl _)
  have X0 : Box7 (w.alloc zE) w.heap.size (.string ⟨#[]⟩) (.string ⟨#[]⟩) (.int .i64 0) (.int .i64 0) (.string ⟨#[]⟩) (.slice none 0 0) (.int .i64 0) := box7_alloc w _ _ _ _ _ _ _ _
  have cA := in_at _ r tp tc ts en st hz hn (by omega)
  have cH1 := fun W hW => has_no W r tp tc ts en st ⟨#[40]⟩ hW hn hi hb0
  have cH2 := fun W hW => has_no W r tp tc ts en st ⟨#[108, 101, 110]⟩ hW hn hi hb1
  have cH3 := fun W hW => has_yes W r tp tc ts en st ⟨#[105, 102]⟩ hW hn hi hb2
  have hai : (adv st).i = st.i + 1 := rfl
  have hn1 := needT_i (ts := ts) en [40] (st := adv st) (by rw [hai]; omega)
  rw [hai] at hn1
  have cN := fun W hW => in_need W r tp tc ts en (adv st) ⟨#[40]⟩ hW hn (by rw [hai]; omega)
  obtain ⟨S0, hS0⟩ : ∃ S0, needT ts en (adv st) [40] = S0 := ⟨_, rfl⟩
  rw [hS0] at hn1
  have HP : Hid (pCall ts en sub [105, 102] 3 (posAt ts en st.i) (adv st) = (op1 [105, 102] (posAt ts en st.i) (pArgs ts en sub 3 [] S0).1, needT ts en (pArgs ts en sub 3 [] S0).2 [41])) := by
    show _ = _
    rw [pCall, hS0]
  have HS0 : Hid (needT ts en (adv st) [40] = S0) := hS0
  have CE : Hid (∀ s, st.i + 1 ≤ s.i → s.i ≤ ts.length → GivesE r tp tc ts en 0 s (sub s).1 (sub s).2) := cE
  have HMo : Hid (Mono ts sub) := hm
  obtain ⟨g0, g1, g2, g3, gf1, gf3, glt, _⟩ := h
  clear hb0 hb1 hb2 hS0 cE hm
  obtain ⟨PC, hPC⟩ : ∃ PC, pCall ts en sub [105, 102] 3 (posAt ts en st.i) (adv st) = PC := ⟨_, rfl⟩
  rw [hPC] at HP ⊢
  clear hPC
  go_enter Tryz.func41, Tryz.ntmps41
  obtain ⟨i0, hii, hz0, hzz1, hzzz⟩ := info_parts info_ex
  go_wp2_with fail
  refine cA.mono ?_
  rintro e w1 ⟨rfl, q, rfl⟩
  have H1 : InAt ((w.alloc zE).drewN q) r tp tc ts en st := hz.same rfl
  have B1 : But r w ((w.alloc zE).drewN q) := bz.drewN q
  have X1 : Box7 ((w.alloc zE).drewN q) w.heap.size (.string ⟨#[]⟩) (.string ⟨#[]⟩) (.int .i64 0) (.int .i64 0) (.string ⟨#[]⟩) (.slice none 0 0) (.int .i64 0) := ⟨X0.c0, X0.c1, X0.c2, X0.c3, X0.c4, X0.c5, X0.c6, X0.fz, X0.lt⟩
  have hz1 : w.heap.size + 1 ≤ ((w.alloc zE).drewN q).heap.size := Nat.le_of_eq (by simp [zE, World.drewN])
  clear cA hz bz X0 g0 g1 g2 g3 gf1 gf3 glt
  generalize hW1 : (w.alloc zE).drewN q = W1 at H1 B1 X1 hz1
  clear hW1
  go_wp2_with fail
  refine (cH1 _ H1).mono ?_
  rintro e w2 ⟨rfl, h2, b2⟩
  have B2 : But r w w2 := B1.trans b2
  have X2 := X1.but b2 (by omega)
  have hz2 : w.heap.size + 1 ≤ w2.heap.size := by have := b2.size; omega
  clear b2 cH1 H1 B1 X1 hz1
  go_wp2_with fail
  refine (cH2 _ h2).mono ?_
  rintro e w3 ⟨rfl, h3, b3⟩
  have B3 : But r w w3 := B2.trans b3
  have X3 := X2.but b3 (by omega)
  have hz3 : w.heap.size + 1 ≤ w3.heap.size := by have := b3.size; omega
  clear b3 cH2 h2 B2 X2 hz2
  go_wp2_with fail
  refine (cH3 _ h3).mono ?_
  rintro e w4 ⟨rfl, h4, b4⟩
  have B4 : But r w w4 := B3.trans b4
  have X4 := X3.but b4 (by omega)
  have hz4 : w.heap.size + 1 ≤ w4.heap.size := by have := b4.size; omega
  clear b4 cH3 h3 B3 X3 hz3
  have hrl2 := h4.lt
  have E5 := box7_alloc w4 (.string ⟨#[105, 102]⟩) (.string ⟨#[]⟩) (.int .i64 0) (.int .i64 0) (.string ⟨#[]⟩) (.slice none 0 0) (.int .i64 (posAt ts en st.i)) 26
  have al5 := al w4 (.cells #[.string ⟨#[105, 102]⟩, .string ⟨#[]⟩, .int .i64 0, .int .i64 0, .string ⟨#[]⟩, .slice none 0 0, .int .i64 (posAt ts en st.i)] 26)
  have B5 : But r w (w4.alloc (.cells #[.string ⟨#[105, 102]⟩, .string ⟨#[]⟩, .int .i64 0, .int .i64 0, .string ⟨#[]⟩, .slice none 0 0, .int .i64 (posAt ts en st.i)] 26)) := B4.alloc (Nat.le_of_lt hrl2) _
  have X5 := X4.on al5
  have h5 := h4.on al5
  have hz5 : w4.heap.size + 1 ≤ (w4.alloc (.cells #[.string ⟨#[105, 102]⟩, .string ⟨#[]⟩, .int .i64 0, .int .i64 0, .string ⟨#[]⟩, .slice none 0 0, .int .i64 (posAt ts en st.i)] 26)).heap.size := by simp
  obtain ⟨EB, hEB⟩ : ∃ EB, w4.heap.size = EB := ⟨_, rfl⟩
  have hEl : w.heap.size + 1 ≤ EB := by omega
  have hTE : TokNe tp ts EB := h4.ne (by omega)
  have hTB : ts.length = 0 ∨ ∃ b off, tp = some ⟨b, off, none⟩ ∧ b < EB + 1 := by
    rcases h4.toks with h0 | ⟨b, off, e, _, h2⟩
    · exact .inl h0
    · exact .inr ⟨b, off, e, by have := h2.1; omega⟩
  have hrE : r < EB := by omega
  clear B4 X4 h4 hz4 al5
  go_wp2_with fail
  refine (cN _ h5).mono ?_
  rintro e w6 ⟨rfl, h6, b6⟩
  rw [hEB] at E5 hz5
  have E6 := E5.but b6 (by omega)
  have X6 := X5.but b6 (by omega)
  have B6 : Aside (But r w w6) := B5.trans b6
  have hz6 : EB + 1 ≤ w6.heap.size := by have := b6.size; omega
  have I6 : Aside (InAt w6 r tp tc ts en S0) := by
    have := h6
    rw [show needT ts en (adv st) (⟨#[40]⟩ : ByteArray).data.toList = S0 from HS0.out] at this
    exact this
  have EA : Aside (Box7 w6 EB (.string ⟨#[105, 102]⟩) (.string ⟨#[]⟩) (.int .i64 0) (.int .i64 0) (.string ⟨#[]⟩) (.slice none 0 0) (.int .i64 (posAt ts en st.i))) := E6
  have XA : Aside (Box7 w6 w.heap.size (.string ⟨#[]⟩) (.string ⟨#[]⟩) (.int .i64 0) (.int .i64 0) (.string ⟨#[]⟩) (.slice none 0 0) (.int .i64 0)) := X6
  obtain ⟨PO, hPO⟩ : ∃ PO, posAt ts en st.i = PO := ⟨_, rfl⟩
  rw [hPO] at EA HP ⊢
  clear E5 E6 X5 X6 B5 b6 h5 h6 hEB hPO cN hz5
  go_wp2
  go_loopg [8, 9] 3 (fun gg s8 _ wr => ∃ (kk : Nat) (acc : List Ex) (S : St) (q : Option Addr) (c : Nat), kk ≤ 3 ∧ 3 - kk ≤ gg ∧ s8 = .int .i64 kk ∧ acc.length ≤ kk ∧ kk ≤ acc.length ∧ Aside (Box7 wr EB (.string ⟨#[105, 102]⟩) (.string ⟨#[]⟩) (.int .i64 0) (.int .i64 0) (.string ⟨#[]⟩) (.slice q acc.length c) (.int .i64 PO)) ∧ Aside (Box7 wr w.heap.size (.string ⟨#[]⟩) (.string ⟨#[]⟩) (.int .i64 0) (.int .i64 0) (.string ⟨#[]⟩) (.slice none 0 0) (.int .i64 0)) ∧ Aside (ArgsOwn wr (EB + 1) (.slice q acc.length c) acc) ∧ Aside (InAt wr r tp tc ts en S) ∧ Aside (But r w wr) ∧ EB + 1 ≤ wr.heap.size ∧ Hid (pArgs ts en sub 3 [] S0 = pArgs ts en sub (3 - kk) acc S) ∧ Hid (st.i + 1 ≤ S.i ∧ S.i ≤ ts.length))
  case atStart => exact ⟨0, [], S0, none, 0, Nat.zero_le _, by omega, rfl, Nat.le_refl _, Nat.le_refl _, EA, XA, (show Aside _ from argsOwn_nil _ _), I6, B6, hz6, (show Hid _ from rfl), (show Hid _ from hn1)⟩
  case round =>
    obtain ⟨kk, acc, S, q, c, hkk, hg, rfl, ha1, ha2, EA2, XA2, AO, IA, BW, hzr, HU, HSb⟩ := hrel
    clear EA XA I6 B6
    have hSb := HSb.out
    by_cases hlt2 : kk < 3
    · have hltz : (kk : Int) < 3 := by omega
      obtain ⟨S2, hS2⟩ : ∃ S2, (if acc = [] then S else needT ts en S [44]) = S2 := ⟨_, rfl⟩
      have hS2b : st.i + 1 ≤ S2.i ∧ S2.i ≤ ts.length := by
        rw [← hS2]
        split
        · exact hSb
        · have := needT_i en [44] hSb.2
          omega
      have HU2 : Hid (pArgs ts en sub 3 [] S0 = pArgs ts en sub (3 - (kk + 1)) (acc ++ [(sub S2).1]) (sub S2).2) := by
        show _ = _
        rw [HU.out, show 3 - kk = (3 - (kk + 1)) + 1 by omega, pArgs, hS2]
      have HSn : Hid (st.i + 1 ≤ (sub S2).2.i ∧ (sub S2).2.i ≤ ts.length) := by
        have := HMo.out S2 hS2b.2
        exact ⟨by omega, this.2⟩
      have cX := CE.out S2 hS2b.1 hS2b.2
      by_cases hk0 : 0 < kk
      · have hkz : (0 : Int) < (kk : Int) := by omega
        have hne : acc ≠ [] := fun h => by rw [h] at ha2; simp at ha2; omega
        rw [if_neg hne] at hS2
        clear hne
        have cN3 := fun W hW => in_need W r tp tc ts en S ⟨#[44]⟩ hW hn (by omega)
        go_wp2_with fail
        refine (cN3 _ IA.out).mono ?_
        rintro e w7 ⟨rfl, h7, b7⟩
        have h7' : InAt w7 r tp tc ts en S2 := by rw [← hS2]; exact h7
        have hz7 := b7.size
        have B7 := BW.out.trans b7
        have E7 := EA2.out.but b7 (by omega)
        have X7 := XA2.out.but b7 (by omega)
        have AO7 := AO.out.but b7 (by omega)
        clear cN3 h7 b7 EA2 XA2 AO BW IA
        go_wp2_with fail
        refine (cX _ h7').mono ?_
        rintro e w9 ⟨v, rfl, hx, h9, b9⟩
        have hx9 := hx
        obtain ⟨u0, u1, u2, u3, u4, u5, u6, u7, u8, rfl⟩ := hx.agg
        have hz9 := b9.size
        have B9 : But r w w9 := B7.trans b9
        have E9 := E7.but b9 (by omega)
        have X9 := X7.but b9 (by omega)
        have AO9 := AO7.but b9 (by omega)
        have hob : ∀ j, (Value.slice q acc.length c).ownBlock = some j → EB + 1 ≤ j ∧ j < w7.heap.size := fun j hj => by
          obtain ⟨cs3, o3, _⟩ := AO7
          exact o3.lt j hj
        have b10 := (al w9 (.cells #[.string u0, .string u1, .int .i64 u2, .int .i64 u3, .string u4, .slice u5 u6 u7, .int .i64 u8] 26)).trans ((al _ (.cells #[.string u0, .string u1, .int .i64 u2, .int .i64 u3, .string u4, .slice u5 u6 u7, .int .i64 u8] 26)).mono (by simp))
        obtain ⟨cs, ao1, ao2⟩ := AO9.on b10
        have hx2 := ExIn.low (lo' := fun b => EB + 1 ≤ b ∧ some b ≠ (Value.slice q acc.length c).ownBlock) (fun b _ hb => ⟨by omega, fun e => by have := hob b e.symm; omega⟩) _ _ (hx9.on b10)
        obtain ⟨f0, f1, f2, f3, f4, f5, f6, ff, fl⟩ := E9
        have E10 := (Box7.mk f0 f1 f2 f3 f4 f5 f6 ff fl).on b10
        have X10 := X9.on b10
        have h10 := h9.on b10
        have B10 : But r w ((w9.alloc (.cells #[.string u0, .string u1, .int .i64 u2, .int .i64 u3, .string u4, .slice u5 u6 u7, .int .i64 u8] 26)).alloc (.cells #[.string u0, .string u1, .int .i64 u2, .int .i64 u3, .string u4, .slice u5 u6 u7, .int .i64 u8] 26)) := B9.on b10 hrl
        have hs10 := b10.size
        have hE9 : EB < w9.heap.size := by omega
        clear X9 hx hx9 ff b9
        go_wp2_with (at_builtin; refine wpList_append_fresh rfl _ _ 24 rfl (EB + 1) 26 i0 (.agg #[.string ⟨#[]⟩, .string ⟨#[]⟩, .int .i64 0, .int .i64 0, .string ⟨#[]⟩, .slice none 0 0, .int .i64 0]) 7 96 Tryz.underlying24 hii hz0 hzz1 hzzz rfl (by decide) _ _ _ rfl ao1 ⟨w9.heap.size + 1, 0, none⟩ 1 1 [.string u0, .string u1, .int .i64 u2, .int .i64 u3, .string u4, .slice u5 u6 u7, .int .i64 u8] rfl rfl ?c1 ?c2 (by decide) ?c3 ?c4 ?c5 ?_)
        case c1 =>
          intro i u hu
          rw [Go.WideShapes.add_plain, World.cell?_alloc_at _ _ _ _ (by simp)]
          simpa using hu
        case c2 =>
          intro u hu
          simp at hu
          rcases hu with rfl | rfl | rfl | rfl | rfl | rfl | rfl <;> rfl
        case c3 => unfold maxLen; omega
        case c4 => omega
        case c5 => simp; omega
        intro v' w11 hown' hgrow hfr
        have AO11 := ArgsOwn.push ao1 ao2 hx2 hown' hgrow (hfr.imp id (fun h => by rw [h]; simp))
        have hgs := hgrow.size
        have bE : Below (EB + 1) ((w9.alloc (.cells #[.string u0, .string u1, .int .i64 u2, .int .i64 u3, .string u4, .slice u5 u6 u7, .int .i64 u8] 26)).alloc (.cells #[.string u0, .string u1, .int .i64 u2, .int .i64 u3, .string u4, .slice u5 u6 u7, .int .i64 u8] 26)) w11 := (Below.refl (EB + 1) _).grown hgrow (by simp; omega) (fun j hj => (hob j hj).1)
        have E11 := E10.onB bE (by omega)
        have X11 := X10.onB bE (by omega)
        have h11 := h10.onB bE (by omega) hTB
        have B11 : But r w w11 := ⟨B10.below.grown hgrow (by simp; omega) (fun j hj => by have := (hob j hj).1; omega), Nat.le_trans B10.size hgs, fun j hj hjr => by rw [hgrow.block j (by have := B10.size; omega) (fun e => by have := (hob j e.symm).1; omega)]; exact B10.kept j hj hjr⟩
        obtain ⟨cs5, o5, _⟩ := id AO11
        obtain ⟨q5, c5, rfl⟩ := lown_slice o5
        have AS : Aside (ArgsOwn (w11.setCell ⟨EB, 5, none⟩ (.slice q5 (acc.length + 1) c5)) (EB + 1) (.slice q5 (acc ++ [(sub S2).1]).length c5) (acc ++ [(sub S2).1])) := by
          exact AO11.but ((But.refl EB w11).set 5 _) (Nat.lt_succ_self _)
        have ES : Aside (Box7 (w11.setCell ⟨EB, 5, none⟩ (.slice q5 (acc.length + 1) c5)) EB (.string ⟨#[105, 102]⟩) (.string ⟨#[]⟩) (.int .i64 0) (.int .i64 0) (.string ⟨#[]⟩) (.slice q5 (acc ++ [(sub S2).1]).length c5) (.int .i64 PO)) := by
          rw [List.length_append, List.length_singleton]
          exact E11.put5 _
        have XS : Aside (Box7 (w11.setCell ⟨EB, 5, none⟩ (.slice q5 (acc.length + 1) c5)) w.heap.size (.string ⟨#[]⟩) (.string ⟨#[]⟩) (.int .i64 0) (.int .i64 0) (.string ⟨#[]⟩) (.slice none 0 0) (.int .i64 0)) := X11.but ((But.refl EB w11).set 5 _) (by omega)
        have IS : Aside (InAt (w11.setCell ⟨EB, 5, none⟩ (.slice q5 (acc.length + 1) c5)) r tp tc ts en (sub S2).2) := h11.setFar (by omega) hTE 5 _
        have BS : Aside (But r w (w11.setCell ⟨EB, 5, none⟩ (.slice q5 (acc.length + 1) c5))) := B11.setNew EB 5 (by omega) (by omega) _
        have hzS : EB + 1 ≤ (w11.setCell ⟨EB, 5, none⟩ (.slice q5 (acc.length + 1) c5)).heap.size := by simp [World.setCell]; omega
        obtain ⟨k0, k1, k2, k3, k4, k5, k6, kf, kl⟩ := E11
        have kf5 := kf 5
        clear o5 hown' hgrow hfr AO11 X11 h11 B11 bE kf
        go_wp2
        go_roundg (3 - (kk + 1))
        case measure => omega
        case rel => exact ⟨kk + 1, acc ++ [(sub S2).1], (sub S2).2, q5, c5, by omega, by omega, by go_num, by rw [List.length_append, List.length_singleton]; omega, by rw [List.length_append, List.length_singleton]; omega, ES, XS, AS, IS, BS, hzS, HU2, HSn⟩
      · have hkz : ¬ (0 : Int) < (kk : Int) := by omega
        have hne : acc = [] := List.length_eq_zero_iff.1 (by omega)
        rw [if_pos hne] at hS2
        clear hne
        have h7' : InAt wr r tp tc ts en S2 := by rw [← hS2]; exact IA.out
        have B7 := BW.out
        have E7 := EA2.out
        have X7 := XA2.out
        have AO7 := AO.out
        clear EA2 XA2 AO BW IA
        go_wp2_with fail
        refine (cX _ h7').mono ?_
        rintro e w9 ⟨v, rfl, hx, h9, b9⟩
        have hx9 := hx
        obtain ⟨u0, u1, u2, u3, u4, u5, u6, u7, u8, rfl⟩ := hx.agg
        have hz9 := b9.size
        have B9 : But r w w9 := B7.trans b9
        have E9 := E7.but b9 (by omega)
        have X9 := X7.but b9 (by omega)
        have AO9 := AO7.but b9 (by omega)
        have hob : ∀ j, (Value.slice q acc.length c).ownBlock = some j → EB + 1 ≤ j ∧ j < wr.heap.size := fun j hj => by
          obtain ⟨cs3, o3, _⟩ := AO7
          exact o3.lt j hj
        have b10 := (al w9 (.cells #[.string u0, .string u1, .int .i64 u2, .int .i64 u3, .string u4, .slice u5 u6 u7, .int .i64 u8] 26)).trans ((al _ (.cells #[.string u0, .string u1, .int .i64 u2, .int .i64 u3, .string u4, .slice u5 u6 u7, .int .i64 u8] 26)).mono (by simp))
        obtain ⟨cs, ao1, ao2⟩ := AO9.on b10
        have hx2 := ExIn.low (lo' := fun b => EB + 1 ≤ b ∧ some b ≠ (Value.slice q acc.length c).ownBlock) (fun b _ hb => ⟨by omega, fun e => by have := hob b e.symm; omega⟩) _ _ (hx9.on b10)
        obtain ⟨f0, f1, f2, f3, f4, f5, f6, ff, fl⟩ := E9
        have E10 := (Box7.mk f0 f1 f2 f3 f4 f5 f6 ff fl).on b10
        have X10 := X9.on b10
        have h10 := h9.on b10
        have B10 : But r w ((w9.alloc (.cells #[.string u0, .string u1, .int .i64 u2, .int .i64 u3, .string u4, .slice u5 u6 u7, .int .i64 u8] 26)).alloc (.cells #[.string u0, .string u1, .int .i64 u2, .int .i64 u3, .string u4, .slice u5 u6 u7, .int .i64 u8] 26)) := B9.on b10 hrl
        have hs10 := b10.size
        have hE9 : EB < w9.heap.size := by omega
        clear X9 hx hx9 ff b9
        go_wp2_with (at_builtin; refine wpList_append_fresh rfl _ _ 24 rfl (EB + 1) 26 i0 (.agg #[.string ⟨#[]⟩, .string ⟨#[]⟩, .int .i64 0, .int .i64 0, .string ⟨#[]⟩, .slice none 0 0, .int .i64 0]) 7 96 Tryz.underlying24 hii hz0 hzz1 hzzz rfl (by decide) _ _ _ rfl ao1 ⟨w9.heap.size + 1, 0, none⟩ 1 1 [.string u0, .string u1, .int .i64 u2, .int .i64 u3, .string u4, .slice u5 u6 u7, .int .i64 u8] rfl rfl ?c1 ?c2 (by decide) ?c3 ?c4 ?c5 ?_)
        case c1 =>
          intro i u hu
          rw [Go.WideShapes.add_plain, World.cell?_alloc_at _ _ _ _ (by simp)]
          simpa using hu
        case c2 =>
          intro u hu
          simp at hu
          rcases hu with rfl | rfl | rfl | rfl | rfl | rfl | rfl <;> rfl
        case c3 => unfold maxLen; omega
        case c4 => omega
        case c5 => simp; omega
        intro v' w11 hown' hgrow hfr
        have AO11 := ArgsOwn.push ao1 ao2 hx2 hown' hgrow (hfr.imp id (fun h => by rw [h]; simp))
        have hgs := hgrow.size
        have bE : Below (EB + 1) ((w9.alloc (.cells #[.string u0, .string u1, .int .i64 u2, .int .i64 u3, .string u4, .slice u5 u6 u7, .int .i64 u8] 26)).alloc (.cells #[.string u0, .string u1, .int .i64 u2, .int .i64 u3, .string u4, .slice u5 u6 u7, .int .i64 u8] 26)) w11 := (Below.refl (EB + 1) _).grown hgrow (by simp; omega) (fun j hj => (hob j hj).1)
        have E11 := E10.onB bE (by omega)
        have X11 := X10.onB bE (by omega)
        have h11 := h10.onB bE (by omega) hTB
        have B11 : But r w w11 := ⟨B10.below.grown hgrow (by simp; omega) (fun j hj => by have := (hob j hj).1; omega), Nat.le_trans B10.size hgs, fun j hj hjr => by rw [hgrow.block j (by have := B10.size; omega) (fun e => by have := (hob j e.symm).1; omega)]; exact B10.kept j hj hjr⟩
        obtain ⟨cs5, o5, _⟩ := id AO11
        obtain ⟨q5, c5, rfl⟩ := lown_slice o5
        have AS : Aside (ArgsOwn (w11.setCell ⟨EB, 5, none⟩ (.slice q5 (acc.length + 1) c5)) (EB + 1) (.slice q5 (acc ++ [(sub S2).1]).length c5) (acc ++ [(sub S2).1])) := by
          exact AO11.but ((But.refl EB w11).set 5 _) (Nat.lt_succ_self _)
        have ES : Aside (Box7 (w11.setCell ⟨EB, 5, none⟩ (.slice q5 (acc.length + 1) c5)) EB (.string ⟨#[105, 102]⟩) (.string ⟨#[]⟩) (.int .i64 0) (.int .i64 0) (.string ⟨#[]⟩) (.slice q5 (acc ++ [(sub S2).1]).length c5) (.int .i64 PO)) := by
          rw [List.length_append, List.length_singleton]
          exact E11.put5 _
        have XS : Aside (Box7 (w11.setCell ⟨EB, 5, none⟩ (.slice q5 (acc.length + 1) c5)) w.heap.size (.string ⟨#[]⟩) (.string ⟨#[]⟩) (.int .i64 0) (.int .i64 0) (.string ⟨#[]⟩) (.slice none 0 0) (.int .i64 0)) := X11.but ((But.refl EB w11).set 5 _) (by omega)
        have IS : Aside (InAt (w11.setCell ⟨EB, 5, none⟩ (.slice q5 (acc.length + 1) c5)) r tp tc ts en (sub S2).2) := h11.setFar (by omega) hTE 5 _
        have BS : Aside (But r w (w11.setCell ⟨EB, 5, none⟩ (.slice q5 (acc.length + 1) c5))) := B11.setNew EB 5 (by omega) (by omega) _
        have hzS : EB + 1 ≤ (w11.setCell ⟨EB, 5, none⟩ (.slice q5 (acc.length + 1) c5)).heap.size := by simp [World.setCell]; omega
        obtain ⟨k0, k1, k2, k3, k4, k5, k6, kf, kl⟩ := E11
        have kf5 := kf 5
        clear o5 hown' hgrow hfr AO11 X11 h11 B11 bE kf
        go_wp2
        go_roundg (3 - (kk + 1))
        case measure => omega
        case rel => exact ⟨kk + 1, acc ++ [(sub S2).1], (sub S2).2, q5, c5, by omega, by omega, by go_num, by rw [List.length_append, List.length_singleton]; omega, by rw [List.length_append, List.length_singleton]; omega, ES, XS, AS, IS, BS, hzS, HU2, HSn⟩
    · have hltz : ¬ (kk : Int) < 3 := by omega
      obtain rfl : kk = 3 := by omega
      have hU := HU.out
      rw [Nat.sub_self, pArgs] at hU
      have hP := HP.out
      rw [hU] at hP
      have cN2 := fun W hW => in_need W r tp tc ts en S ⟨#[41]⟩ hW hn (by omega)
      obtain ⟨a0, a1, a2, a3, a4, a5, a6, af, alt⟩ := EA2.out
      clear HU HSb
      go_wp2_with fail
      refine (cN2 _ IA.out).mono ?_
      rintro e w8 ⟨rfl, h8, b8⟩
      have B8 := BW.out.trans b8
      obtain ⟨d0, d1, d2, d3, d4, d5, d6, df, dl⟩ := XA2.out.but b8 (by omega)
      obtain ⟨e0, e1, e2, e3, e4, e5, e6, ef, el⟩ := EA2.out.but b8 (by omega)
      have AO8 := AO.out.but b8 (by omega)
      have df0 := df 0
      have df1 := df 1
      have df2 := df 2
      have df3 := df 3
      have df4 := df 4
      have df5 := df 5
      have df6 := df 6
      clear df ef af XA2 EA2 a0 a1 a2 a3 a4 a5 a6 b8 AO BW IA cN2
      go_wp2
      refine bodyPost_ret (v := .agg #[.string ⟨#[105, 102]⟩, .string ⟨#[]⟩, .int .i64 0, .int .i64 0, .string ⟨#[]⟩, .slice q acc.length c, .int .i64 PO]) (by simp [results, Tryz.results41, go_sem, d0, d1, d2, d3, d4, d5, d6, dl]) rfl ⟨_, rfl, ?_, ?_, ?_⟩
      · rw [hP]
        exact ((ex_args (op := ⟨#[105, 102]⟩) (nm := ⟨#[]⟩) (vs := ⟨#[]⟩) AO8.is (by decide) (by decide) (by decide)).set7 (own_ne (by omega)) _ _ _ _ _ _ _).lowB (by omega)
      · rw [hP]
        exact h8.set7 (by omega) hT _ _ _ _ _ _ _
      · exact B8.set7 (Nat.le_refl _) (by omega) _ _ _ _ _ _ _
end Go.Proofs.YtkoejkpjkcejcaaGreatDoor
namespace Go.Proofs.YtkoejkpjkcejcaaGreatDoor
open Go.RowKit
set_option linter.unusedVariables false

theorem readV_small (s : ByteArray) : (readV s).2.2.1.length ≤ 400 := by
  unfold readV
  repeat' split
  all_goals first | (simp only [List.length_nil]; omega) | (simp only; omega)
theorem takeT_small {ts : List Tok} {en : Nat} {st : St} (hzz : ∀ t ∈ ts, t.2.1.size ≤ 400) : (takeT ts en st).1.size ≤ 400 := by
  unfold takeT
  split
  · split
    · rename_i t ht
      split
      · exact hzz t (List.mem_of_getElem? ht)
      · exact Nat.zero_le _
    · exact Nat.zero_le _
  · exact Nat.zero_le _
theorem gives_one (r : Nat) (tp : Option Addr) (tc : Nat) (ts : List Tok) (en : Nat) (hn : ts.length ≤ 400) (hzz : ∀ t ∈ ts, t.2.1.size ≤ 400) (st : St) (hi : st.i ≤ ts.length) (hbad : st.bad < 0) (sub : St → Ex × St) (hm : Mono ts sub) (cE : ∀ s, st.i + 1 ≤ s.i → s.i ≤ ts.length → GivesE r tp tc ts en 0 s (sub s).1 (sub s).2) : GivesO r tp tc ts en st (pOne ts en sub readV st).1 (pOne ts en sub readV st).2 := by
  have hai : (adv st).i = st.i + 1 := rfl
  unfold pOne
  by_cases h1 : isT ts st [40] = true
  · rw [if_pos h1]
    have hl := isT_lt h1
    have hmm := hm (adv st) (by rw [hai]; omega)
    exact ref_one_br r tp tc ts en st _ _ hn (by omega) (by omega) h1 (cE (adv st) (by rw [hai]; omega) (by rw [hai]; omega))
  rw [if_neg h1]
  have b1 : isT ts st [40] = false := by simpa using h1
  by_cases h2 : isT ts st [108, 101, 110] = true
  · rw [if_pos h2]
    exact one_len r tp tc ts en st sub hn (by omega) b1 h2 hm cE
  rw [if_neg h2]
  have b2 : isT ts st [108, 101, 110] = false := by simpa using h2
  by_cases h3 : isT ts st [105, 102] = true
  · rw [if_pos h3]
    exact one_if r tp tc ts en st sub hn (by omega) b1 b2 h3 hm cE
  rw [if_neg h3]
  have b3 : isT ts st [105, 102] = false := by simpa using h3
  by_cases hlt : st.i < ts.length
  · rw [List.getElem?_eq_getElem hlt]
    simp only
    by_cases hv : valT ts[st.i] = true
    · rw [if_pos ⟨hbad, hv⟩]
      exact one_val r tp tc ts en st hn (by omega) b1 b2 b3 hbad hlt hv (fun W => read_any _ W (by have := hzz _ (List.getElem_mem hlt); omega)) (readV_small _)
    · rw [if_neg (fun h => hv h.2)]
      exact one_colB r tp tc ts en st hn (by omega) b1 b2 b3 hzz (takeT_small hzz) hbad hlt (by simpa using hv)
  · rw [List.getElem?_eq_none (by omega)]
    exact one_colA r tp tc ts en st hn (by omega) b1 b2 b3 hzz (takeT_small hzz) (fun h => hlt h.1)
theorem gives_all (r : Nat) (tp : Option Addr) (tc : Nat) (ts : List Tok) (en : Nat) (hn : ts.length ≤ 400) (hzz : ∀ t ∈ ts, t.2.1.size ≤ 400) : ∀ (g l : Nat) (st : St), l ≤ 5 → st.i ≤ ts.length → (ts.length - st.i) * 6 + (6 - l) ≤ g → GivesE r tp tc ts en (l : Int) st (pE ts en readV g l st).1 (pE ts en readV g l st).2
  | 0, l, st, hl, hi, hg => by omega
  | g + 1, l, st, hl, hi, hg => by
    have hai : (adv st).i = st.i + 1 := rfl
    rw [pE]
    by_cases hb : 0 ≤ st.bad
    · rw [if_pos hb]
      exact expr_bad r tp tc ts en st hn (by omega) l hb
    rw [if_neg hb]
    have hbad : st.bad < 0 := by omega
    by_cases hnt : l = 2 ∧ isT ts st [110, 111, 116] = true
    · rw [if_pos hnt]
      obtain ⟨rfl, hnt⟩ := hnt
      have hlt := isT_lt hnt
      exact expr_not r tp tc ts en st hn (by omega) _ _ hbad hnt (gives_all r tp tc ts en hn hzz g 2 (adv st) (by omega) (by rw [hai]; omega) (by rw [hai]; omega))
    rw [if_neg hnt]
    by_cases h5 : l = 5
    · subst h5
      rw [if_pos rfl]
      by_cases hng : isT ts st [45] = true
      · rw [if_pos hng]
        have hlt := isT_lt hng
        exact expr_neg r tp tc ts en st hn (by omega) _ _ hbad hng (gives_all r tp tc ts en hn hzz g 5 (adv st) (by omega) (by rw [hai]; omega) (by rw [hai]; omega))
      · rw [if_neg hng]
        exact expr_one r tp tc ts en st hn (by omega) _ _ hbad (by simpa using hng) (gives_one r tp tc ts en hn hzz st hi hbad (pE ts en readV g 0) (pE_i g 0) (fun s h1 h2 => gives_all r tp tc ts en hn hzz g 0 s (by omega) h2 (by omega)))
    rw [if_neg h5]
    have nx : ∀ s : St, st.i ≤ s.i → s.i ≤ ts.length → GivesE r tp tc ts en ((l : Int) + 1) s (pE ts en readV g (l + 1) s).1 (pE ts en readV g (l + 1) s).2 := fun s h1 h2 => by
      have := gives_all r tp tc ts en hn hzz g (l + 1) s (by omega) h2 (by omega)
      rw [show ((l + 1 : Nat) : Int) = (l : Int) + 1 by omega] at this
      exact this
    by_cases h2 : l = 2
    · subst h2
      exact expr_cmp r tp tc ts en st (pE ts en readV g 3) hn hi hbad (by simpa using hnt) (pE_i g 3) (nx st (Nat.le_refl _) hi) (fun s h1 h3 => nx s (by omega) h3)
    · exact expr_lev r tp tc ts en st l (by omega) h2 (pE ts en readV g (l + 1)) hn hi hbad (pE_i g (l + 1)) (nx st (Nat.le_refl _) hi) (fun s h1 h3 => nx s (by omega) h3)
end Go.Proofs.YtkoejkpjkcejcaaGreatDoor
namespace Go.Proofs.YtkoejkpjkcejcaaGreatDoor
set_option linter.unusedVariables false

/-- A word whose kind is its text's. -/
def KdT (t : Tok) : Prop := tokAt t.2.1.data.toList = (t.1, t.2.1.data.toList.length, 0)
/-- The words that both ask for have the kinds of words and signs. -/
def keysL : List (List UInt8) := [[111, 114], [97, 110, 100], [110, 111, 116], [61], [60, 62], [60], [60, 61], [62], [62, 61], [43], [45], [42], [47], [37], [40], [41], [44], [108, 101, 110], [105, 102]]
theorem key_kind {t : Tok} (h : KdT t) (hk : t.2.1.data.toList ∈ keysL) : t.1 = 1 ∨ t.1 = 4 := by
  rw [KdT] at h
  simp only [keysL, List.mem_cons, List.not_mem_nil, or_false] at hk
  have key : ∀ g : List UInt8, t.2.1.data.toList = g → ((tokAt g).1 = 1 ∨ (tokAt g).1 = 4) → t.1 = 1 ∨ t.1 = 4 := fun g e hg => by
    rw [e] at h; rw [h] at hg; exact hg
  rcases hk with e | e | e | e | e | e | e | e | e | e | e | e | e | e | e | e | e | e | e <;> exact key _ e (by decide)
section
variable (ts : List Tok) (en : Nat)
/-- The words that are left, and the place of the next one. -/
theorem suf_at {r : List Tok} (h : r <:+ ts) : ts[ts.length - r.length]? = r.head? ∧ r.length ≤ ts.length := by
  obtain ⟨p, rfl⟩ := h
  refine ⟨?_, by simp⟩
  rw [List.length_append, show p.length + r.length - r.length = p.length from by omega, List.getElem?_append_right (Nat.le_refl _), Nat.sub_self]
  cases r <;> rfl
def S0 (r : List Tok) : St := ⟨ts.length - r.length, -1⟩
theorem S0_adv {r : List Tok} {t : Tok} (h : (t :: r) <:+ ts) : adv (S0 ts (t :: r)) = S0 ts r := by
  have := (suf_at ts h).2
  simp only [List.length_cons] at this
  simp only [adv, S0, List.length_cons, St.mk.injEq, and_true]
  omega
theorem pos_at {r : List Tok} {t : Tok} (h : (t :: r) <:+ ts) : posAt ts en (S0 ts (t :: r)).i = (t.2.2 : Int) := by
  rw [posAt, show (S0 ts (t :: r)).i = ts.length - (t :: r).length from rfl, (suf_at ts h).1]
  rfl
/-- Is the next of the words that are left this one? -/
def hdIs (g : List UInt8) : List Tok → Bool
  | [] => false
  | t :: _ => t.2.1.data.toList == g
theorem S0_neg (r : List Tok) : (S0 ts r).bad < 0 := by
  show (-1 : Int) < 0
  decide
theorem is_at {r : List Tok} (h : r <:+ ts) (hk : ∀ t ∈ ts, KdT t) {g : List UInt8} (hg : g ∈ keysL) : isT ts (S0 ts r) g = hdIs g r := by
  rw [isT, show (S0 ts r).i = ts.length - r.length from rfl, (suf_at ts h).1, show (S0 ts r).bad = -1 from rfl]
  cases r with
  | nil => rfl
  | cons t q =>
    simp only [List.head?_cons, hdIs]
    cases he : t.2.1.data.toList == g with
    | false => simp
    | true =>
      have e : t.2.1.data.toList = g := by simpa using he
      rcases key_kind (hk t (h.subset (by simp))) (by rw [e]; exact hg) with h1 | h1 <;> simp [h1]
theorem first_at {r : List Tok} (h : r <:+ ts) (hk : ∀ t ∈ ts, KdT t) : ∀ gs : List (List UInt8), (∀ g ∈ gs, g ∈ keysL) → firstT ts (S0 ts r) gs = (nxT (sgT gs) r).map fun q => q.1.2.1.data.toList
  | [], _ => by cases r <;> simp [firstT, nxT, sgT]
  | g :: gs, hg => by
    rw [firstT, is_at ts h hk (hg g (by simp)), first_at h hk gs (fun x hx => hg x (by simp [hx]))]
    cases r with
    | nil => simp [nxT, hdIs]
    | cons t q =>
      have hs : sgT (g :: gs) t = ((g == t.2.1.data.toList) || sgT gs t) := by simp [sgT]
      have hh : hdIs g (t :: q) = (t.2.1.data.toList == g) := rfl
      rw [nxT, nxT, hs, hh]
      by_cases e : t.2.1.data.toList = g
      · have b1 : (t.2.1.data.toList == g) = true := by simpa using e
        have b2 : (g == t.2.1.data.toList) = true := by simpa using e.symm
        rw [b1, b2]
        simp [e]
      · have b1 : (t.2.1.data.toList == g) = false := by simpa using e
        have b2 : (g == t.2.1.data.toList) = false := by simpa using fun x => e x.symm
        rw [b1, b2, Bool.false_or, if_neg (by decide)]
/-- Both read the same, or go wrong at the same place. -/
def Sim (U : Option Ex × List Tok) (P : Ex × St) : Prop := match U.1 with
  | some e => P = (e, S0 ts U.2)
  | none => P.2.bad = posAt ts en (ts.length - U.2.length)
theorem pos_nn (i : Nat) : 0 ≤ posAt ts en i := by
  rw [posAt]
  split <;> omega
theorem bad_is {st : St} (h : 0 ≤ st.bad) (g : List UInt8) : isT ts st g = false := by
  rw [isT, decide_eq_false (by omega), Bool.false_and]
theorem bad_first {st : St} (h : 0 ≤ st.bad) : ∀ gs : List (List UInt8), firstT ts st gs = none
  | [] => rfl
  | g :: gs => by rw [firstT, bad_is ts h, if_neg (by decide), bad_first h gs]
theorem bad_loop {st : St} (h : 0 ≤ st.bad) (sub : St → Ex × St) (lv k : Nat) (e : Ex) : pLoop ts en sub lv k e st = (e, st) := by
  cases k with
  | zero => rfl
  | succ k => rw [pLoop, bad_first ts h]
theorem bad_need {st : St} (h : 0 ≤ st.bad) (g : List UInt8) : needT ts en st g = st := by
  rw [needT, bad_is ts h, if_neg (by decide), failT, if_neg (by omega)]
theorem bet_op {a b : Ex} {t : Tok} {r : List Tok} (h : (t :: r) <:+ ts) : op1 t.2.1.data.toList (posAt ts en (S0 ts (t :: r)).i) [a, b] = betT a t b := by
  rw [pos_at ts en h]
  rfl
/-- Signs and parts, over and over. -/
theorem loop_sim (hk : ∀ t ∈ ts, KdT t) {subU : List Tok → Option Ex × List Tok} {subP : St → Ex × St} (hf : Suf subU) (lv : Nat) (hlv : lv ≠ 2) (hkey : ∀ g ∈ sgl lv, g ∈ keysL) : ∀ (k k' : Nat) (e : Ex) (r : List Tok), r <:+ ts → r.length < k → r.length < k' → (∀ q, q <:+ ts → q.length < r.length → Sim ts en (subU q) (subP (S0 ts q))) → Sim ts en (uLoop subU (sgl lv) k e r) (pLoop ts en subP lv k' e (S0 ts r))
  | 0, k', e, r, hr, h1, _, _ => by omega
  | k + 1, 0, e, r, hr, _, h2, _ => by omega
  | k + 1, k' + 1, e, r, hr, h1, h2, hI => by
    rw [uLoop, pLoop, first_at ts hr hk _ hkey]
    cases hn : nxT (sgT (sgl lv)) r with
    | none => exact rfl
    | some q =>
      obtain ⟨t, r1⟩ := q
      have hr1 := (nxT_len hn).1
      subst hr1
      have hs1 : r1 <:+ ts := (List.suffix_cons t r1).trans hr
      simp only [Option.map_some]
      rw [if_neg hlv, S0_adv ts hr]
      have h4 := hI r1 hs1 (by simp)
      have h5 := hf r1
      cases h3 : subU r1 with
      | mk o r2 =>
        rw [h3] at h4 h5
        cases o with
        | none =>
          have h6 : (subP (S0 ts r1)).2.bad = posAt ts en (ts.length - r2.length) := h4
          simp only
          rw [bad_loop ts en (by rw [h6]; exact pos_nn ts en _)]
          exact h6
        | some b =>
          have h6 : subP (S0 ts r1) = (b, S0 ts r2) := h4
          rw [h6]
          simp only
          rw [bet_op ts en hr]
          have h7 : r2.length ≤ r1.length := h5.length_le
          simp only [List.length_cons] at h1 h2
          exact loop_sim hk hf lv hlv hkey k k' (betT e t b) r2 (h5.trans hs1) (by omega) (by omega) (fun q hq hl => hI q hq (by rw [List.length_cons]; omega))
end
end Go.Proofs.YtkoejkpjkcejcaaGreatDoor
namespace Go.Proofs.YtkoejkpjkcejcaaGreatDoor
set_option linter.unusedVariables false

theorem rd_some : ∀ (n : Nat) (q x : List UInt8), q.length ≤ n → rd q = some x → q = esc x ++ [39]
  | _, [], x, _, h => by rw [rd_nil] at h; exact absurd h (by simp)
  | 0, c :: q, x, hl, _ => by simp at hl
  | n + 1, c :: q, x, hl, h => by
    simp only [List.length_cons] at hl
    by_cases hc : c = 39
    · subst hc
      cases q with
      | nil => rw [rd_one] at h; simp only [Option.some.injEq] at h; subst h; rfl
      | cons d r =>
        by_cases hd : d = 39
        · subst hd
          rw [rd_two] at h
          obtain ⟨y, hy, rfl⟩ := Option.map_eq_some_iff.1 h
          simp only [List.length_cons] at hl
          rw [rd_some n r y (by omega) hy, esc_cons, if_pos rfl]
          rfl
        · rw [rd_bad d r hd] at h
          exact absurd h (by simp)
    · rw [rd_ne c q hc] at h
      obtain ⟨y, hy, rfl⟩ := Option.map_eq_some_iff.1 h
      rw [rd_some n q y (by omega) hy, esc_cons, if_neg hc]
      rfl
theorem noval_minus {s : ByteArray} (h : s.data.toList = [45]) : (readV s).2.2.2 ≠ 0 := by
  rw [readV, if_neg (by rw [h]; decide), if_neg (by rw [h]; decide), if_neg (by rw [h]; decide)]
  split
  · split
    · rename_i n _ e
      rw [h, Lib.itoa] at e
      split at e
      · obtain ⟨c, r, hd, _⟩ := digits_head n.natAbs n.natAbs (Nat.le_refl _)
        rw [hd] at e
        simp at e
      · obtain ⟨c, r, hd, hc⟩ := digits_head n.toNat n.toNat (Nat.le_refl _)
        rw [hd] at e
        injection e with e _
        subst e
        exact absurd hc (by decide)
    · decide
  · decide
theorem val_agree {t : Tok} (h : KdT t) : vlT t = valT t := by
  rw [KdT] at h
  have hvl : ∀ b : Bool, ((readV t.2.1).2.2.2 = 0 ↔ b = true) → vlT t = b := fun b hb => by
    rw [vlT]
    cases b with
    | true => simpa using hb.2 rfl
    | false => simpa using fun e => absurd (hb.1 e) (by decide)
  cases hl : t.2.1.data.toList with
  | nil =>
    rw [hl, tokAt] at h
    simp only [Prod.mk.injEq] at h
    exact absurd h.2.2 (by decide)
  | cons c q =>
    have h0 := h
    rw [hl, tokAt] at h
    by_cases c1 : letB c = true
    · rw [if_pos c1] at h
      simp only [Prod.mk.injEq] at h
      have hk : t.1 = 1 := h.1.symm
      have hc := letB_num c1
      refine hvl _ ?_
      rw [valT, hk, hl]
      by_cases e1 : c :: q = [116, 114, 117, 101]
      · have : readV t.2.1 = (2, 1, [], 0) := by rw [readV, if_pos (by rw [hl]; exact e1)]
        rw [this, e1]; simp
      · by_cases e2 : c :: q = [102, 97, 108, 115, 101]
        · have : readV t.2.1 = (2, 0, [], 0) := by rw [readV, if_neg (by rw [hl]; exact e1), if_pos (by rw [hl]; exact e2)]
          rw [this, e2]; simp
        · have hn := noval (s := t.2.1) (c := c) (r := q) hl (fun e => by subst e; exact absurd hc.1 (by decide)) (by omega) (by rw [hl]; exact e1) (by rw [hl]; exact e2)
          constructor
          · intro e; exact absurd e hn
          · intro e
            simp only [Bool.or_eq_true, Bool.and_eq_true, decide_eq_true_eq, beq_iff_eq] at e
            rcases e with (e | e) | ⟨_, e | e⟩
            · exact absurd e (by decide)
            · exact absurd e (by decide)
            · exact absurd e e1
            · exact absurd e e2
    rw [if_neg c1] at h
    by_cases c2 : digB c = true
    · rw [if_pos c2] at h
      have hk : t.1 = 2 := (congrArg Prod.fst h).symm
      have hnt : numTok (c :: q) = ((c :: q).length, 0) := congrArg Prod.snd h
      refine hvl _ ?_
      have hvt : valT t = true := by rw [valT, hk]; rfl
      rw [hvt]
      refine ⟨fun _ => rfl, fun _ => ?_⟩
      rw [numTok] at hnt
      split at hnt
      · simp at hnt
      · rename_i hno
        split at hnt
        · simp at hnt
        · rename_i hmx
          have hg : goN digB (c :: q) = (c :: q).length := congrArg Prod.fst hnt
          have hall := goN_all digB (c :: q)
          rw [hg, List.take_length] at hall
          rw [hg, List.take_length] at hmx
          have hdec := dec_val q.length (c :: q) rfl hall (fun r e => by
            injection e with e1 e2
            subst e1 e2
            cases q with
            | nil => rfl
            | cons d q' => exact absurd (.inr ⟨by rw [hg]; simp, by simp⟩) hno)
          have hrd := read_shown 1 (val10 (c :: q) : Int) [] t.2.1 (by omega) (by simp [chk]) (by rw [hl, shown, if_pos rfl, Lib.itoa, if_neg (by omega), Int.toNat_natCast, hdec])
          rw [hrd]
    rw [if_neg c2] at h
    by_cases c3 : c = 39
    · rw [if_pos c3] at h
      have hk : t.1 = 3 := (congrArg Prod.fst h).symm
      have hqt : quoTok q = ((c :: q).length, 0) := congrArg Prod.snd h
      refine hvl _ ?_
      have hvt : valT t = true := by rw [valT, hk]; rfl
      rw [hvt]
      refine ⟨fun _ => rfl, fun _ => ?_⟩
      rw [quoTok] at hqt
      cases hq : qscan q with
      | none => rw [hq] at hqt; simp at hqt
      | some k =>
        rw [hq] at hqt
        simp only at hqt
        split at hqt
        · rename_i hE
          simp only [Prod.mk.injEq, List.length_cons] at hqt
          have hkq : k = q.length := by omega
          rw [hkq, List.take_length, qE] at hE
          cases hr : rd q with
          | none => rw [hr] at hE; simp at hE
          | some x =>
            rw [hr] at hE
            simp only at hE
            split at hE
            · simp at hE
            · rename_i hp
              split at hE
              · simp at hE
              · rename_i hl40
                have hp' : plainB x = true := by simpa using hp
                have hrd := read_shown 3 0 x t.2.1 in0 (by simp [chk, hp']; omega) (by rw [hl, shown, if_neg (by decide), if_neg (by decide), c3, rd_some _ q x (Nat.le_refl _) hr])
                rw [hrd]
        · simp only [Prod.mk.injEq] at hqt
          rename_i hE
          exact absurd hqt.2 hE
    rw [if_neg c3] at h
    have hk : t.1 = 4 := (congrArg Prod.fst h).symm
    refine hvl _ ?_
    have hvt : valT t = false := by rw [valT, hk]; rfl
    rw [hvt]
    refine ⟨fun e => absurd e ?_, fun e => absurd e (by decide)⟩
    have hsg : sgN signsL (c :: q) = (c :: q).length := congrArg (fun z => z.2.1) h
    by_cases h45 : c = 45
    · subst h45
      have : sgN signsL (45 :: q) = 1 := by simp [signsL, sgN, Lib.hasPrefix, List.isPrefixOf]
      rw [this] at hsg
      have hq0 : q = [] := by
        cases q with
        | nil => rfl
        | cons d q' => simp at hsg
      subst hq0
      exact noval_minus hl
    · refine noval hl c3 ?_ ?_ ?_
      · rintro (e | e)
        · exact h45 (UInt8.toNat_inj.1 (by rw [e]; rfl))
        · exact c2 (dig_let e).2
      · rw [hl]; intro e; injection e with e _; subst e; exact c1 (by decide)
      · rw [hl]; intro e; injection e with e _; subst e; exact c1 (by decide)
theorem name_kind {t : Tok} (h : KdT t) (hn : nmT t = true) : t.1 = 1 := by
  have hn' : nameT t.2.1.data.toList = true := hn
  simp only [nameT, lettersB, Bool.and_eq_true, decide_eq_true_eq] at hn'
  obtain ⟨⟨⟨h1, _⟩, h2⟩, _⟩ := hn'
  rw [KdT] at h
  cases hl : t.2.1.data.toList with
  | nil => exact absurd hl h1
  | cons c q =>
    rw [hl, List.all_cons, Bool.and_eq_true] at h2
    rw [hl, tokAt, if_pos h2.1] at h
    exact (congrArg Prod.fst h).symm
end Go.Proofs.YtkoejkpjkcejcaaGreatDoor
namespace Go.Proofs.YtkoejkpjkcejcaaGreatDoor
set_option linter.unusedVariables false

section
variable (ts : List Tok) (en : Nat)
theorem need_yes {r : List Tok} {t : Tok} (hr : (t :: r) <:+ ts) (hk : ∀ t ∈ ts, KdT t) {g : List UInt8} (hg : g ∈ keysL) (e : t.2.1.data.toList = g) : needT ts en (S0 ts (t :: r)) g = S0 ts r := by
  have h1 : isT ts (S0 ts (t :: r)) g = true := by rw [is_at ts hr hk hg]; simpa [hdIs] using e
  rw [needT, if_pos h1, S0_adv ts hr]
theorem need_no {r : List Tok} (hr : r <:+ ts) (hk : ∀ t ∈ ts, KdT t) {g : List UInt8} (hg : g ∈ keysL) (e : nxT (sgT [g]) r = none) : (needT ts en (S0 ts r) g).bad = posAt ts en (ts.length - r.length) := by
  have h1 : isT ts (S0 ts r) g = false := by
    rw [is_at ts hr hk hg]
    cases r with
    | nil => rfl
    | cons t q =>
      rw [nxT] at e
      split at e
      · simp at e
      · rename_i h
        simp only [sgT, List.any_cons, List.any_nil, Bool.or_false] at h
        rw [hdIs]
        cases hh : t.2.1.data.toList == g with
        | false => rfl
        | true =>
          have : t.2.1.data.toList = g := by simpa using hh
          rw [this] at h
          exact absurd (by simp) h
  rw [needT, if_neg (by rw [h1]; decide), failT, if_pos (S0_neg ts _)]
  rfl
theorem args_bad {sub : St → Ex × St} (hb : ∀ st, 0 ≤ st.bad → (sub st).2 = st) : ∀ (k : Nat) (l : List Ex) (st : St), 0 ≤ st.bad → (pArgs ts en sub k l st).2 = st
  | 0, l, st, h => rfl
  | k + 1, l, st, h => by
    rw [pArgs]
    have e : (if l = [] then st else needT ts en st [44]) = st := by
      split
      · rfl
      · exact bad_need ts en h [44]
    rw [e, hb st h]
    exact args_bad hb k _ st h
/-- Parts in brackets: what both have, and the bracket that shuts. -/
def SimA (U : Option (List Ex) × List Tok) (P : List Ex × St) : Prop := match U.1 with
  | some l => P.1 = l ∧ needT ts en P.2 [41] = S0 ts U.2
  | none => (needT ts en P.2 [41]).bad = posAt ts en (ts.length - U.2.length)
theorem args_sim (hk : ∀ t ∈ ts, KdT t) {subU : List Tok → Option Ex × List Tok} {subP : St → Ex × St} (hf : Suf subU) (hb : ∀ st, 0 ≤ st.bad → (subP st).2 = st) : ∀ (k : Nat) (acc : List Ex) (r : List Tok), acc ≠ [] → r <:+ ts → (∀ q, q <:+ ts → q.length < r.length → Sim ts en (subU q) (subP (S0 ts q))) → SimA ts en (uBr subU k acc r) (pArgs ts en subP k acc (S0 ts r))
  | 0, acc, r, ha, hr, _ => by
    rw [uBr]
    cases hn : nxT (sgT [[41]]) r with
    | none => exact need_no ts en hr hk (by decide) hn
    | some q =>
      obtain ⟨t, r1⟩ := q
      obtain ⟨h1, h2⟩ := nxT_len hn
      subst h1
      exact ⟨rfl, need_yes ts en hr hk (by decide) (by simpa using sg_mem h2)⟩
  | k + 1, acc, r, ha, hr, hI => by
    have hal : acc.length ≠ 0 := fun e => ha (List.length_eq_zero_iff.1 e)
    rw [uBr, if_neg hal, pArgs, if_neg ha]
    cases hn : nxT (sgT [[44]]) r with
    | none =>
      have h1 := need_no ts en hr hk (g := [44]) (by decide) hn
      have h2 : 0 ≤ (needT ts en (S0 ts r) [44]).bad := by rw [h1]; exact pos_nn ts en _
      show (needT ts en (pArgs ts en subP k _ (subP (needT ts en (S0 ts r) [44])).2).2 [41]).bad = _
      rw [hb _ h2, args_bad ts en hb _ _ _ h2, bad_need ts en h2]
      exact h1
    | some q =>
      obtain ⟨t, r1⟩ := q
      obtain ⟨h1, h2⟩ := nxT_len hn
      subst h1
      rw [need_yes ts en hr hk (by decide) (by simpa using sg_mem h2)]
      have hs1 : r1 <:+ ts := (List.suffix_cons t r1).trans hr
      have h4 := hI r1 hs1 (by simp)
      have h5 := hf r1
      simp only
      cases h3 : subU r1 with
      | mk o r2 =>
        rw [h3] at h4 h5
        cases o with
        | none =>
          have h6 : (subP (S0 ts r1)).2.bad = posAt ts en (ts.length - r2.length) := h4
          have h7 : 0 ≤ (subP (S0 ts r1)).2.bad := by rw [h6]; exact pos_nn ts en _
          show (needT ts en (pArgs ts en subP k _ (subP (S0 ts r1)).2).2 [41]).bad = _
          rw [args_bad ts en hb _ _ _ h7, bad_need ts en h7]
          exact h6
        | some e =>
          have h6 : subP (S0 ts r1) = (e, S0 ts r2) := h4
          have h7 : r2.length ≤ r1.length := h5.length_le
          rw [h6]
          simp only
          exact args_sim hk hf hb k (acc ++ [e]) r2 (by simp) (h5.trans hs1) (fun q hq hl => hI q hq (by rw [List.length_cons]; omega))
/-- The brackets of a call, or about one expression. -/
theorem call_sim (hk : ∀ t ∈ ts, KdT t) {subU : List Tok → Option Ex × List Tok} {subP : St → Ex × St} (hf : Suf subU) (hb : ∀ st, 0 ≤ st.bad → (subP st).2 = st) (k : Nat) (r : List Tok) (hr : r <:+ ts) (hI : ∀ q, q <:+ ts → q.length < r.length → Sim ts en (subU q) (subP (S0 ts q))) : SimA ts en (uBr subU (k + 1) [] r) (pArgs ts en subP (k + 1) [] (needT ts en (S0 ts r) [40])) := by
  rw [uBr, pArgs, if_pos rfl]
  simp only [List.length_nil, if_true]
  cases hn : nxT (sgT [[40]]) r with
  | none =>
    have h1 := need_no ts en hr hk (g := [40]) (by decide) hn
    have h2 : 0 ≤ (needT ts en (S0 ts r) [40]).bad := by rw [h1]; exact pos_nn ts en _
    show (needT ts en (pArgs ts en subP k _ (subP (needT ts en (S0 ts r) [40])).2).2 [41]).bad = _
    rw [hb _ h2, args_bad ts en hb _ _ _ h2, bad_need ts en h2]
    exact h1
  | some q =>
    obtain ⟨t, r1⟩ := q
    obtain ⟨h1, h2⟩ := nxT_len hn
    subst h1
    rw [need_yes ts en hr hk (by decide) (by simpa using sg_mem h2)]
    have hs1 : r1 <:+ ts := (List.suffix_cons t r1).trans hr
    have h4 := hI r1 hs1 (by simp)
    have h5 := hf r1
    simp only [List.nil_append]
    cases h3 : subU r1 with
    | mk o r2 =>
      rw [h3] at h4 h5
      cases o with
      | none =>
        have h6 : (subP (S0 ts r1)).2.bad = posAt ts en (ts.length - r2.length) := h4
        have h7 : 0 ≤ (subP (S0 ts r1)).2.bad := by rw [h6]; exact pos_nn ts en _
        show (needT ts en (pArgs ts en subP k _ (subP (S0 ts r1)).2).2 [41]).bad = _
        rw [args_bad ts en hb _ _ _ h7, bad_need ts en h7]
        exact h6
      | some e =>
        have h6 : subP (S0 ts r1) = (e, S0 ts r2) := h4
        have h7 : r2.length ≤ r1.length := h5.length_le
        rw [h6]
        exact args_sim ts en hk hf hb k [e] r2 (by simp) (h5.trans hs1) (fun q hq hl => hI q hq (by rw [List.length_cons]; omega))
/-- What has no sign of its own. -/
theorem one_sim (hk : ∀ t ∈ ts, KdT t) {subU : List Tok → Option Ex × List Tok} {subP : St → Ex × St} (hf : Suf subU) (hb : ∀ st, 0 ≤ st.bad → (subP st).2 = st) (r : List Tok) (hr : r <:+ ts) (hI : ∀ q, q <:+ ts → q.length < r.length → Sim ts en (subU q) (subP (S0 ts q))) : Sim ts en (uOne subU r) (pOne ts en subP readV (S0 ts r)) := by
  rw [pOne, is_at ts hr hk (by decide), is_at ts hr hk (by decide), is_at ts hr hk (by decide), show (S0 ts r).i = ts.length - r.length from rfl, (suf_at ts hr).1]
  cases hr0 : r with
  | nil =>
    subst hr0
    have hu : uOne subU [] = (none, []) := rfl
    rw [hu]
    simp only [List.head?_nil, hdIs, Bool.false_eq_true, if_false]
    show (pCol ts en (S0 ts [])).2.bad = _
    rw [pCol, takeT, if_pos (S0_neg ts _), show (S0 ts []).i = ts.length - ([] : List Tok).length from rfl, (suf_at ts hr).1]
    simp only [List.head?_nil]
    rw [failT, if_pos (S0_neg ts _)]
    rfl
  | cons t q =>
    subst hr0
    have hkt := hk t (hr.subset (by simp))
    have hq : q <:+ ts := (List.suffix_cons t q).trans hr
    simp only [List.head?_cons]
    by_cases e1 : t.2.1.data.toList = [40]
    · rw [if_pos (show hdIs [40] (t :: q) = true by simpa [hdIs] using e1), S0_adv ts hr]
      have n1 : nxT (sgT lenIf) (t :: q) = none := by simp [nxT, sgT, e1]
      have n2 : nxT vlT (t :: q) = none := by
        have := noval (s := t.2.1) (c := 40) (r := []) e1 (by decide) (by decide) (by rw [e1]; decide) (by rw [e1]; decide)
        rw [nxT, if_neg (by simpa [vlT] using this)]
      have n3 : nxT nmT (t :: q) = none := by rw [nxT, if_neg (by rw [nmT, e1]; decide)]
      rw [uOne_br n1 n2 n3]
      have h4 := hI q hq (by simp)
      have h5 := hf q
      rw [uBr, nxT, if_pos (by simp [sgT, e1])]
      simp only [List.nil_append]
      cases h3 : subU q with
      | mk o r2 =>
        rw [h3] at h4 h5
        cases o with
        | none =>
          have h6 : (subP (S0 ts q)).2.bad = posAt ts en (ts.length - r2.length) := h4
          have h7 : 0 ≤ (subP (S0 ts q)).2.bad := by rw [h6]; exact pos_nn ts en _
          show (needT ts en (subP (S0 ts q)).2 [41]).bad = _
          rw [bad_need ts en h7]
          exact h6
        | some e =>
          have h6 : subP (S0 ts q) = (e, S0 ts r2) := h4
          have hs2 : r2 <:+ ts := h5.trans hq
          rw [h6]
          simp only
          rw [uBr]
          cases hn : nxT (sgT [[41]]) r2 with
          | none => exact need_no ts en hs2 hk (by decide) hn
          | some z =>
            obtain ⟨c, r3⟩ := z
            obtain ⟨h8, h9⟩ := nxT_len hn
            subst h8
            show (e, needT ts en (S0 ts (c :: r3)) [41]) = (e, S0 ts r3)
            rw [need_yes ts en hs2 hk (by decide) (by simpa using sg_mem h9)]
    rw [if_neg (show ¬ hdIs [40] (t :: q) = true by simpa [hdIs] using e1)]
    have call : ∀ (op : List UInt8) (k : Nat), t.2.1.data.toList = op → nxT (sgT lenIf) (t :: q) = some (t, q) → manyT t = k + 1 → Sim ts en (uOne subU (t :: q)) (pCall ts en subP op (k + 1) (posAt ts en (ts.length - (t :: q).length)) (S0 ts q)) := fun op k e hn hm => by
      rw [uOne_call hn, hm, pCall]
      have h := call_sim ts en hk hf hb k q hq (fun z hz hl => hI z hz (by rw [List.length_cons]; omega))
      have hp : posAt ts en (ts.length - (t :: q).length) = (t.2.2 : Int) := pos_at ts en hr
      rw [hp]
      cases h3 : uBr subU (k + 1) [] q with
      | mk o r2 =>
        rw [h3] at h
        cases o with
        | none => exact h
        | some l =>
          obtain ⟨g1, g2⟩ := h
          show (op1 op (t.2.2 : Int) _, _) = (_, S0 ts r2)
          rw [g1, g2, op1, ← e]
    by_cases e2 : t.2.1.data.toList = [108, 101, 110]
    · rw [if_pos (show hdIs [108, 101, 110] (t :: q) = true by simpa [hdIs] using e2), S0_adv ts hr]
      exact call _ 0 e2 (by simp [nxT, sgT, e2]) (by rw [manyT, if_pos e2])
    rw [if_neg (show ¬ hdIs [108, 101, 110] (t :: q) = true by simpa [hdIs] using e2)]
    by_cases e3 : t.2.1.data.toList = [105, 102]
    · rw [if_pos (show hdIs [105, 102] (t :: q) = true by simpa [hdIs] using e3), S0_adv ts hr]
      exact call _ 2 e3 (by simp [nxT, sgT, e3]) (by rw [manyT, if_neg e2])
    rw [if_neg (show ¬ hdIs [105, 102] (t :: q) = true by simpa [hdIs] using e3)]
    have n1 : nxT (sgT lenIf) (t :: q) = none := by
      rw [nxT, if_neg]
      intro h
      have := sg_mem h
      simp only [List.mem_cons, List.not_mem_nil, or_false] at this
      rcases this with h | h
      · exact e2 h
      · exact e3 h
    have hp : posAt ts en (ts.length - (t :: q).length) = (t.2.2 : Int) := pos_at ts en hr
    by_cases hv : vlT t = true
    · have n2 : nxT vlT (t :: q) = some (t, q) := by rw [nxT, if_pos hv]
      rw [uOne_val n1 n2, if_pos ⟨S0_neg ts _, by rw [← val_agree hkt]; exact hv⟩]
      show (_, _) = (valE t, S0 ts q)
      rw [S0_adv ts hr, valE, ← hp]
    have n2 : nxT vlT (t :: q) = none := by rw [nxT, if_neg hv]
    rw [if_neg (fun h => hv (by rw [val_agree hkt]; exact h.2))]
    rw [pCol, takeT, if_pos (S0_neg ts _), show (S0 ts (t :: q)).i = ts.length - (t :: q).length from rfl, (suf_at ts hr).1]
    simp only [List.head?_cons]
    by_cases hn : nmT t = true
    · have n3 : nxT nmT (t :: q) = some (t, q) := by rw [nxT, if_pos hn]
      rw [uOne_col n1 n2 n3, if_pos ⟨name_kind hkt hn, hn⟩]
      show (_, _) = (colE1 t, S0 ts q)
      rw [S0_adv ts hr, colE1, ← hp]
    · have n3 : nxT nmT (t :: q) = none := by rw [nxT, if_neg hn]
      rw [uOne_br n1 n2 n3, if_neg (fun h => hn h.2), uBr, nxT, if_neg (by
        intro h
        have := sg_mem h
        simp only [List.length_nil, if_true, List.mem_singleton] at this
        exact e1 this)]
      show (failT ts en (S0 ts (t :: q))).bad = _
      rw [failT, if_pos (S0_neg ts _)]
      rfl
end
end Go.Proofs.YtkoejkpjkcejcaaGreatDoor
