/-
  The document's reading of what is the tightest (package sluiceref1, In.one): len and if.
-/
import Derived.Test.YtnpinbpjfngknaaGreatDoorTreeOe
import Derived.Test.YtnpinbpjfngknaaGreatDoorLoX
namespace Go.Proofs.YtnpinbpjfngknaaGreatDoor
open Go.RowKit
set_option linter.unusedVariables false
set_option linter.unusedSimpArgs false

theorem Box7.onB {w w' : World} {b B : Nat} {a0 a1 a2 a3 a4 a5 a6 : Value} (h : Box7 w b a0 a1 a2 a3 a4 a5 a6) (hb : Below B w w') (hB : b < B) : Box7 w' b a0 a1 a2 a3 a4 a5 a6 := by
  obtain ⟨c0, c1, c2, c3, c4, c5, c6, fz, lt⟩ := h
  have hc := fun o => hb.cell (p := ⟨b, o, none⟩) hB
  have hf := fun o => hb.frozen (p := ⟨b, o, none⟩) hB
  refine ⟨?_, ?_, ?_, ?_, ?_, ?_, ?_, fun o => by rw [hf]; exact fz o, by have := hb.size; omega⟩
  all_goals (rw [hc]; assumption)
theorem Box7.put5 {w : World} {b : Nat} {a0 a1 a2 a3 a4 a5 a6 : Value} (h : Box7 w b a0 a1 a2 a3 a4 a5 a6) (v : Value) : Box7 (w.setCell ⟨b, 5, none⟩ v) b a0 a1 a2 a3 a4 v a6 := by
  obtain ⟨c0, c1, c2, c3, c4, c5, c6, fz, lt⟩ := h
  refine ⟨?_, ?_, ?_, ?_, ?_, ?_, ?_, fun o => by simpa using fz o, by simpa [World.setCell] using lt⟩
  all_goals simp [World.cell?_setCell_other, World.cell?_setCell_same, c0, c1, c2, c3, c4, c5, c6]
theorem InAt.onB {w w' : World} {r B : Nat} {tp : Option Addr} {tc : Nat} {ts : List Tok} {en : Nat} {st : St} (h : InAt w r tp tc ts en st) (hb : Below B w w') (hr : r < B) (ht : ts.length = 0 ∨ ∃ b off, tp = some ⟨b, off, none⟩ ∧ b < B) : InAt w' r tp tc ts en st := by
  obtain ⟨c0, c1, c2, c3, f1, f3, lt, tk⟩ := h
  have hc := fun o => hb.cell (p := ⟨r, o, none⟩) hr
  have hf := fun o => hb.frozen (p := ⟨r, o, none⟩) hr
  refine ⟨by rw [hc]; exact c0, by rw [hc]; exact c1, by rw [hc]; exact c2, by rw [hc]; exact c3, by rw [hf]; exact f1, by rw [hf]; exact f3, by have := hb.size; omega, ?_⟩
  rcases tk with h0 | ⟨b, off, e, hb2, h2⟩
  · exact .inl h0
  · rcases ht with h0 | ⟨b', off', e', hb'⟩
    · exact .inl h0
    · rw [e] at e'
      simp only [Option.some.injEq, Addr.mk.injEq] at e'
      have hbz : b < B := by rw [e'.1]; exact hb'
      refine .inr ⟨b, off, e, hb2, by have := h2.1; have := hb.size; omega, fun j hj => ?_⟩
      rw [hb.cell (p := ⟨b, off + j * 3, none⟩) hbz, hb.cell (p := ⟨b, off + j * 3 + 1, none⟩) hbz, hb.cell (p := ⟨b, off + j * 3 + 2, none⟩) hbz]
      exact h2.2 j hj
theorem InAt.setFar {w : World} {r : Nat} {tp : Option Addr} {tc : Nat} {ts : List Tok} {en : Nat} {st : St} (h : InAt w r tp tc ts en st) {z : Nat} (hz : r ≠ z) (ht : TokNe tp ts z) (o : Nat) (v : Value) : InAt (w.setCell ⟨z, o, none⟩ v) r tp tc ts en st := by
  obtain ⟨c0, c1, c2, c3, f1, f3, lt, tk⟩ := h
  refine ⟨by simp [World.cell?_setCell_other, hz, c0], by simp [World.cell?_setCell_other, hz, c1], by simp [World.cell?_setCell_other, hz, c2], by simp [World.cell?_setCell_other, hz, c3], by simpa using f1, by simpa using f3, by simpa [World.setCell] using lt, ?_⟩
  rcases tk with h0 | ⟨b, off, e, hb, h2⟩
  · exact .inl h0
  · rcases ht with h0 | ⟨b', off', e', hb'⟩
    · exact .inl h0
    · rw [e] at e'
      simp only [Option.some.injEq, Addr.mk.injEq] at e'
      have hbz : b ≠ z := by rw [e'.1]; exact hb'
      exact .inr ⟨b, off, e, hb, by simpa [World.setCell] using h2.1, fun j hj => by
        simpa [World.cell?_setCell_other] using h2.2 j hj⟩
set_option maxHeartbeats 8000000 in
set_option maxRecDepth 20000 in
theorem one_len (r : Nat) (tp : Option Addr) (tc : Nat) (ts : List Tok) (en : Nat) (st : St) (sub : St → Ex × St) (hn : ts.length ≤ 400) (hi : st.i ≤ 1000) (hb0 : isT ts st [40] = false) (hb1 : isT ts st [108, 101, 110] = true) (hm : Mono ts sub) (cE : ∀ s, st.i + 1 ≤ s.i → s.i ≤ ts.length → GivesE r tp tc ts en 0 s (sub s).1 (sub s).2) : GivesO r tp tc ts en st (pCall ts en sub [108, 101, 110] 1 (posAt ts en st.i) (adv st)).1 (pCall ts en sub [108, 101, 110] 1 (posAt ts en st.i) (adv st)).2 := by
  intro w h
  obtain ⟨hlt, _⟩ := isT_lt hb1
  obtain ⟨hz, bz, hrl⟩ := in_z h
  have hT : TokNe tp ts w.heap.size := h.ne (Nat.le_refl _)
  have X0 : Box7 (w.alloc zE) w.heap.size (.string ⟨#[]⟩) (.string ⟨#[]⟩) (.int .i64 0) (.int .i64 0) (.string ⟨#[]⟩) (.slice none 0 0) (.int .i64 0) := box7_alloc w _ _ _ _ _ _ _ _
  have cA := in_at _ r tp tc ts en st hz hn (by omega)
  have cH1 := fun W hW => has_no W r tp tc ts en st ⟨#[40]⟩ hW hn hi hb0
  have cH3 := fun W hW => has_yes W r tp tc ts en st ⟨#[108, 101, 110]⟩ hW hn hi hb1
  have hai : (adv st).i = st.i + 1 := rfl
  have hn1 := needT_i (ts := ts) en [40] (st := adv st) (by rw [hai]; omega)
  rw [hai] at hn1
  have cN := fun W hW => in_need W r tp tc ts en (adv st) ⟨#[40]⟩ hW hn (by rw [hai]; omega)
  obtain ⟨S0, hS0⟩ : ∃ S0, needT ts en (adv st) [40] = S0 := ⟨_, rfl⟩
  rw [hS0] at hn1
  have HP : Hid (pCall ts en sub [108, 101, 110] 1 (posAt ts en st.i) (adv st) = (op1 [108, 101, 110] (posAt ts en st.i) (pArgs ts en sub 1 [] S0).1, needT ts en (pArgs ts en sub 1 [] S0).2 [41])) := by
    show _ = _
    rw [pCall, hS0]
  have HS0 : Hid (needT ts en (adv st) [40] = S0) := hS0
  have CE : Hid (∀ s, st.i + 1 ≤ s.i → s.i ≤ ts.length → GivesE r tp tc ts en 0 s (sub s).1 (sub s).2) := cE
  have HMo : Hid (Mono ts sub) := hm
  obtain ⟨g0, g1, g2, g3, gf1, gf3, glt, _⟩ := h
  clear hb0 hb1 hS0 cE hm
  obtain ⟨PC, hPC⟩ : ∃ PC, pCall ts en sub [108, 101, 110] 1 (posAt ts en st.i) (adv st) = PC := ⟨_, rfl⟩
  rw [hPC] at HP ⊢
  clear hPC
  go_enter Tryz.func38, Tryz.ntmps38
  obtain ⟨i0, hii, hz0, hzz1, hzzz⟩ := info_parts info_ex
  go_wp2_with fail
  refine cA.mono ?_
  rintro e w1 ⟨rfl, q, rfl⟩
  have H1 : InAt ((w.alloc zE).drewN q) r tp tc ts en st := hz.same rfl
  have B1 : But r w ((w.alloc zE).drewN q) := bz.drewN q
  have X1 : Box7 ((w.alloc zE).drewN q) w.heap.size (.string ⟨#[]⟩) (.string ⟨#[]⟩) (.int .i64 0) (.int .i64 0) (.string ⟨#[]⟩) (.slice none 0 0) (.int .i64 0) := ⟨X0.c0, X0.c1, X0.c2, X0.c3, X0.c4, X0.c5, X0.c6, X0.fz, X0.lt⟩
  have hz1 : w.heap.size + 1 ≤ ((w.alloc zE).drewN q).heap.size := Nat.le_of_eq (by simp [zE, World.drewN])
  clear cA hz bz X0 g0 g1 g2 g3 gf1 gf3 glt
  generalize hW1 : (w.alloc zE).drewN q = W1 at H1 B1 X1 hz1
  clear hW1
  go_wp2_with fail
  refine (cH1 _ H1).mono ?_
  rintro e w2 ⟨rfl, h2, b2⟩
  have B2 : But r w w2 := B1.trans b2
  have X2 := X1.but b2 (by omega)
  have hz2 : w.heap.size + 1 ≤ w2.heap.size := by have := b2.size; omega
  clear b2 cH1 H1 B1 X1 hz1
  go_wp2_with fail
  refine (cH3 _ h2).mono ?_
  rintro e w3 ⟨rfl, h3, b3⟩
  have B3 : But r w w3 := B2.trans b3
  have X3 := X2.but b3 (by omega)
  have hz3 : w.heap.size + 1 ≤ w3.heap.size := by have := b3.size; omega
  clear b3 cH3 h2 B2 X2 hz2
  have hrl2 := h3.lt
  have E5 := box7_alloc w3 (.string ⟨#[108, 101, 110]⟩) (.string ⟨#[]⟩) (.int .i64 0) (.int .i64 0) (.string ⟨#[]⟩) (.slice none 0 0) (.int .i64 (posAt ts en st.i)) 26
  have al5 := al w3 (.cells #[.string ⟨#[108, 101, 110]⟩, .string ⟨#[]⟩, .int .i64 0, .int .i64 0, .string ⟨#[]⟩, .slice none 0 0, .int .i64 (posAt ts en st.i)] 26)
  have B5 : But r w (w3.alloc (.cells #[.string ⟨#[108, 101, 110]⟩, .string ⟨#[]⟩, .int .i64 0, .int .i64 0, .string ⟨#[]⟩, .slice none 0 0, .int .i64 (posAt ts en st.i)] 26)) := B3.alloc (Nat.le_of_lt hrl2) _
  have X5 := X3.on al5
  have h5 := h3.on al5
  have hz5 : w3.heap.size + 1 ≤ (w3.alloc (.cells #[.string ⟨#[108, 101, 110]⟩, .string ⟨#[]⟩, .int .i64 0, .int .i64 0, .string ⟨#[]⟩, .slice none 0 0, .int .i64 (posAt ts en st.i)] 26)).heap.size := by simp
  obtain ⟨EB, hEB⟩ : ∃ EB, w3.heap.size = EB := ⟨_, rfl⟩
  have hEl : w.heap.size + 1 ≤ EB := by omega
  have hTE : TokNe tp ts EB := h3.ne (by omega)
  have hTB : ts.length = 0 ∨ ∃ b off, tp = some ⟨b, off, none⟩ ∧ b < EB + 1 := by
    rcases h3.toks with h0 | ⟨b, off, e, _, h2⟩
    · exact .inl h0
    · exact .inr ⟨b, off, e, by have := h2.1; omega⟩
  have hrE : r < EB := by omega
  clear B3 X3 h3 hz3 al5
  go_wp2_with fail
  refine (cN _ h5).mono ?_
  rintro e w6 ⟨rfl, h6, b6⟩
  rw [hEB] at E5 hz5
  have E6 := E5.but b6 (by omega)
  have X6 := X5.but b6 (by omega)
  have B6 : Aside (But r w w6) := B5.trans b6
  have hz6 : EB + 1 ≤ w6.heap.size := by have := b6.size; omega
  have I6 : Aside (InAt w6 r tp tc ts en S0) := by
    have := h6
    rw [show needT ts en (adv st) (⟨#[40]⟩ : ByteArray).data.toList = S0 from HS0.out] at this
    exact this
  have EA : Aside (Box7 w6 EB (.string ⟨#[108, 101, 110]⟩) (.string ⟨#[]⟩) (.int .i64 0) (.int .i64 0) (.string ⟨#[]⟩) (.slice none 0 0) (.int .i64 (posAt ts en st.i))) := E6
  have XA : Aside (Box7 w6 w.heap.size (.string ⟨#[]⟩) (.string ⟨#[]⟩) (.int .i64 0) (.int .i64 0) (.string ⟨#[]⟩) (.slice none 0 0) (.int .i64 0)) := X6
  obtain ⟨PO, hPO⟩ : ∃ PO, posAt ts en st.i = PO := ⟨_, rfl⟩
  rw [hPO] at EA HP ⊢
  clear E5 E6 X5 X6 B5 b6 h5 h6 hEB hPO cN hz5
  go_wp2
  go_loopg [8, 9] 1 (fun gg s8 _ wr => ∃ (kk : Nat) (acc : List Ex) (S : St) (q : Option Addr) (c : Nat), kk ≤ 1 ∧ 1 - kk ≤ gg ∧ s8 = .int .i64 kk ∧ acc.length ≤ kk ∧ kk ≤ acc.length ∧ Aside (Box7 wr EB (.string ⟨#[108, 101, 110]⟩) (.string ⟨#[]⟩) (.int .i64 0) (.int .i64 0) (.string ⟨#[]⟩) (.slice q acc.length c) (.int .i64 PO)) ∧ Aside (Box7 wr w.heap.size (.string ⟨#[]⟩) (.string ⟨#[]⟩) (.int .i64 0) (.int .i64 0) (.string ⟨#[]⟩) (.slice none 0 0) (.int .i64 0)) ∧ Aside (ArgsOwn wr (EB + 1) (.slice q acc.length c) acc) ∧ Aside (InAt wr r tp tc ts en S) ∧ Aside (But r w wr) ∧ EB + 1 ≤ wr.heap.size ∧ Hid (pArgs ts en sub 1 [] S0 = pArgs ts en sub (1 - kk) acc S) ∧ Hid (st.i + 1 ≤ S.i ∧ S.i ≤ ts.length))
  case atStart => exact ⟨0, [], S0, none, 0, Nat.zero_le _, by omega, rfl, Nat.le_refl _, Nat.le_refl _, EA, XA, (show Aside _ from argsOwn_nil _ _), I6, B6, hz6, (show Hid _ from rfl), (show Hid _ from hn1)⟩
  case round =>
    obtain ⟨kk, acc, S, q, c, hkk, hg, rfl, ha1, ha2, EA2, XA2, AO, IA, BW, hzr, HU, HSb⟩ := hrel
    clear EA XA I6 B6
    have hSb := HSb.out
    by_cases hlt2 : kk < 1
    · have hltz : (kk : Int) < 1 := by omega
      obtain ⟨S2, hS2⟩ : ∃ S2, (if acc = [] then S else needT ts en S [44]) = S2 := ⟨_, rfl⟩
      have hS2b : st.i + 1 ≤ S2.i ∧ S2.i ≤ ts.length := by
        rw [← hS2]
        split
        · exact hSb
        · have := needT_i en [44] hSb.2
          omega
      have HU2 : Hid (pArgs ts en sub 1 [] S0 = pArgs ts en sub (1 - (kk + 1)) (acc ++ [(sub S2).1]) (sub S2).2) := by
        show _ = _
        rw [HU.out, show 1 - kk = (1 - (kk + 1)) + 1 by omega, pArgs, hS2]
      have HSn : Hid (st.i + 1 ≤ (sub S2).2.i ∧ (sub S2).2.i ≤ ts.length) := by
        have := HMo.out S2 hS2b.2
        exact ⟨by omega, this.2⟩
      have cX := CE.out S2 hS2b.1 hS2b.2
      by_cases hk0 : 0 < kk
      · omega
      · have hkz : ¬ (0 : Int) < (kk : Int) := by omega
        have hne : acc = [] := List.length_eq_zero_iff.1 (by omega)
        rw [if_pos hne] at hS2
        clear hne
        have h7' : InAt wr r tp tc ts en S2 := by rw [← hS2]; exact IA.out
        have B7 := BW.out
        have E7 := EA2.out
        have X7 := XA2.out
        have AO7 := AO.out
        clear EA2 XA2 AO BW IA
        go_wp2_with fail
        refine (cX _ h7').mono ?_
        rintro e w9 ⟨v, rfl, hx, h9, b9⟩
        have hx9 := hx
        obtain ⟨u0, u1, u2, u3, u4, u5, u6, u7, u8, rfl⟩ := hx.agg
        have hz9 := b9.size
        have B9 : But r w w9 := B7.trans b9
        have E9 := E7.but b9 (by omega)
        have X9 := X7.but b9 (by omega)
        have AO9 := AO7.but b9 (by omega)
        have hob : ∀ j, (Value.slice q acc.length c).ownBlock = some j → EB + 1 ≤ j ∧ j < wr.heap.size := fun j hj => by
          obtain ⟨cs3, o3, _⟩ := AO7
          exact o3.lt j hj
        have b10 := (al w9 (.cells #[.string u0, .string u1, .int .i64 u2, .int .i64 u3, .string u4, .slice u5 u6 u7, .int .i64 u8] 26)).trans ((al _ (.cells #[.string u0, .string u1, .int .i64 u2, .int .i64 u3, .string u4, .slice u5 u6 u7, .int .i64 u8] 26)).mono (by simp))
        obtain ⟨cs, ao1, ao2⟩ := AO9.on b10
        have hx2 := ExIn.low (lo' := fun b => EB + 1 ≤ b ∧ some b ≠ (Value.slice q acc.length c).ownBlock) (fun b _ hb => ⟨by omega, fun e => by have := hob b e.symm; omega⟩) _ _ (hx9.on b10)
        obtain ⟨f0, f1, f2, f3, f4, f5, f6, ff, fl⟩ := E9
        have E10 := (Box7.mk f0 f1 f2 f3 f4 f5 f6 ff fl).on b10
        have X10 := X9.on b10
        have h10 := h9.on b10
        have B10 : But r w ((w9.alloc (.cells #[.string u0, .string u1, .int .i64 u2, .int .i64 u3, .string u4, .slice u5 u6 u7, .int .i64 u8] 26)).alloc (.cells #[.string u0, .string u1, .int .i64 u2, .int .i64 u3, .string u4, .slice u5 u6 u7, .int .i64 u8] 26)) := B9.on b10 hrl
        have hs10 := b10.size
        have hE9 : EB < w9.heap.size := by omega
        clear X9 hx hx9 ff b9
        go_wp2_with (at_builtin; refine wpList_append_fresh rfl _ _ 24 rfl (EB + 1) 26 i0 (.agg #[.string ⟨#[]⟩, .string ⟨#[]⟩, .int .i64 0, .int .i64 0, .string ⟨#[]⟩, .slice none 0 0, .int .i64 0]) 7 96 Tryz.underlying24 hii hz0 hzz1 hzzz rfl (by decide) _ _ _ rfl ao1 ⟨w9.heap.size + 1, 0, none⟩ 1 1 [.string u0, .string u1, .int .i64 u2, .int .i64 u3, .string u4, .slice u5 u6 u7, .int .i64 u8] rfl rfl ?c1 ?c2 (by decide) ?c3 ?c4 ?c5 ?_)
        case c1 =>
          intro i u hu
          rw [Go.WideShapes.add_plain, World.cell?_alloc_at _ _ _ _ (by simp)]
          simpa using hu
        case c2 =>
          intro u hu
          simp at hu
          rcases hu with rfl | rfl | rfl | rfl | rfl | rfl | rfl <;> rfl
        case c3 => unfold maxLen; omega
        case c4 => omega
        case c5 => simp; omega
        intro v' w11 hown' hgrow hfr
        have AO11 := ArgsOwn.push ao1 ao2 hx2 hown' hgrow (hfr.imp id (fun h => by rw [h]; simp))
        have hgs := hgrow.size
        have bE : Below (EB + 1) ((w9.alloc (.cells #[.string u0, .string u1, .int .i64 u2, .int .i64 u3, .string u4, .slice u5 u6 u7, .int .i64 u8] 26)).alloc (.cells #[.string u0, .string u1, .int .i64 u2, .int .i64 u3, .string u4, .slice u5 u6 u7, .int .i64 u8] 26)) w11 := (Below.refl (EB + 1) _).grown hgrow (by simp; omega) (fun j hj => (hob j hj).1)
        have E11 := E10.onB bE (by omega)
        have X11 := X10.onB bE (by omega)
        have h11 := h10.onB bE (by omega) hTB
        have B11 : But r w w11 := ⟨B10.below.grown hgrow (by simp; omega) (fun j hj => by have := (hob j hj).1; omega), Nat.le_trans B10.size hgs, fun j hj hjr => by rw [hgrow.block j (by have := B10.size; omega) (fun e => by have := (hob j e.symm).1; omega)]; exact B10.kept j hj hjr⟩
        obtain ⟨cs5, o5, _⟩ := id AO11
        obtain ⟨q5, c5, rfl⟩ := lown_slice o5
        have AS : Aside (ArgsOwn (w11.setCell ⟨EB, 5, none⟩ (.slice q5 (acc.length + 1) c5)) (EB + 1) (.slice q5 (acc ++ [(sub S2).1]).length c5) (acc ++ [(sub S2).1])) := by
          exact AO11.but ((But.refl EB w11).set 5 _) (Nat.lt_succ_self _)
        have ES : Aside (Box7 (w11.setCell ⟨EB, 5, none⟩ (.slice q5 (acc.length + 1) c5)) EB (.string ⟨#[108, 101, 110]⟩) (.string ⟨#[]⟩) (.int .i64 0) (.int .i64 0) (.string ⟨#[]⟩) (.slice q5 (acc ++ [(sub S2).1]).length c5) (.int .i64 PO)) := by
          rw [List.length_append, List.length_singleton]
          exact E11.put5 _
        have XS : Aside (Box7 (w11.setCell ⟨EB, 5, none⟩ (.slice q5 (acc.length + 1) c5)) w.heap.size (.string ⟨#[]⟩) (.string ⟨#[]⟩) (.int .i64 0) (.int .i64 0) (.string ⟨#[]⟩) (.slice none 0 0) (.int .i64 0)) := X11.but ((But.refl EB w11).set 5 _) (by omega)
        have IS : Aside (InAt (w11.setCell ⟨EB, 5, none⟩ (.slice q5 (acc.length + 1) c5)) r tp tc ts en (sub S2).2) := h11.setFar (by omega) hTE 5 _
        have BS : Aside (But r w (w11.setCell ⟨EB, 5, none⟩ (.slice q5 (acc.length + 1) c5))) := B11.setNew EB 5 (by omega) (by omega) _
        have hzS : EB + 1 ≤ (w11.setCell ⟨EB, 5, none⟩ (.slice q5 (acc.length + 1) c5)).heap.size := by simp [World.setCell]; omega
        obtain ⟨k0, k1, k2, k3, k4, k5, k6, kf, kl⟩ := E11
        have kf5 := kf 5
        clear o5 hown' hgrow hfr AO11 X11 h11 B11 bE kf
        go_wp2
        go_roundg (1 - (kk + 1))
        case measure => omega
        case rel => exact ⟨kk + 1, acc ++ [(sub S2).1], (sub S2).2, q5, c5, by omega, by omega, by go_num, by rw [List.length_append, List.length_singleton]; omega, by rw [List.length_append, List.length_singleton]; omega, ES, XS, AS, IS, BS, hzS, HU2, HSn⟩
    · have hltz : ¬ (kk : Int) < 1 := by omega
      obtain rfl : kk = 1 := by omega
      have hU := HU.out
      rw [Nat.sub_self, pArgs] at hU
      have hP := HP.out
      rw [hU] at hP
      have cN2 := fun W hW => in_need W r tp tc ts en S ⟨#[41]⟩ hW hn (by omega)
      obtain ⟨a0, a1, a2, a3, a4, a5, a6, af, alt⟩ := EA2.out
      clear HU HSb
      go_wp2_with fail
      refine (cN2 _ IA.out).mono ?_
      rintro e w8 ⟨rfl, h8, b8⟩
      have B8 := BW.out.trans b8
      obtain ⟨d0, d1, d2, d3, d4, d5, d6, df, dl⟩ := XA2.out.but b8 (by omega)
      obtain ⟨e0, e1, e2, e3, e4, e5, e6, ef, el⟩ := EA2.out.but b8 (by omega)
      have AO8 := AO.out.but b8 (by omega)
      have df0 := df 0
      have df1 := df 1
      have df2 := df 2
      have df3 := df 3
      have df4 := df 4
      have df5 := df 5
      have df6 := df 6
      clear df ef af XA2 EA2 a0 a1 a2 a3 a4 a5 a6 b8 AO BW IA cN2
      go_wp2
      refine bodyPost_ret (v := .agg #[.string ⟨#[108, 101, 110]⟩, .string ⟨#[]⟩, .int .i64 0, .int .i64 0, .string ⟨#[]⟩, .slice q acc.length c, .int .i64 PO]) (by simp [results, Tryz.results38, go_sem, d0, d1, d2, d3, d4, d5, d6, dl]) rfl ⟨_, rfl, ?_, ?_, ?_⟩
      · rw [hP]
        exact ((ex_args (op := ⟨#[108, 101, 110]⟩) (nm := ⟨#[]⟩) (vs := ⟨#[]⟩) AO8.is (by decide) (by decide) (by decide)).set7 (own_ne (by omega)) _ _ _ _ _ _ _).lowB (by omega)
      · rw [hP]
        exact h8.set7 (by omega) hT _ _ _ _ _ _ _
      · exact B8.set7 (Nat.le_refl _) (by omega) _ _ _ _ _ _ _
set_option maxHeartbeats 8000000 in
set_option maxRecDepth 20000 in
theorem one_if (r : Nat) (tp : Option Addr) (tc : Nat) (ts : List Tok) (en : Nat) (st : St) (sub : St → Ex × St) (hn : ts.length ≤ 400) (hi : st.i ≤ 1000) (hb0 : isT ts st [40] = false) (hb1 : isT ts st [108, 101, 110] = false) (hb2 : isT ts st [105, 102] = true) (hm : Mono ts sub) (cE : ∀ s, st.i + 1 ≤ s.i → s.i ≤ ts.length → GivesE r tp tc ts en 0 s (sub s).1 (sub s).2) : GivesO r tp tc ts en st (pCall ts en sub [105, 102] 3 (posAt ts en st.i) (adv st)).1 (pCall ts en sub [105, 102] 3 (posAt ts en st.i) (adv st)).2 := by
  intro w h
  obtain ⟨hlt, _⟩ := isT_lt hb2
  obtain ⟨hz, bz, hrl⟩ := in_z h
  have hT : TokNe tp ts w.heap.size := h.ne (Nat.le_refl _)
  have X0 : Box7 (w.alloc zE) w.heap.size (.string ⟨#[]⟩) (.string ⟨#[]⟩) (.int .i64 0) (.int .i64 0) (.string ⟨#[]⟩) (.slice none 0 0) (.int .i64 0) := box7_alloc w _ _ _ _ _ _ _ _
  have cA := in_at _ r tp tc ts en st hz hn (by omega)
  have cH1 := fun W hW => has_no W r tp tc ts en st ⟨#[40]⟩ hW hn hi hb0
  have cH2 := fun W hW => has_no W r tp tc ts en st ⟨#[108, 101, 110]⟩ hW hn hi hb1
  have cH3 := fun W hW => has_yes W r tp tc ts en st ⟨#[105, 102]⟩ hW hn hi hb2
  have hai : (adv st).i = st.i + 1 := rfl
  have hn1 := needT_i (ts := ts) en [40] (st := adv st) (by rw [hai]; omega)
  rw [hai] at hn1
  have cN := fun W hW => in_need W r tp tc ts en (adv st) ⟨#[40]⟩ hW hn (by rw [hai]; omega)
  obtain ⟨S0, hS0⟩ : ∃ S0, needT ts en (adv st) [40] = S0 := ⟨_, rfl⟩
  rw [hS0] at hn1
  have HP : Hid (pCall ts en sub [105, 102] 3 (posAt ts en st.i) (adv st) = (op1 [105, 102] (posAt ts en st.i) (pArgs ts en sub 3 [] S0).1, needT ts en (pArgs ts en sub 3 [] S0).2 [41])) := by
    show _ = _
    rw [pCall, hS0]
  have HS0 : Hid (needT ts en (adv st) [40] = S0) := hS0
  have CE : Hid (∀ s, st.i + 1 ≤ s.i → s.i ≤ ts.length → GivesE r tp tc ts en 0 s (sub s).1 (sub s).2) := cE
  have HMo : Hid (Mono ts sub) := hm
  obtain ⟨g0, g1, g2, g3, gf1, gf3, glt, _⟩ := h
  clear hb0 hb1 hb2 hS0 cE hm
  obtain ⟨PC, hPC⟩ : ∃ PC, pCall ts en sub [105, 102] 3 (posAt ts en st.i) (adv st) = PC := ⟨_, rfl⟩
  rw [hPC] at HP ⊢
  clear hPC
  go_enter Tryz.func38, Tryz.ntmps38
  obtain ⟨i0, hii, hz0, hzz1, hzzz⟩ := info_parts info_ex
  go_wp2_with fail
  refine cA.mono ?_
  rintro e w1 ⟨rfl, q, rfl⟩
  have H1 : InAt ((w.alloc zE).drewN q) r tp tc ts en st := hz.same rfl
  have B1 : But r w ((w.alloc zE).drewN q) := bz.drewN q
  have X1 : Box7 ((w.alloc zE).drewN q) w.heap.size (.string ⟨#[]⟩) (.string ⟨#[]⟩) (.int .i64 0) (.int .i64 0) (.string ⟨#[]⟩) (.slice none 0 0) (.int .i64 0) := ⟨X0.c0, X0.c1, X0.c2, X0.c3, X0.c4, X0.c5, X0.c6, X0.fz, X0.lt⟩
  have hz1 : w.heap.size + 1 ≤ ((w.alloc zE).drewN q).heap.size := Nat.le_of_eq (by simp [zE, World.drewN])
  clear cA hz bz X0 g0 g1 g2 g3 gf1 gf3 glt
  generalize hW1 : (w.alloc zE).drewN q = W1 at H1 B1 X1 hz1
  clear hW1
  go_wp2_with fail
  refine (cH1 _ H1).mono ?_
  rintro e w2 ⟨rfl, h2, b2⟩
  have B2 : But r w w2 := B1.trans b2
  have X2 := X1.but b2 (by omega)
  have hz2 : w.heap.size + 1 ≤ w2.heap.size := by have := b2.size; omega
  clear b2 cH1 H1 B1 X1 hz1
  go_wp2_with fail
  refine (cH2 _ h2).mono ?_
  rintro e w3 ⟨rfl, h3, b3⟩
  have B3 : But r w w3 := B2.trans b3
  have X3 := X2.but b3 (by omega)
  have hz3 : w.heap.size + 1 ≤ w3.heap.size := by have := b3.size; omega
  clear b3 cH2 h2 B2 X2 hz2
  go_wp2_with fail
  refine (cH3 _ h3).mono ?_
  rintro e w4 ⟨rfl, h4, b4⟩
  have B4 : But r w w4 := B3.trans b4
  have X4 := X3.but b4 (by omega)
  have hz4 : w.heap.size + 1 ≤ w4.heap.size := by have := b4.size; omega
  clear b4 cH3 h3 B3 X3 hz3
  have hrl2 := h4.lt
  have E5 := box7_alloc w4 (.string ⟨#[105, 102]⟩) (.string ⟨#[]⟩) (.int .i64 0) (.int .i64 0) (.string ⟨#[]⟩) (.slice none 0 0) (.int .i64 (posAt ts en st.i)) 26
  have al5 := al w4 (.cells #[.string ⟨#[105, 102]⟩, .string ⟨#[]⟩, .int .i64 0, .int .i64 0, .string ⟨#[]⟩, .slice none 0 0, .int .i64 (posAt ts en st.i)] 26)
  have B5 : But r w (w4.alloc (.cells #[.string ⟨#[105, 102]⟩, .string ⟨#[]⟩, .int .i64 0, .int .i64 0, .string ⟨#[]⟩, .slice none 0 0, .int .i64 (posAt ts en st.i)] 26)) := B4.alloc (Nat.le_of_lt hrl2) _
  have X5 := X4.on al5
  have h5 := h4.on al5
  have hz5 : w4.heap.size + 1 ≤ (w4.alloc (.cells #[.string ⟨#[105, 102]⟩, .string ⟨#[]⟩, .int .i64 0, .int .i64 0, .string ⟨#[]⟩, .slice none 0 0, .int .i64 (posAt ts en st.i)] 26)).heap.size := by simp
  obtain ⟨EB, hEB⟩ : ∃ EB, w4.heap.size = EB := ⟨_, rfl⟩
  have hEl : w.heap.size + 1 ≤ EB := by omega
  have hTE : TokNe tp ts EB := h4.ne (by omega)
  have hTB : ts.length = 0 ∨ ∃ b off, tp = some ⟨b, off, none⟩ ∧ b < EB + 1 := by
    rcases h4.toks with h0 | ⟨b, off, e, _, h2⟩
    · exact .inl h0
    · exact .inr ⟨b, off, e, by have := h2.1; omega⟩
  have hrE : r < EB := by omega
  clear B4 X4 h4 hz4 al5
  go_wp2_with fail
  refine (cN _ h5).mono ?_
  rintro e w6 ⟨rfl, h6, b6⟩
  rw [hEB] at E5 hz5
  have E6 := E5.but b6 (by omega)
  have X6 := X5.but b6 (by omega)
  have B6 : Aside (But r w w6) := B5.trans b6
  have hz6 : EB + 1 ≤ w6.heap.size := by have := b6.size; omega
  have I6 : Aside (InAt w6 r tp tc ts en S0) := by
    have := h6
    rw [show needT ts en (adv st) (⟨#[40]⟩ : ByteArray).data.toList = S0 from HS0.out] at this
    exact this
  have EA : Aside (Box7 w6 EB (.string ⟨#[105, 102]⟩) (.string ⟨#[]⟩) (.int .i64 0) (.int .i64 0) (.string ⟨#[]⟩) (.slice none 0 0) (.int .i64 (posAt ts en st.i))) := E6
  have XA : Aside (Box7 w6 w.heap.size (.string ⟨#[]⟩) (.string ⟨#[]⟩) (.int .i64 0) (.int .i64 0) (.string ⟨#[]⟩) (.slice none 0 0) (.int .i64 0)) := X6
  obtain ⟨PO, hPO⟩ : ∃ PO, posAt ts en st.i = PO := ⟨_, rfl⟩
  rw [hPO] at EA HP ⊢
  clear E5 E6 X5 X6 B5 b6 h5 h6 hEB hPO cN hz5
  go_wp2
  go_loopg [8, 9] 3 (fun gg s8 _ wr => ∃ (kk : Nat) (acc : List Ex) (S : St) (q : Option Addr) (c : Nat), kk ≤ 3 ∧ 3 - kk ≤ gg ∧ s8 = .int .i64 kk ∧ acc.length ≤ kk ∧ kk ≤ acc.length ∧ Aside (Box7 wr EB (.string ⟨#[105, 102]⟩) (.string ⟨#[]⟩) (.int .i64 0) (.int .i64 0) (.string ⟨#[]⟩) (.slice q acc.length c) (.int .i64 PO)) ∧ Aside (Box7 wr w.heap.size (.string ⟨#[]⟩) (.string ⟨#[]⟩) (.int .i64 0) (.int .i64 0) (.string ⟨#[]⟩) (.slice none 0 0) (.int .i64 0)) ∧ Aside (ArgsOwn wr (EB + 1) (.slice q acc.length c) acc) ∧ Aside (InAt wr r tp tc ts en S) ∧ Aside (But r w wr) ∧ EB + 1 ≤ wr.heap.size ∧ Hid (pArgs ts en sub 3 [] S0 = pArgs ts en sub (3 - kk) acc S) ∧ Hid (st.i + 1 ≤ S.i ∧ S.i ≤ ts.length))
  case atStart => exact ⟨0, [], S0, none, 0, Nat.zero_le _, by omega, rfl, Nat.le_refl _, Nat.le_refl _, EA, XA, (show Aside _ from argsOwn_nil _ _), I6, B6, hz6, (show Hid _ from rfl), (show Hid _ from hn1)⟩
  case round =>
    obtain ⟨kk, acc, S, q, c, hkk, hg, rfl, ha1, ha2, EA2, XA2, AO, IA, BW, hzr, HU, HSb⟩ := hrel
    clear EA XA I6 B6
    have hSb := HSb.out
    by_cases hlt2 : kk < 3
    · have hltz : (kk : Int) < 3 := by omega
      obtain ⟨S2, hS2⟩ : ∃ S2, (if acc = [] then S else needT ts en S [44]) = S2 := ⟨_, rfl⟩
      have hS2b : st.i + 1 ≤ S2.i ∧ S2.i ≤ ts.length := by
        rw [← hS2]
        split
        · exact hSb
        · have := needT_i en [44] hSb.2
          omega
      have HU2 : Hid (pArgs ts en sub 3 [] S0 = pArgs ts en sub (3 - (kk + 1)) (acc ++ [(sub S2).1]) (sub S2).2) := by
        show _ = _
        rw [HU.out, show 3 - kk = (3 - (kk + 1)) + 1 by omega, pArgs, hS2]
      have HSn : Hid (st.i + 1 ≤ (sub S2).2.i ∧ (sub S2).2.i ≤ ts.length) := by
        have := HMo.out S2 hS2b.2
        exact ⟨by omega, this.2⟩
      have cX := CE.out S2 hS2b.1 hS2b.2
      by_cases hk0 : 0 < kk
      · have hkz : (0 : Int) < (kk : Int) := by omega
        have hne : acc ≠ [] := fun h => by rw [h] at ha2; simp at ha2; omega
        rw [if_neg hne] at hS2
        clear hne
        have cN3 := fun W hW => in_need W r tp tc ts en S ⟨#[44]⟩ hW hn (by omega)
        go_wp2_with fail
        refine (cN3 _ IA.out).mono ?_
        rintro e w7 ⟨rfl, h7, b7⟩
        have h7' : InAt w7 r tp tc ts en S2 := by rw [← hS2]; exact h7
        have hz7 := b7.size
        have B7 := BW.out.trans b7
        have E7 := EA2.out.but b7 (by omega)
        have X7 := XA2.out.but b7 (by omega)
        have AO7 := AO.out.but b7 (by omega)
        clear cN3 h7 b7 EA2 XA2 AO BW IA
        go_wp2_with fail
        refine (cX _ h7').mono ?_
        rintro e w9 ⟨v, rfl, hx, h9, b9⟩
        have hx9 := hx
        obtain ⟨u0, u1, u2, u3, u4, u5, u6, u7, u8, rfl⟩ := hx.agg
        have hz9 := b9.size
        have B9 : But r w w9 := B7.trans b9
        have E9 := E7.but b9 (by omega)
        have X9 := X7.but b9 (by omega)
        have AO9 := AO7.but b9 (by omega)
        have hob : ∀ j, (Value.slice q acc.length c).ownBlock = some j → EB + 1 ≤ j ∧ j < w7.heap.size := fun j hj => by
          obtain ⟨cs3, o3, _⟩ := AO7
          exact o3.lt j hj
        have b10 := (al w9 (.cells #[.string u0, .string u1, .int .i64 u2, .int .i64 u3, .string u4, .slice u5 u6 u7, .int .i64 u8] 26)).trans ((al _ (.cells #[.string u0, .string u1, .int .i64 u2, .int .i64 u3, .string u4, .slice u5 u6 u7, .int .i64 u8] 26)).mono (by simp))
        obtain ⟨cs, ao1, ao2⟩ := AO9.on b10
        have hx2 := ExIn.low (lo' := fun b => EB + 1 ≤ b ∧ some b ≠ (Value.slice q acc.length c).ownBlock) (fun b _ hb => ⟨by omega, fun e => by have := hob b e.symm; omega⟩) _ _ (hx9.on b10)
        obtain ⟨f0, f1, f2, f3, f4, f5, f6, ff, fl⟩ := E9
        have E10 := (Box7.mk f0 f1 f2 f3 f4 f5 f6 ff fl).on b10
        have X10 := X9.on b10
        have h10 := h9.on b10
        have B10 : But r w ((w9.alloc (.cells #[.string u0, .string u1, .int .i64 u2, .int .i64 u3, .string u4, .slice u5 u6 u7, .int .i64 u8] 26)).alloc (.cells #[.string u0, .string u1, .int .i64 u2, .int .i64 u3, .string u4, .slice u5 u6 u7, .int .i64 u8] 26)) := B9.on b10 hrl
        have hs10 := b10.size
        have hE9 : EB < w9.heap.size := by omega
        clear X9 hx hx9 ff b9
        go_wp2_with (at_builtin; refine wpList_append_fresh rfl _ _ 24 rfl (EB + 1) 26 i0 (.agg #[.string ⟨#[]⟩, .string ⟨#[]⟩, .int .i64 0, .int .i64 0, .string ⟨#[]⟩, .slice none 0 0, .int .i64 0]) 7 96 Tryz.underlying24 hii hz0 hzz1 hzzz rfl (by decide) _ _ _ rfl ao1 ⟨w9.heap.size + 1, 0, none⟩ 1 1 [.string u0, .string u1, .int .i64 u2, .int .i64 u3, .string u4, .slice u5 u6 u7, .int .i64 u8] rfl rfl ?c1 ?c2 (by decide) ?c3 ?c4 ?c5 ?_)
        case c1 =>
          intro i u hu
          rw [Go.WideShapes.add_plain, World.cell?_alloc_at _ _ _ _ (by simp)]
          simpa using hu
        case c2 =>
          intro u hu
          simp at hu
          rcases hu with rfl | rfl | rfl | rfl | rfl | rfl | rfl <;> rfl
        case c3 => unfold maxLen; omega
        case c4 => omega
        case c5 => simp; omega
        intro v' w11 hown' hgrow hfr
        have AO11 := ArgsOwn.push ao1 ao2 hx2 hown' hgrow (hfr.imp id (fun h => by rw [h]; simp))
        have hgs := hgrow.size
        have bE : Below (EB + 1) ((w9.alloc (.cells #[.string u0, .string u1, .int .i64 u2, .int .i64 u3, .string u4, .slice u5 u6 u7, .int .i64 u8] 26)).alloc (.cells #[.string u0, .string u1, .int .i64 u2, .int .i64 u3, .string u4, .slice u5 u6 u7, .int .i64 u8] 26)) w11 := (Below.refl (EB + 1) _).grown hgrow (by simp; omega) (fun j hj => (hob j hj).1)
        have E11 := E10.onB bE (by omega)
        have X11 := X10.onB bE (by omega)
        have h11 := h10.onB bE (by omega) hTB
        have B11 : But r w w11 := ⟨B10.below.grown hgrow (by simp; omega) (fun j hj => by have := (hob j hj).1; omega), Nat.le_trans B10.size hgs, fun j hj hjr => by rw [hgrow.block j (by have := B10.size; omega) (fun e => by have := (hob j e.symm).1; omega)]; exact B10.kept j hj hjr⟩
        obtain ⟨cs5, o5, _⟩ := id AO11
        obtain ⟨q5, c5, rfl⟩ := lown_slice o5
        have AS : Aside (ArgsOwn (w11.setCell ⟨EB, 5, none⟩ (.slice q5 (acc.length + 1) c5)) (EB + 1) (.slice q5 (acc ++ [(sub S2).1]).length c5) (acc ++ [(sub S2).1])) := by
          exact AO11.but ((But.refl EB w11).set 5 _) (Nat.lt_succ_self _)
        have ES : Aside (Box7 (w11.setCell ⟨EB, 5, none⟩ (.slice q5 (acc.length + 1) c5)) EB (.string ⟨#[105, 102]⟩) (.string ⟨#[]⟩) (.int .i64 0) (.int .i64 0) (.string ⟨#[]⟩) (.slice q5 (acc ++ [(sub S2).1]).length c5) (.int .i64 PO)) := by
          rw [List.length_append, List.length_singleton]
          exact E11.put5 _
        have XS : Aside (Box7 (w11.setCell ⟨EB, 5, none⟩ (.slice q5 (acc.length + 1) c5)) w.heap.size (.string ⟨#[]⟩) (.string ⟨#[]⟩) (.int .i64 0) (.int .i64 0) (.string ⟨#[]⟩) (.slice none 0 0) (.int .i64 0)) := X11.but ((But.refl EB w11).set 5 _) (by omega)
        have IS : Aside (InAt (w11.setCell ⟨EB, 5, none⟩ (.slice q5 (acc.length + 1) c5)) r tp tc ts en (sub S2).2) := h11.setFar (by omega) hTE 5 _
        have BS : Aside (But r w (w11.setCell ⟨EB, 5, none⟩ (.slice q5 (acc.length + 1) c5))) := B11.setNew EB 5 (by omega) (by omega) _
        have hzS : EB + 1 ≤ (w11.setCell ⟨EB, 5, none⟩ (.slice q5 (acc.length + 1) c5)).heap.size := by simp [World.setCell]; omega
        obtain ⟨k0, k1, k2, k3, k4, k5, k6, kf, kl⟩ := E11
        have kf5 := kf 5
        clear o5 hown' hgrow hfr AO11 X11 h11 B11 bE kf
        go_wp2
        go_roundg (3 - (kk + 1))
        case measure => omega
        case rel => exact ⟨kk + 1, acc ++ [(sub S2).1], (sub S2).2, q5, c5, by omega, by omega, by go_num, by rw [List.length_append, List.length_singleton]; omega, by rw [List.length_append, List.length_singleton]; omega, ES, XS, AS, IS, BS, hzS, HU2, HSn⟩
      · have hkz : ¬ (0 : Int) < (kk : Int) := by omega
        have hne : acc = [] := List.length_eq_zero_iff.1 (by omega)
        rw [if_pos hne] at hS2
        clear hne
        have h7' : InAt wr r tp tc ts en S2 := by rw [← hS2]; exact IA.out
        have B7 := BW.out
        have E7 := EA2.out
        have X7 := XA2.out
        have AO7 := AO.out
        clear EA2 XA2 AO BW IA
        go_wp2_with fail
        refine (cX _ h7').mono ?_
        rintro e w9 ⟨v, rfl, hx, h9, b9⟩
        have hx9 := hx
        obtain ⟨u0, u1, u2, u3, u4, u5, u6, u7, u8, rfl⟩ := hx.agg
        have hz9 := b9.size
        have B9 : But r w w9 := B7.trans b9
        have E9 := E7.but b9 (by omega)
        have X9 := X7.but b9 (by omega)
        have AO9 := AO7.but b9 (by omega)
        have hob : ∀ j, (Value.slice q acc.length c).ownBlock = some j → EB + 1 ≤ j ∧ j < wr.heap.size := fun j hj => by
          obtain ⟨cs3, o3, _⟩ := AO7
          exact o3.lt j hj
        have b10 := (al w9 (.cells #[.string u0, .string u1, .int .i64 u2, .int .i64 u3, .string u4, .slice u5 u6 u7, .int .i64 u8] 26)).trans ((al _ (.cells #[.string u0, .string u1, .int .i64 u2, .int .i64 u3, .string u4, .slice u5 u6 u7, .int .i64 u8] 26)).mono (by simp))
        obtain ⟨cs, ao1, ao2⟩ := AO9.on b10
        have hx2 := ExIn.low (lo' := fun b => EB + 1 ≤ b ∧ some b ≠ (Value.slice q acc.length c).ownBlock) (fun b _ hb => ⟨by omega, fun e => by have := hob b e.symm; omega⟩) _ _ (hx9.on b10)
        obtain ⟨f0, f1, f2, f3, f4, f5, f6, ff, fl⟩ := E9
        have E10 := (Box7.mk f0 f1 f2 f3 f4 f5 f6 ff fl).on b10
        have X10 := X9.on b10
        have h10 := h9.on b10
        have B10 : But r w ((w9.alloc (.cells #[.string u0, .string u1, .int .i64 u2, .int .i64 u3, .string u4, .slice u5 u6 u7, .int .i64 u8] 26)).alloc (.cells #[.string u0, .string u1, .int .i64 u2, .int .i64 u3, .string u4, .slice u5 u6 u7, .int .i64 u8] 26)) := B9.on b10 hrl
        have hs10 := b10.size
        have hE9 : EB < w9.heap.size := by omega
        clear X9 hx hx9 ff b9
        go_wp2_with (at_builtin; refine wpList_append_fresh rfl _ _ 24 rfl (EB + 1) 26 i0 (.agg #[.string ⟨#[]⟩, .string ⟨#[]⟩, .int .i64 0, .int .i64 0, .string ⟨#[]⟩, .slice none 0 0, .int .i64 0]) 7 96 Tryz.underlying24 hii hz0 hzz1 hzzz rfl (by decide) _ _ _ rfl ao1 ⟨w9.heap.size + 1, 0, none⟩ 1 1 [.string u0, .string u1, .int .i64 u2, .int .i64 u3, .string u4, .slice u5 u6 u7, .int .i64 u8] rfl rfl ?c1 ?c2 (by decide) ?c3 ?c4 ?c5 ?_)
        case c1 =>
          intro i u hu
          rw [Go.WideShapes.add_plain, World.cell?_alloc_at _ _ _ _ (by simp)]
          simpa using hu
        case c2 =>
          intro u hu
          simp at hu
          rcases hu with rfl | rfl | rfl | rfl | rfl | rfl | rfl <;> rfl
        case c3 => unfold maxLen; omega
        case c4 => omega
        case c5 => simp; omega
        intro v' w11 hown' hgrow hfr
        have AO11 := ArgsOwn.push ao1 ao2 hx2 hown' hgrow (hfr.imp id (fun h => by rw [h]; simp))
        have hgs := hgrow.size
        have bE : Below (EB + 1) ((w9.alloc (.cells #[.string u0, .string u1, .int .i64 u2, .int .i64 u3, .string u4, .slice u5 u6 u7, .int .i64 u8] 26)).alloc (.cells #[.string u0, .string u1, .int .i64 u2, .int .i64 u3, .string u4, .slice u5 u6 u7, .int .i64 u8] 26)) w11 := (Below.refl (EB + 1) _).grown hgrow (by simp; omega) (fun j hj => (hob j hj).1)
        have E11 := E10.onB bE (by omega)
        have X11 := X10.onB bE (by omega)
        have h11 := h10.onB bE (by omega) hTB
        have B11 : But r w w11 := ⟨B10.below.grown hgrow (by simp; omega) (fun j hj => by have := (hob j hj).1; omega), Nat.le_trans B10.size hgs, fun j hj hjr => by rw [hgrow.block j (by have := B10.size; omega) (fun e => by have := (hob j e.symm).1; omega)]; exact B10.kept j hj hjr⟩
        obtain ⟨cs5, o5, _⟩ := id AO11
        obtain ⟨q5, c5, rfl⟩ := lown_slice o5
        have AS : Aside (ArgsOwn (w11.setCell ⟨EB, 5, none⟩ (.slice q5 (acc.length + 1) c5)) (EB + 1) (.slice q5 (acc ++ [(sub S2).1]).length c5) (acc ++ [(sub S2).1])) := by
          exact AO11.but ((But.refl EB w11).set 5 _) (Nat.lt_succ_self _)
        have ES : Aside (Box7 (w11.setCell ⟨EB, 5, none⟩ (.slice q5 (acc.length + 1) c5)) EB (.string ⟨#[105, 102]⟩) (.string ⟨#[]⟩) (.int .i64 0) (.int .i64 0) (.string ⟨#[]⟩) (.slice q5 (acc ++ [(sub S2).1]).length c5) (.int .i64 PO)) := by
          rw [List.length_append, List.length_singleton]
          exact E11.put5 _
        have XS : Aside (Box7 (w11.setCell ⟨EB, 5, none⟩ (.slice q5 (acc.length + 1) c5)) w.heap.size (.string ⟨#[]⟩) (.string ⟨#[]⟩) (.int .i64 0) (.int .i64 0) (.string ⟨#[]⟩) (.slice none 0 0) (.int .i64 0)) := X11.but ((But.refl EB w11).set 5 _) (by omega)
        have IS : Aside (InAt (w11.setCell ⟨EB, 5, none⟩ (.slice q5 (acc.length + 1) c5)) r tp tc ts en (sub S2).2) := h11.setFar (by omega) hTE 5 _
        have BS : Aside (But r w (w11.setCell ⟨EB, 5, none⟩ (.slice q5 (acc.length + 1) c5))) := B11.setNew EB 5 (by omega) (by omega) _
        have hzS : EB + 1 ≤ (w11.setCell ⟨EB, 5, none⟩ (.slice q5 (acc.length + 1) c5)).heap.size := by simp [World.setCell]; omega
        obtain ⟨k0, k1, k2, k3, k4, k5, k6, kf, kl⟩ := E11
        have kf5 := kf 5
        clear o5 hown' hgrow hfr AO11 X11 h11 B11 bE kf
        go_wp2
        go_roundg (3 - (kk + 1))
        case measure => omega
        case rel => exact ⟨kk + 1, acc ++ [(sub S2).1], (sub S2).2, q5, c5, by omega, by omega, by go_num, by rw [List.length_append, List.length_singleton]; omega, by rw [List.length_append, List.length_singleton]; omega, ES, XS, AS, IS, BS, hzS, HU2, HSn⟩
    · have hltz : ¬ (kk : Int) < 3 := by omega
      obtain rfl : kk = 3 := by omega
      have hU := HU.out
      rw [Nat.sub_self, pArgs] at hU
      have hP := HP.out
      rw [hU] at hP
      have cN2 := fun W hW => in_need W r tp tc ts en S ⟨#[41]⟩ hW hn (by omega)
      obtain ⟨a0, a1, a2, a3, a4, a5, a6, af, alt⟩ := EA2.out
      clear HU HSb
      go_wp2_with fail
      refine (cN2 _ IA.out).mono ?_
      rintro e w8 ⟨rfl, h8, b8⟩
      have B8 := BW.out.trans b8
      obtain ⟨d0, d1, d2, d3, d4, d5, d6, df, dl⟩ := XA2.out.but b8 (by omega)
      obtain ⟨e0, e1, e2, e3, e4, e5, e6, ef, el⟩ := EA2.out.but b8 (by omega)
      have AO8 := AO.out.but b8 (by omega)
      have df0 := df 0
      have df1 := df 1
      have df2 := df 2
      have df3 := df 3
      have df4 := df 4
      have df5 := df 5
      have df6 := df 6
      clear df ef af XA2 EA2 a0 a1 a2 a3 a4 a5 a6 b8 AO BW IA cN2
      go_wp2
      refine bodyPost_ret (v := .agg #[.string ⟨#[105, 102]⟩, .string ⟨#[]⟩, .int .i64 0, .int .i64 0, .string ⟨#[]⟩, .slice q acc.length c, .int .i64 PO]) (by simp [results, Tryz.results38, go_sem, d0, d1, d2, d3, d4, d5, d6, dl]) rfl ⟨_, rfl, ?_, ?_, ?_⟩
      · rw [hP]
        exact ((ex_args (op := ⟨#[105, 102]⟩) (nm := ⟨#[]⟩) (vs := ⟨#[]⟩) AO8.is (by decide) (by decide) (by decide)).set7 (own_ne (by omega)) _ _ _ _ _ _ _).lowB (by omega)
      · rw [hP]
        exact h8.set7 (by omega) hT _ _ _ _ _ _ _
      · exact B8.set7 (Nat.le_refl _) (by omega) _ _ _ _ _ _ _
end Go.Proofs.YtnpinbpjfngknaaGreatDoor
