/-
  EvAq, EvDo, in one text.
-/
import Derived.Test.YtpgadbpkednjkaaGreatDoorEvAp
namespace Go.Proofs.YtpgadbpkednjkaaGreatDoor
open Go.RowKit
set_option linter.unusedVariables false

theorem one_of {w : World} {b off j : Nat} {vs : List V3} (h : ∀ j (h : j < vs.length), w.cell? ⟨b, off + j * 3, none⟩ = some (.int .i64 vs[j].1) ∧ w.cell? ⟨b, off + j * 3 + 1, none⟩ = some (.int .i64 vs[j].2.1) ∧ w.cell? ⟨b, off + j * 3 + 2, none⟩ = some (.string vs[j].2.2)) (hj : j < vs.length) (o : Nat) (ho : o = off + j * 3) : One w b o vs[j].1 vs[j].2.1 vs[j].2.2 := by
  subst ho
  exact h j hj
theorem app_any (op : ByteArray) (p : Option Addr) (c N : Nat) (vs : List V3) (w : World) (hN : vs.length = N) (hvs : ValsAt w p vs) (hv : ∀ v ∈ vs, chk v.1 v.2.1 v.2.2.data.toList = 0) (hb : ∀ v ∈ vs, v.2.2.size ≤ maxLen ∧ inB v.2.1) (T : Int) (hr : ruleP op.data.toList (vs.map (·.1)) = (T, 0)) (t k : Int) (s : ByteArray) (e : Int) (hR : appP op.data.toList vs = ((t, k, s), e)) :
    Calls Tryz.prog 49 #[.string op, .slice p N c] w fun e' w' => e' = .returned (.tuple #[.agg #[.int .i64 t, .int .i64 k, .string s], errV e]) ∧ Below w.heap.size w w' := by
  obtain ⟨r, hf, hlen, hall, hT⟩ := ruleP_in hr
  rw [List.length_map] at hlen
  obtain ⟨hm, he⟩ := kdFind_mem hf
  have h1 := (kdCnt_ok r hm).1
  rcases hvs with h | ⟨b, off, rfl, hbl, hc⟩
  · omega
  obtain ⟨⟨l⟩⟩ := op
  simp only at he
  subst he
  clear hr hf h1
  simp only [kdRules, List.mem_cons, List.not_mem_nil, or_false] at hm
  have len1 : ∀ {l : List V3}, l.length = 1 → ∃ a, l = [a] := fun {l} h => by
    match l, h with
    | [a], _ => exact ⟨a, rfl⟩
  have len2 : ∀ {l : List V3}, l.length = 2 → ∃ a b, l = [a, b] := fun {l} h => by
    match l, h with
    | [a, b], _ => exact ⟨a, b, rfl⟩
  have len3 : ∀ {l : List V3}, l.length = 3 → ∃ a b c, l = [a, b, c] := fun {l} h => by
    match l, h with
    | [a, b, c], _ => exact ⟨a, b, c, rfl⟩
  have five : ∀ (op : ByteArray) (x y : V3), vs = [x, y] → ops5.contains op.data.toList = true → rkV op.data.toList x.2.1 y.2.1 = ((t, k, s), e) → Calls Tryz.prog 49 #[.string op, .slice (some ⟨b, off, none⟩) N c] w fun e' w' => e' = .returned (.tuple #[.agg #[.int .i64 t, .int .i64 k, .string s], errV e]) ∧ Below w.heap.size w w' := fun op x y hxy ho hR2 => by
    subst hxy
    exact app_five op b off c N (by rw [← hN]; exact Nat.le_refl _) _ _ _ _ _ _ w hbl (one_of hc (j := 0) (by simp) off (by omega)) (one_of hc (j := 1) (by simp) (off + 3) (by omega)) (hb x (by simp)).2 (hb y (by simp)).2 ho t k s e hR2
  have cmps : ∀ (op : ByteArray) (x y : V3), vs = [x, y] → (op = ⟨#[61]⟩ ∨ op = ⟨#[60, 62]⟩ ∨ op = ⟨#[60]⟩ ∨ op = ⟨#[60, 61]⟩ ∨ op = ⟨#[62]⟩ ∨ op = ⟨#[62, 61]⟩) → cmpV op.data.toList x y = ((t, k, s), e) → Calls Tryz.prog 49 #[.string op, .slice (some ⟨b, off, none⟩) N c] w fun e' w' => e' = .returned (.tuple #[.agg #[.int .i64 t, .int .i64 k, .string s], errV e]) ∧ Below w.heap.size w w' := fun op x y hxy ho hR2 => by
    subst hxy
    exact app_cmp op b off c N (by rw [← hN]; exact Nat.le_refl _) _ _ _ _ _ _ w hbl (one_of hc (j := 0) (by simp) off (by omega)) (one_of hc (j := 1) (by simp) (off + 3) (by omega)) (hb x (by simp)).1 (hb y (by simp)).1 ho t k s e hR2
  rcases hm with rfl | rfl | rfl | rfl | rfl | rfl | rfl | rfl | rfl | rfl | rfl | rfl | rfl | rfl | rfl | rfl | rfl
  · obtain ⟨x, y, rfl⟩ := len2 hlen
    replace hR : (truP (isY x || isY y), (0 : Int)) = ((t, k, s), e) := hR
    simp only [truP, Prod.mk.injEq] at hR
    obtain ⟨⟨rfl, hk, rfl⟩, rfl⟩ := hR
    exact app_or b off c N (by rw [← hN]; exact Nat.le_refl _) _ _ _ _ _ _ w hbl (one_of hc (j := 0) (by simp) off (by omega)) (one_of hc (j := 1) (by simp) (off + 3) (by omega)) k hk
  · obtain ⟨x, y, rfl⟩ := len2 hlen
    replace hR : (truP (isY x && isY y), (0 : Int)) = ((t, k, s), e) := hR
    simp only [truP, Prod.mk.injEq] at hR
    obtain ⟨⟨rfl, hk, rfl⟩, rfl⟩ := hR
    exact app_and b off c N (by rw [← hN]; exact Nat.le_refl _) _ _ _ _ _ _ w hbl (one_of hc (j := 0) (by simp) off (by omega)) (one_of hc (j := 1) (by simp) (off + 3) (by omega)) k hk
  · obtain ⟨x, rfl⟩ := len1 hlen
    replace hR : (truP (!isY x), (0 : Int)) = ((t, k, s), e) := hR
    simp only [truP, Prod.mk.injEq] at hR
    obtain ⟨⟨rfl, hk, rfl⟩, rfl⟩ := hR
    exact app_not b off c N (by rw [← hN]; exact Nat.le_refl _) _ _ _ w hbl (one_of hc (j := 0) (by simp) off (by omega)) k hk
  · obtain ⟨x, y, h⟩ := len2 hlen
    exact cmps ⟨#[61]⟩ x y h (by simp) (by subst h; exact hR)
  · obtain ⟨x, y, h⟩ := len2 hlen
    exact cmps ⟨#[60, 62]⟩ x y h (by simp) (by subst h; exact hR)
  · obtain ⟨x, y, h⟩ := len2 hlen
    exact cmps ⟨#[60]⟩ x y h (by simp) (by subst h; exact hR)
  · obtain ⟨x, y, h⟩ := len2 hlen
    exact cmps ⟨#[60, 61]⟩ x y h (by simp) (by subst h; exact hR)
  · obtain ⟨x, y, h⟩ := len2 hlen
    exact cmps ⟨#[62]⟩ x y h (by simp) (by subst h; exact hR)
  · obtain ⟨x, y, h⟩ := len2 hlen
    exact cmps ⟨#[62, 61]⟩ x y h (by simp) (by subst h; exact hR)
  · obtain ⟨x, y, h⟩ := len2 hlen
    exact five ⟨#[43]⟩ x y h (by decide) (by subst h; exact hR)
  · obtain ⟨x, y, h⟩ := len2 hlen
    exact five ⟨#[45]⟩ x y h (by decide) (by subst h; exact hR)
  · obtain ⟨x, y, h⟩ := len2 hlen
    exact five ⟨#[42]⟩ x y h (by decide) (by subst h; exact hR)
  · obtain ⟨x, y, h⟩ := len2 hlen
    exact five ⟨#[47]⟩ x y h (by decide) (by subst h; exact hR)
  · obtain ⟨x, y, h⟩ := len2 hlen
    exact five ⟨#[37]⟩ x y h (by decide) (by subst h; exact hR)
  · obtain ⟨x, rfl⟩ := len1 hlen
    exact app_neg b off c N (by rw [← hN]; exact Nat.le_refl _) _ _ _ w hbl (one_of hc (j := 0) (by simp) off (by omega)) (hb x (by simp)).2 t k s e hR
  · obtain ⟨x, rfl⟩ := len1 hlen
    replace hR : (((1 : Int), (x.2.2.size : Int), (⟨#[]⟩ : ByteArray)), (0 : Int)) = ((t, k, s), e) := hR
    simp only [Prod.mk.injEq] at hR
    obtain ⟨⟨rfl, rfl, rfl⟩, rfl⟩ := hR
    exact app_len b off c N (by rw [← hN]; exact Nat.le_refl _) _ _ _ w hbl (one_of hc (j := 0) (by simp) off (by omega))
  · obtain ⟨x, y, z, rfl⟩ := len3 hlen
    replace hR : (if isY x = true then y else z, (0 : Int)) = ((t, k, s), e) := hR
    have cI := app_if b off c N (by rw [← hN]; exact Nat.le_refl _) _ _ _ _ _ _ _ _ _ w hbl (one_of hc (j := 0) (by simp) off (by omega)) (one_of hc (j := 1) (by simp) (off + 3) (by omega)) (one_of hc (j := 2) (by simp) (off + 6) (by omega))
    refine cI.mono fun e' w' h => ⟨?_, h.2⟩
    rw [h.1]
    obtain ⟨hyz, rfl⟩ := Prod.mk.inj hR
    unfold isY at hyz
    simp only [List.getElem_cons_zero, List.getElem_cons_succ]
    split at hyz
    · rename_i hbb
      subst hyz
      rw [if_pos hbb]
      rfl
    · rename_i hbb
      subst hyz
      rw [if_neg hbb]
      rfl
end Go.Proofs.YtpgadbpkednjkaaGreatDoor
namespace Go.Proofs.YtpgadbpkednjkaaGreatDoor
open Go.RowKit Go.BigFrame
set_option linter.unusedVariables false

theorem vlE_at {vs : List V3} {k : Nat} (h : k < vs.length) : vlE (vs.drop k) = if chk vs[k].1 vs[k].2.1 vs[k].2.2.data.toList ≠ 0 then chk vs[k].1 vs[k].2.1 vs[k].2.2.data.toList else vlE (vs.drop (k + 1)) := by
  rw [List.drop_eq_getElem_cons h, vlE]
theorem map_take {vs : List V3} {k : Nat} (h : k < vs.length) : (vs.take k).map (·.1) ++ [vs[k].1] = (vs.take (k + 1)).map (·.1) := by
  rw [List.take_add_one, List.getElem?_eq_getElem h, List.map_append]
  rfl
set_option maxHeartbeats 8000000 in
set_option maxRecDepth 20000 in
theorem do_any (op : ByteArray) (p : Option Addr) (c N : Nat) (vs : List V3) (w : World) (henv : REnv w) (hN : vs.length = N) (hl : N ≤ 1048576) (hvs : ValsAt w p vs) (hsz : ∀ v ∈ vs, v.2.2.size ≤ maxLen ∧ inB v.2.1) (T K : Int) (S : ByteArray) (E : Int) (hR : doP op.data.toList vs = ((T, K, S), E)) :
    Calls Tryz.prog 20 #[.string op, .slice p N c] w fun e w' => e = .returned (.tuple #[.agg #[.int .i64 T, .int .i64 K, .string S], errV E]) ∧ Below w.heap.size w w' := by
  obtain ⟨i0, hi, hz0, hz1, hzz⟩ := info_parts info_int
  obtain ⟨b1, box⟩ := box_res w
  have HEN : Aside (REnv w) := henv
  have HVS : Aside (ValsAt w p vs) := hvs
  have HSZ : Aside (∀ v ∈ vs, v.2.2.size ≤ maxLen ∧ inB v.2.1) := hsz
  have HR : Hid (doP op.data.toList vs = ((T, K, S), E)) := hR
  have HN : Hid (vs.length = N) := hN
  have BOX : Hid (∀ W, Below (w.heap.size + 1) (w.alloc (.cells #[.int .i64 0, .int .i64 0, .string ⟨#[]⟩] 23)) W → (W.cell? ⟨w.heap.size, 0, none⟩ = some (.int .i64 0) ∧ W.cell? ⟨w.heap.size, 1, none⟩ = some (.int .i64 0) ∧ W.cell? ⟨w.heap.size, 2, none⟩ = some (.string ⟨#[]⟩) ∧ (∀ o, W.frozen? ⟨w.heap.size, o, none⟩ = false) ∧ w.heap.size < W.heap.size) ∧ Below w.heap.size w W) := box
  have hNz : (N : Int) ≤ 1048576 := by omega
  clear henv hvs hsz hR box hN b1
  go_enter Tryz.func20, Tryz.ntmps20
  go_wp2
  go_loopg [6, 8, 9, 16] N (fun gg s6 _ _ s16 wr => ∃ (kk : Nat) (acc : List Int) (q : Option Addr) (cp : Nat), kk ≤ N ∧ N - kk ≤ gg ∧ s16 = .int .i64 kk ∧ s6 = .slice q kk cp ∧ Aside (wr.ownsRow (w.heap.size + 1) 3 1 (.slice q kk cp) kk (acc.map fun t => .int .i64 t)) ∧ Aside (Below (w.heap.size + 1) (w.alloc (.cells #[.int .i64 0, .int .i64 0, .string ⟨#[]⟩] 23)) wr) ∧ Hid (vlE (vs.drop kk) = vlE vs ∧ acc = (vs.take kk).map (·.1)))
  case atStart => exact ⟨0, [], none, 0, Nat.zero_le _, by omega, rfl, rfl, (show Aside _ from ⟨rfl, .inl ⟨rfl, rfl⟩⟩), (show Aside _ from Below.refl _ _), (show Hid _ from ⟨rfl, rfl⟩)⟩
  case round =>
    obtain ⟨kk, acc, q, cp, hkk, hg, rfl, rfl, OW, BW, HG⟩ := hrel
    obtain ⟨⟨f0, f1, f2, ff, hl0⟩, bwr⟩ := BOX.out wr BW.out
    by_cases hlt : kk < N
    · have hltz : (kk : Int) < (N : Int) := by omega
      have h0z : (0 : Int) ≤ (kk : Int) := by omega
      have hk2 : kk < vs.length := by rw [HN.out]; exact hlt
      rcases HVS.out.on bwr with h | ⟨b, off, rfl, hbl, hc⟩
      · exact absurd h (by omega)
      obtain ⟨e0, e1, e2⟩ := hc kk hk2
      have hat := vlE_at hk2
      rw [HG.out.1] at hat
      have hszk := (HSZ.out _ (List.getElem_mem hk2)).1
      have hmt := map_take hk2
      generalize hve : vs[kk] = ve at e0 e1 e2 hat hszk hmt
      obtain ⟨t, n, s⟩ := ve
      simp only at e0 e1 e2 hat hszk hmt
      have HAT : Hid (vlE vs = if chk t n s.data.toList ≠ 0 then chk t n s.data.toList else vlE (vs.drop (kk + 1))) := hat
      have HMT : Hid (acc ++ [t] = (vs.take (kk + 1)).map (·.1)) := by rw [HG.out.2]; exact hmt
      have HKL : Hid (kk < N) := hlt
      clear hc hat hmt hk2 hve
      by_cases hck : chk t n s.data.toList = 0
      · have cC := check_ok t n s (wr.alloc (.cells #[.int .i64 t, .int .i64 n, .string s] 23)) hszk hck
        have HG2 : Hid (vlE (vs.drop (kk + 1)) = vlE vs ∧ acc ++ [t] = (vs.take (kk + 1)).map (·.1)) := by
          have h := HAT.out
          rw [if_neg (fun hh => hh hck)] at h
          exact ⟨h.symm, HMT.out⟩
        clear HAT HG hck
        go_wp2_with fail
        refine cC.mono ?_
        rintro e w4 ⟨rfl, b4⟩
        have hz4 : wr.heap.size + 1 ≤ w4.heap.size := by have := b4.size; simpa using this
        have hzr : w.heap.size + 1 ≤ wr.heap.size := hl0
        obtain ⟨k1, k2, hl1⟩ := box_at wr _ _ b4 (by simp)
        have g0 : w4.cell? ⟨wr.heap.size, 0, none⟩ = some (.int .i64 t) := k1 0
        have b5 : Below (w.heap.size + 1) wr w4 := ((Below.refl _ wr).alloc (by omega) _).trans (b4.mono (by simp; omega))
        have OW4 := own_but (OW.out.alloc (.cells #[.int .i64 t, .int .i64 n, .string s] 23)) (But.of_below' (r := 0) b4 (Nat.zero_le _)) (by omega)
        have BW5 : Aside (Below (w.heap.size + 1) (w.alloc (.cells #[.int .i64 0, .int .i64 0, .string ⟨#[]⟩] 23)) w4) := BW.out.trans b5
        clear cC b4 e0 e1 e2 OW k1 b5
        go_wp2_with (at_builtin; refine wpList_append_own _ rfl _ _ 48 rfl (w.heap.size + 1) 3 i0 (.int .i64 0) 1 8 Tryz.underlying48 hi hz0 hz1 hzz rfl (by decide) _ _ _ rfl (OW4.alloc _) ⟨w4.heap.size, 0, none⟩ 1 1 [.int .i64 t] rfl rfl ?c1 ?c2 ?c3 ?c4 ?c5 ?_)
        case c1 =>
          intro i u hu
          rw [Go.WideShapes.add_plain, World.cell?_alloc_at _ _ _ _ (by simp)]
          simpa using hu
        case c2 =>
          intro u hu
          simp at hu
          subst hu; rfl
        case c3 => simp [maxLen]; omega
        case c4 => omega
        case c5 => simp; omega
        · intro v' w5 hown' hgrow _
          have hlo3 : ∀ j, (Value.slice q kk cp).ownBlock = some j → w.heap.size + 1 ≤ j := fun j hj => (OW4.lt j hj).1
          have bg : Below (w.heap.size + 1) w4 w5 := ((Below.refl _ _).alloc (by omega) _).grown hgrow (by simp; omega) hlo3
          have BW6 : Aside (Below (w.heap.size + 1) (w.alloc (.cells #[.int .i64 0, .int .i64 0, .string ⟨#[]⟩] 23)) w5) := BW5.out.trans bg
          obtain ⟨q5, c5, rfl⟩ := lown_slice hown'
          have ow6 : w5.ownsRow (w.heap.size + 1) 3 1 (.slice q5 (kk + 1) c5) (kk + 1) ((acc ++ [t]).map fun t => .int .i64 t) := by rw [List.map_append]; exact hown'
          clear hown' hgrow OW4 bg BW5
          go_wp2
          go_roundg (N - (kk + 1))
          case measure => have := HKL.out; omega
          case rel => exact ⟨kk + 1, acc ++ [t], q5, c5, by have := HKL.out; omega, by omega, by go_num, rfl, (show Aside _ from ow6), BW6, HG2⟩
      · have cC := check_bad t n s (wr.alloc (.cells #[.int .i64 t, .int .i64 n, .string s] 23)) hszk hck
        have hfin := HR.out
        have hat := HAT.out
        rw [if_pos hck] at hat
        unfold doP at hfin
        rw [if_pos (by rw [hat]; exact hck), hat] at hfin
        simp only [noV, Prod.mk.injEq] at hfin
        obtain ⟨⟨rfl, rfl, rfl⟩, rfl⟩ := hfin
        have HCK : Hid (chk t n s.data.toList ≠ 0) := hck
        clear hat HAT hck HR
        go_wp2_with fail
        refine cC.mono ?_
        rintro e w4 ⟨rfl, b4⟩
        have b5 : Below (w.heap.size + 1) wr w4 := ((Below.refl _ wr).alloc (by omega) _).trans (b4.mono (by simp; omega))
        obtain ⟨⟨f0, f1, f2, ff, hl4⟩, b6⟩ := BOX.out w4 (BW.out.trans b5)
        clear cC b4 e0 e1 e2 b5
        go_wp2
        refine bodyPost_ret (v := .tuple #[.agg #[.int .i64 0, .int .i64 0, .string ⟨#[]⟩], .iface 29 (.int .i64 (chk t n s.data.toList))]) (by simp [results, Tryz.results20, go_sem, World.cell?_setCell_other, World.cell?_setCell_same, f0, f1, f2]) rfl ⟨by rw [errV, if_neg HCK.out], ?_⟩
        exact below3 b6 (Nat.le_refl _) _ _ _
    · have hltz : ¬ (kk : Int) < (N : Int) := by omega
      have hkN : kk = N := by omega
      subst hkN
      have hacc : acc = vs.map (·.1) := by rw [HG.out.2, List.take_of_length_le (by rw [HN.out]; exact Nat.le_refl _)]
      have hvz : vlE vs = 0 := by rw [← HG.out.1, List.drop_eq_nil_of_le (by rw [HN.out]; exact Nat.le_refl _)]; rfl
      have hla : acc.length = kk := by rw [hacc, List.length_map]; exact HN.out
      obtain ⟨RT, RE, hrr⟩ : ∃ RT RE, ruleP op.data.toList acc = (RT, RE) := ⟨_, _, rfl⟩
      have cR := rule_any op q cp kk acc wr (HEN.out.on bwr) hla (by omega) (ownInts hla OW.out) RT RE hrr
      have hfin := HR.out
      unfold doP at hfin
      rw [if_neg (fun hh => hh hvz), ← hacc, hrr] at hfin
      simp only at hfin
      by_cases hE : RE = 0
      · subst hE
        rw [if_neg (by simp)] at hfin
        rw [show errV 0 = .nilIface from rfl] at cR
        rw [hacc] at hrr
        have cA := fun W (hb : Below w.heap.size w W) => app_any op p c kk vs W HN.out (HVS.out.on hb) (vlE_zero.1 hvz) HSZ.out RT hrr T K S E hfin
        have hS : S.size ≤ 40 := by
          rcases app_comes (vlE_zero.1 hvz) (fun v hv => (HSZ.out v hv).2) hrr with h | h
          · rw [hfin] at h
            have := chk_size h.2.2.1
            simpa using this
          · rw [hfin] at h
            simp only [noV, Prod.mk.injEq] at h
            rw [h.1.2.2]
            decide
        have cF := fresh_any T K S
        clear hacc hvz hla hrr HR HG OW hfin HVS HSZ HN HEN
        go_wp2_with fail
        refine cR.mono ?_
        rintro e w4 ⟨rfl, b4⟩
        have B4 : Below (w.heap.size + 1) (w.alloc (.cells #[.int .i64 0, .int .i64 0, .string ⟨#[]⟩] 23)) w4 := BW.out.trans (b4.mono hl0)
        have cA4 := cA w4 (BOX.out w4 B4).2
        clear cR cA b4
        go_wp2_with fail
        refine cA4.mono ?_
        rintro e w5 ⟨rfl, b5⟩
        have B5 := B4.trans (b5.mono (BOX.out w4 B4).1.2.2.2.2)
        have B6 := B5.alloc (BOX.out w5 B5).1.2.2.2.2 (.cells #[.int .i64 T, .int .i64 K, .string S] 23)
        have cF6 := cF (w5.alloc (.cells #[.int .i64 T, .int .i64 K, .string S] 23)) hS
        have hl5 := (BOX.out w5 B5).1.2.2.2.2
        clear cA4 cF b5
        go_wp2_with fail
        refine cF6.mono ?_
        rintro e w7 ⟨rfl, b7⟩
        obtain ⟨⟨f0, f1, f2, ff, hl7⟩, b8⟩ := BOX.out w7 (B6.trans (b7.mono (by simp; omega)))
        clear cF6 b7 B4 B5 B6
        go_wp2
        refine bodyPost_ret (v := .tuple #[.agg #[.int .i64 T, .int .i64 K, .string S], errV E]) (by simp [results, Tryz.results20, go_sem, World.cell?_setCell_other, World.cell?_setCell_same, f0, f1, f2]) rfl ⟨rfl, ?_⟩
        exact below3 b8 (Nat.le_refl _) _ _ _
      · rw [if_pos hE] at hfin
        simp only [noV, Prod.mk.injEq] at hfin
        obtain ⟨⟨rfl, rfl, rfl⟩, rfl⟩ := hfin
        have cR2 : Calls Tryz.prog 48 #[.string op, .slice q kk cp] wr fun e w' => e = .returned (.tuple #[.int .i64 RT, .iface 29 (.int .i64 RE)]) ∧ Below wr.heap.size wr w' := cR.mono fun e w' h => by rw [errV, if_neg hE] at h; exact h
        have HCK : Hid (RE ≠ 0) := hE
        clear hacc hvz hla hrr HR HG OW HVS HSZ HN HEN cR hE
        go_wp2_with fail
        refine cR2.mono ?_
        rintro e w4 ⟨rfl, b4⟩
        obtain ⟨⟨f0, f1, f2, ff, hl4⟩, b6⟩ := BOX.out w4 (BW.out.trans (b4.mono hl0))
        clear cR2 b4
        go_wp2
        refine bodyPost_ret (v := .tuple #[.agg #[.int .i64 0, .int .i64 0, .string ⟨#[]⟩], .iface 29 (.int .i64 RE)]) (by simp [results, Tryz.results20, go_sem, World.cell?_setCell_other, World.cell?_setCell_same, f0, f1, f2]) rfl ⟨by rw [errV, if_neg HCK.out], ?_⟩
        exact below3 b6 (Nat.le_refl _) _ _ _
end Go.Proofs.YtpgadbpkednjkaaGreatDoor
