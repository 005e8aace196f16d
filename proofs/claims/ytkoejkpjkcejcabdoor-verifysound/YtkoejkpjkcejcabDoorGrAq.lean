/-
  EvAq, EvDo, EvSw, EvSwW, in one text.
-/
import Derived.Test.YtkoejkpjkcejcabDoorQEvAp
import Derived.Test.YtkoejkpjkcejcabDoorGrAo
import Derived.Deep.RegionHeld3
import Derived.BigRegion
import Derived.Deep.QuietTactic
import Derived.BigQuiet
import Derived.Deep.CutRange
namespace Go.Proofs.YtkoejkpjkcejcabDoor
open Go.RowKit
set_option linter.unusedVariables false

theorem one_of {w : World} {b off j : Nat} {vs : List V3} (h : ∀ j (h : j < vs.length), w.cell? ⟨b, off + j * 3, none⟩ = some (.int .i64 vs[j].1) ∧ w.cell? ⟨b, off + j * 3 + 1, none⟩ = some (.int .i64 vs[j].2.1) ∧ w.cell? ⟨b, off + j * 3 + 2, none⟩ = some (.string vs[j].2.2)) (hj : j < vs.length) (o : Nat) (ho : o = off + j * 3) : One w b o vs[j].1 vs[j].2.1 vs[j].2.2 := by
  subst ho
  exact h j hj
theorem app_any (op : ByteArray) (p : Option Addr) (c N : Nat) (vs : List V3) (w : World) (hN : vs.length = N) (hvs : ValsAt w p vs) (hv : ∀ v ∈ vs, chk v.1 v.2.1 v.2.2.data.toList = 0) (hb : ∀ v ∈ vs, v.2.2.size ≤ maxLen ∧ inB v.2.1) (T : Int) (hr : ruleP op.data.toList (vs.map (·.1)) = (T, 0)) (t k : Int) (s : ByteArray) (e : Int) (hR : appP op.data.toList vs = ((t, k, s), e)) :
    Calls Tryd.prog 32 #[.string op, .slice p N c] w fun e' w' => e' = .returned (.tuple #[.agg #[.int .i64 t, .int .i64 k, .string s], errV e]) ∧ Below w.heap.size w w' := by
  obtain ⟨r, hf, hlen, hall, hT⟩ := ruleP_in hr
  rw [List.length_map] at hlen
  obtain ⟨hm, he⟩ := kdFind_mem hf
  have h1 := (kdCnt_ok r hm).1
  rcases hvs with h | ⟨b, off, rfl, hbl, hc⟩
  · omega
  obtain ⟨⟨l⟩⟩ := op
  simp only at he
  subst he
  clear hr hf h1
  simp only [kdRules, List.mem_cons, List.not_mem_nil, or_false] at hm
  have len1 : ∀ {l : List V3}, l.length = 1 → ∃ a, l = [a] := fun {l} h => by
    match l, h with
    | [a], _ => exact ⟨a, rfl⟩
  have len2 : ∀ {l : List V3}, l.length = 2 → ∃ a b, l = [a, b] := fun {l} h => by
    match l, h with
    | [a, b], _ => exact ⟨a, b, rfl⟩
  have len3 : ∀ {l : List V3}, l.length = 3 → ∃ a b c, l = [a, b, c] := fun {l} h => by
    match l, h with
    | [a, b, c], _ => exact ⟨a, b, c, rfl⟩
  have five : ∀ (op : ByteArray) (x y : V3), vs = [x, y] → ops5.contains op.data.toList = true → rkV op.data.toList x.2.1 y.2.1 = ((t, k, s), e) → Calls Tryd.prog 32 #[.string op, .slice (some ⟨b, off, none⟩) N c] w fun e' w' => e' = .returned (.tuple #[.agg #[.int .i64 t, .int .i64 k, .string s], errV e]) ∧ Below w.heap.size w w' := fun op x y hxy ho hR2 => by
    subst hxy
    exact app_five op b off c N (by rw [← hN]; exact Nat.le_refl _) _ _ _ _ _ _ w hbl (one_of hc (j := 0) (by simp) off (by omega)) (one_of hc (j := 1) (by simp) (off + 3) (by omega)) (hb x (by simp)).2 (hb y (by simp)).2 ho t k s e hR2
  have cmps : ∀ (op : ByteArray) (x y : V3), vs = [x, y] → (op = ⟨#[61]⟩ ∨ op = ⟨#[60, 62]⟩ ∨ op = ⟨#[60]⟩ ∨ op = ⟨#[60, 61]⟩ ∨ op = ⟨#[62]⟩ ∨ op = ⟨#[62, 61]⟩) → cmpV op.data.toList x y = ((t, k, s), e) → Calls Tryd.prog 32 #[.string op, .slice (some ⟨b, off, none⟩) N c] w fun e' w' => e' = .returned (.tuple #[.agg #[.int .i64 t, .int .i64 k, .string s], errV e]) ∧ Below w.heap.size w w' := fun op x y hxy ho hR2 => by
    subst hxy
    exact app_cmp op b off c N (by rw [← hN]; exact Nat.le_refl _) _ _ _ _ _ _ w hbl (one_of hc (j := 0) (by simp) off (by omega)) (one_of hc (j := 1) (by simp) (off + 3) (by omega)) (hb x (by simp)).1 (hb y (by simp)).1 ho t k s e hR2
  rcases hm with rfl | rfl | rfl | rfl | rfl | rfl | rfl | rfl | rfl | rfl | rfl | rfl | rfl | rfl | rfl | rfl | rfl
  · obtain ⟨x, y, rfl⟩ := len2 hlen
    replace hR : (truP (isY x || isY y), (0 : Int)) = ((t, k, s), e) := hR
    simp only [truP, Prod.mk.injEq] at hR
    obtain ⟨⟨rfl, hk, rfl⟩, rfl⟩ := hR
    exact app_or b off c N (by rw [← hN]; exact Nat.le_refl _) _ _ _ _ _ _ w hbl (one_of hc (j := 0) (by simp) off (by omega)) (one_of hc (j := 1) (by simp) (off + 3) (by omega)) k hk
  · obtain ⟨x, y, rfl⟩ := len2 hlen
    replace hR : (truP (isY x && isY y), (0 : Int)) = ((t, k, s), e) := hR
    simp only [truP, Prod.mk.injEq] at hR
    obtain ⟨⟨rfl, hk, rfl⟩, rfl⟩ := hR
    exact app_and b off c N (by rw [← hN]; exact Nat.le_refl _) _ _ _ _ _ _ w hbl (one_of hc (j := 0) (by simp) off (by omega)) (one_of hc (j := 1) (by simp) (off + 3) (by omega)) k hk
  · obtain ⟨x, rfl⟩ := len1 hlen
    replace hR : (truP (!isY x), (0 : Int)) = ((t, k, s), e) := hR
    simp only [truP, Prod.mk.injEq] at hR
    obtain ⟨⟨rfl, hk, rfl⟩, rfl⟩ := hR
    exact app_not b off c N (by rw [← hN]; exact Nat.le_refl _) _ _ _ w hbl (one_of hc (j := 0) (by simp) off (by omega)) k hk
  · obtain ⟨x, y, h⟩ := len2 hlen
    exact cmps ⟨#[61]⟩ x y h (by simp) (by subst h; exact hR)
  · obtain ⟨x, y, h⟩ := len2 hlen
    exact cmps ⟨#[60, 62]⟩ x y h (by simp) (by subst h; exact hR)
  · obtain ⟨x, y, h⟩ := len2 hlen
    exact cmps ⟨#[60]⟩ x y h (by simp) (by subst h; exact hR)
  · obtain ⟨x, y, h⟩ := len2 hlen
    exact cmps ⟨#[60, 61]⟩ x y h (by simp) (by subst h; exact hR)
  · obtain ⟨x, y, h⟩ := len2 hlen
    exact cmps ⟨#[62]⟩ x y h (by simp) (by subst h; exact hR)
  · obtain ⟨x, y, h⟩ := len2 hlen
    exact cmps ⟨#[62, 61]⟩ x y h (by simp) (by subst h; exact hR)
  · obtain ⟨x, y, h⟩ := len2 hlen
    exact five ⟨#[43]⟩ x y h (by decide) (by subst h; exact hR)
  · obtain ⟨x, y, h⟩ := len2 hlen
    exact five ⟨#[45]⟩ x y h (by decide) (by subst h; exact hR)
  · obtain ⟨x, y, h⟩ := len2 hlen
    exact five ⟨#[42]⟩ x y h (by decide) (by subst h; exact hR)
  · obtain ⟨x, y, h⟩ := len2 hlen
    exact five ⟨#[47]⟩ x y h (by decide) (by subst h; exact hR)
  · obtain ⟨x, y, h⟩ := len2 hlen
    exact five ⟨#[37]⟩ x y h (by decide) (by subst h; exact hR)
  · obtain ⟨x, rfl⟩ := len1 hlen
    exact app_neg b off c N (by rw [← hN]; exact Nat.le_refl _) _ _ _ w hbl (one_of hc (j := 0) (by simp) off (by omega)) (hb x (by simp)).2 t k s e hR
  · obtain ⟨x, rfl⟩ := len1 hlen
    replace hR : (((1 : Int), (x.2.2.size : Int), (⟨#[]⟩ : ByteArray)), (0 : Int)) = ((t, k, s), e) := hR
    simp only [Prod.mk.injEq] at hR
    obtain ⟨⟨rfl, rfl, rfl⟩, rfl⟩ := hR
    exact app_len b off c N (by rw [← hN]; exact Nat.le_refl _) _ _ _ w hbl (one_of hc (j := 0) (by simp) off (by omega))
  · obtain ⟨x, y, z, rfl⟩ := len3 hlen
    replace hR : (if isY x = true then y else z, (0 : Int)) = ((t, k, s), e) := hR
    have cI := app_if b off c N (by rw [← hN]; exact Nat.le_refl _) _ _ _ _ _ _ _ _ _ w hbl (one_of hc (j := 0) (by simp) off (by omega)) (one_of hc (j := 1) (by simp) (off + 3) (by omega)) (one_of hc (j := 2) (by simp) (off + 6) (by omega))
    refine cI.mono fun e' w' h => ⟨?_, h.2⟩
    rw [h.1]
    obtain ⟨hyz, rfl⟩ := Prod.mk.inj hR
    unfold isY at hyz
    simp only [List.getElem_cons_zero, List.getElem_cons_succ]
    split at hyz
    · rename_i hbb
      subst hyz
      rw [if_pos hbb]
      rfl
    · rename_i hbb
      subst hyz
      rw [if_neg hbb]
      rfl
end Go.Proofs.YtkoejkpjkcejcabDoor
namespace Go.Proofs.YtkoejkpjkcejcabDoor
open Go.RowKit Go.BigFrame
set_option linter.unusedVariables false

theorem vlE_at {vs : List V3} {k : Nat} (h : k < vs.length) : vlE (vs.drop k) = if chk vs[k].1 vs[k].2.1 vs[k].2.2.data.toList ≠ 0 then chk vs[k].1 vs[k].2.1 vs[k].2.2.data.toList else vlE (vs.drop (k + 1)) := by
  rw [List.drop_eq_getElem_cons h, vlE]
theorem map_take {vs : List V3} {k : Nat} (h : k < vs.length) : (vs.take k).map (·.1) ++ [vs[k].1] = (vs.take (k + 1)).map (·.1) := by
  rw [List.take_add_one, List.getElem?_eq_getElem h, List.map_append]
  rfl
set_option maxHeartbeats 8000000 in
set_option maxRecDepth 20000 in
theorem do_any (op : ByteArray) (p : Option Addr) (c N : Nat) (vs : List V3) (w : World) (henv : REnv w) (hN : vs.length = N) (hl : N ≤ 1048576) (hvs : ValsAt w p vs) (hsz : ∀ v ∈ vs, v.2.2.size ≤ maxLen ∧ inB v.2.1) (T K : Int) (S : ByteArray) (E : Int) (hR : doP op.data.toList vs = ((T, K, S), E)) :
    Calls Tryd.prog 12 #[.string op, .slice p N c] w fun e w' => e = .returned (.tuple #[.agg #[.int .i64 T, .int .i64 K, .string S], errV E]) ∧ Below w.heap.size w w' := by
  obtain ⟨i0, hi, hz0, hz1, hzz⟩ := info_parts info_int
  obtain ⟨b1, box⟩ := box_res w
  have HEN : Aside (REnv w) := henv
  have HVS : Aside (ValsAt w p vs) := hvs
  have HSZ : Aside (∀ v ∈ vs, v.2.2.size ≤ maxLen ∧ inB v.2.1) := hsz
  have HR : Hid (doP op.data.toList vs = ((T, K, S), E)) := hR
  have HN : Hid (vs.length = N) := hN
  have BOX : Hid (∀ W, Below (w.heap.size + 1) (w.alloc (.cells #[.int .i64 0, .int .i64 0, .string ⟨#[]⟩] 23)) W → (W.cell? ⟨w.heap.size, 0, none⟩ = some (.int .i64 0) ∧ W.cell? ⟨w.heap.size, 1, none⟩ = some (.int .i64 0) ∧ W.cell? ⟨w.heap.size, 2, none⟩ = some (.string ⟨#[]⟩) ∧ (∀ o, W.frozen? ⟨w.heap.size, o, none⟩ = false) ∧ w.heap.size < W.heap.size) ∧ Below w.heap.size w W) := box
  have hNz : (N : Int) ≤ 1048576 := by omega
  clear henv hvs hsz hR box hN b1
  go_enter Tryd.func12, Tryd.ntmps12
  go_wp2
  go_loopg [6, 8, 9, 16] N (fun gg s6 _ _ s16 wr => ∃ (kk : Nat) (acc : List Int) (q : Option Addr) (cp : Nat), kk ≤ N ∧ N - kk ≤ gg ∧ s16 = .int .i64 kk ∧ s6 = .slice q kk cp ∧ Aside (wr.ownsRow (w.heap.size + 1) 3 1 (.slice q kk cp) kk (acc.map fun t => .int .i64 t)) ∧ Aside (Below (w.heap.size + 1) (w.alloc (.cells #[.int .i64 0, .int .i64 0, .string ⟨#[]⟩] 23)) wr) ∧ Hid (vlE (vs.drop kk) = vlE vs ∧ acc = (vs.take kk).map (·.1)))
  case atStart => exact ⟨0, [], none, 0, Nat.zero_le _, by omega, rfl, rfl, (show Aside _ from ⟨rfl, .inl ⟨rfl, rfl⟩⟩), (show Aside _ from Below.refl _ _), (show Hid _ from ⟨rfl, rfl⟩)⟩
  case round =>
    obtain ⟨kk, acc, q, cp, hkk, hg, rfl, rfl, OW, BW, HG⟩ := hrel
    obtain ⟨⟨f0, f1, f2, ff, hl0⟩, bwr⟩ := BOX.out wr BW.out
    by_cases hlt : kk < N
    · have hltz : (kk : Int) < (N : Int) := by omega
      have h0z : (0 : Int) ≤ (kk : Int) := by omega
      have hk2 : kk < vs.length := by rw [HN.out]; exact hlt
      rcases HVS.out.on bwr with h | ⟨b, off, rfl, hbl, hc⟩
      · exact absurd h (by omega)
      obtain ⟨e0, e1, e2⟩ := hc kk hk2
      have hat := vlE_at hk2
      rw [HG.out.1] at hat
      have hszk := (HSZ.out _ (List.getElem_mem hk2)).1
      have hmt := map_take hk2
      generalize hve : vs[kk] = ve at e0 e1 e2 hat hszk hmt
      obtain ⟨t, n, s⟩ := ve
      simp only at e0 e1 e2 hat hszk hmt
      have HAT : Hid (vlE vs = if chk t n s.data.toList ≠ 0 then chk t n s.data.toList else vlE (vs.drop (kk + 1))) := hat
      have HMT : Hid (acc ++ [t] = (vs.take (kk + 1)).map (·.1)) := by rw [HG.out.2]; exact hmt
      have HKL : Hid (kk < N) := hlt
      clear hc hat hmt hk2 hve
      by_cases hck : chk t n s.data.toList = 0
      · have cC := check_ok t n s (wr.alloc (.cells #[.int .i64 t, .int .i64 n, .string s] 23)) hszk hck
        have HG2 : Hid (vlE (vs.drop (kk + 1)) = vlE vs ∧ acc ++ [t] = (vs.take (kk + 1)).map (·.1)) := by
          have h := HAT.out
          rw [if_neg (fun hh => hh hck)] at h
          exact ⟨h.symm, HMT.out⟩
        clear HAT HG hck
        go_wp2_with fail
        refine cC.mono ?_
        rintro e w4 ⟨rfl, b4⟩
        have hz4 : wr.heap.size + 1 ≤ w4.heap.size := by have := b4.size; simpa using this
        have hzr : w.heap.size + 1 ≤ wr.heap.size := hl0
        obtain ⟨k1, k2, hl1⟩ := box_at wr _ _ b4 (by simp)
        have g0 : w4.cell? ⟨wr.heap.size, 0, none⟩ = some (.int .i64 t) := k1 0
        have b5 : Below (w.heap.size + 1) wr w4 := ((Below.refl _ wr).alloc (by omega) _).trans (b4.mono (by simp; omega))
        have OW4 := own_but (OW.out.alloc (.cells #[.int .i64 t, .int .i64 n, .string s] 23)) (But.of_below' (r := 0) b4 (Nat.zero_le _)) (by omega)
        have BW5 : Aside (Below (w.heap.size + 1) (w.alloc (.cells #[.int .i64 0, .int .i64 0, .string ⟨#[]⟩] 23)) w4) := BW.out.trans b5
        clear cC b4 e0 e1 e2 OW k1 b5
        go_wp2_with (at_builtin; refine wpList_append_own _ rfl _ _ 70 rfl (w.heap.size + 1) 3 i0 (.int .i64 0) 1 8 Tryd.underlying70 hi hz0 hz1 hzz rfl (by decide) _ _ _ rfl (OW4.alloc _) ⟨w4.heap.size, 0, none⟩ 1 1 [.int .i64 t] rfl rfl ?c1 ?c2 ?c3 ?c4 ?c5 ?_)
        case c1 =>
          intro i u hu
          rw [Go.WideShapes.add_plain, World.cell?_alloc_at _ _ _ _ (by simp)]
          simpa using hu
        case c2 =>
          intro u hu
          simp at hu
          subst hu; rfl
        case c3 => simp [maxLen]; omega
        case c4 => omega
        case c5 => simp; omega
        · intro v' w5 hown' hgrow _
          have hlo3 : ∀ j, (Value.slice q kk cp).ownBlock = some j → w.heap.size + 1 ≤ j := fun j hj => (OW4.lt j hj).1
          have bg : Below (w.heap.size + 1) w4 w5 := ((Below.refl _ _).alloc (by omega) _).grown hgrow (by simp; omega) hlo3
          have BW6 : Aside (Below (w.heap.size + 1) (w.alloc (.cells #[.int .i64 0, .int .i64 0, .string ⟨#[]⟩] 23)) w5) := BW5.out.trans bg
          obtain ⟨q5, c5, rfl⟩ := lown_slice hown'
          have ow6 : w5.ownsRow (w.heap.size + 1) 3 1 (.slice q5 (kk + 1) c5) (kk + 1) ((acc ++ [t]).map fun t => .int .i64 t) := by rw [List.map_append]; exact hown'
          clear hown' hgrow OW4 bg BW5
          go_wp2
          go_roundg (N - (kk + 1))
          case measure => have := HKL.out; omega
          case rel => exact ⟨kk + 1, acc ++ [t], q5, c5, by have := HKL.out; omega, by omega, by go_num, rfl, (show Aside _ from ow6), BW6, HG2⟩
      · have cC := check_bad t n s (wr.alloc (.cells #[.int .i64 t, .int .i64 n, .string s] 23)) hszk hck
        have hfin := HR.out
        have hat := HAT.out
        rw [if_pos hck] at hat
        unfold doP at hfin
        rw [if_pos (by rw [hat]; exact hck), hat] at hfin
        simp only [noV, Prod.mk.injEq] at hfin
        obtain ⟨⟨rfl, rfl, rfl⟩, rfl⟩ := hfin
        have HCK : Hid (chk t n s.data.toList ≠ 0) := hck
        clear hat HAT hck HR
        go_wp2_with fail
        refine cC.mono ?_
        rintro e w4 ⟨rfl, b4⟩
        have b5 : Below (w.heap.size + 1) wr w4 := ((Below.refl _ wr).alloc (by omega) _).trans (b4.mono (by simp; omega))
        obtain ⟨⟨f0, f1, f2, ff, hl4⟩, b6⟩ := BOX.out w4 (BW.out.trans b5)
        clear cC b4 e0 e1 e2 b5
        go_wp2
        refine bodyPost_ret (v := .tuple #[.agg #[.int .i64 0, .int .i64 0, .string ⟨#[]⟩], .iface 37 (.int .i64 (chk t n s.data.toList))]) (by simp [results, Tryd.results12, go_sem, World.cell?_setCell_other, World.cell?_setCell_same, f0, f1, f2]) rfl ⟨by rw [errV, if_neg HCK.out], ?_⟩
        exact below3 b6 (Nat.le_refl _) _ _ _
    · have hltz : ¬ (kk : Int) < (N : Int) := by omega
      have hkN : kk = N := by omega
      subst hkN
      have hacc : acc = vs.map (·.1) := by rw [HG.out.2, List.take_of_length_le (by rw [HN.out]; exact Nat.le_refl _)]
      have hvz : vlE vs = 0 := by rw [← HG.out.1, List.drop_eq_nil_of_le (by rw [HN.out]; exact Nat.le_refl _)]; rfl
      have hla : acc.length = kk := by rw [hacc, List.length_map]; exact HN.out
      obtain ⟨RT, RE, hrr⟩ : ∃ RT RE, ruleP op.data.toList acc = (RT, RE) := ⟨_, _, rfl⟩
      have cR := rule_any op q cp kk acc wr (HEN.out.on bwr) hla (by omega) (ownInts hla OW.out) RT RE hrr
      have hfin := HR.out
      unfold doP at hfin
      rw [if_neg (fun hh => hh hvz), ← hacc, hrr] at hfin
      simp only at hfin
      by_cases hE : RE = 0
      · subst hE
        rw [if_neg (by simp)] at hfin
        rw [show errV 0 = .nilIface from rfl] at cR
        rw [hacc] at hrr
        have cA := fun W (hb : Below w.heap.size w W) => app_any op p c kk vs W HN.out (HVS.out.on hb) (vlE_zero.1 hvz) HSZ.out RT hrr T K S E hfin
        have hS : S.size ≤ 40 := by
          rcases app_comes (vlE_zero.1 hvz) (fun v hv => (HSZ.out v hv).2) hrr with h | h
          · rw [hfin] at h
            have := chk_size h.2.2.1
            simpa using this
          · rw [hfin] at h
            simp only [noV, Prod.mk.injEq] at h
            rw [h.1.2.2]
            decide
        have cF := fresh_any T K S
        clear hacc hvz hla hrr HR HG OW hfin HVS HSZ HN HEN
        go_wp2_with fail
        refine cR.mono ?_
        rintro e w4 ⟨rfl, b4⟩
        have B4 : Below (w.heap.size + 1) (w.alloc (.cells #[.int .i64 0, .int .i64 0, .string ⟨#[]⟩] 23)) w4 := BW.out.trans (b4.mono hl0)
        have cA4 := cA w4 (BOX.out w4 B4).2
        clear cR cA b4
        go_wp2_with fail
        refine cA4.mono ?_
        rintro e w5 ⟨rfl, b5⟩
        have B5 := B4.trans (b5.mono (BOX.out w4 B4).1.2.2.2.2)
        have B6 := B5.alloc (BOX.out w5 B5).1.2.2.2.2 (.cells #[.int .i64 T, .int .i64 K, .string S] 23)
        have cF6 := cF (w5.alloc (.cells #[.int .i64 T, .int .i64 K, .string S] 23)) hS
        have hl5 := (BOX.out w5 B5).1.2.2.2.2
        clear cA4 cF b5
        go_wp2_with fail
        refine cF6.mono ?_
        rintro e w7 ⟨rfl, b7⟩
        obtain ⟨⟨f0, f1, f2, ff, hl7⟩, b8⟩ := BOX.out w7 (B6.trans (b7.mono (by simp; omega)))
        clear cF6 b7 B4 B5 B6
        go_wp2
        refine bodyPost_ret (v := .tuple #[.agg #[.int .i64 T, .int .i64 K, .string S], errV E]) (by simp [results, Tryd.results12, go_sem, World.cell?_setCell_other, World.cell?_setCell_same, f0, f1, f2]) rfl ⟨rfl, ?_⟩
        exact below3 b8 (Nat.le_refl _) _ _ _
      · rw [if_pos hE] at hfin
        simp only [noV, Prod.mk.injEq] at hfin
        obtain ⟨⟨rfl, rfl, rfl⟩, rfl⟩ := hfin
        have cR2 : Calls Tryd.prog 31 #[.string op, .slice q kk cp] wr fun e w' => e = .returned (.tuple #[.int .i64 RT, .iface 37 (.int .i64 RE)]) ∧ Below wr.heap.size wr w' := cR.mono fun e w' h => by rw [errV, if_neg hE] at h; exact h
        have HCK : Hid (RE ≠ 0) := hE
        clear hacc hvz hla hrr HR HG OW HVS HSZ HN HEN cR hE
        go_wp2_with fail
        refine cR2.mono ?_
        rintro e w4 ⟨rfl, b4⟩
        obtain ⟨⟨f0, f1, f2, ff, hl4⟩, b6⟩ := BOX.out w4 (BW.out.trans (b4.mono hl0))
        clear cR2 b4
        go_wp2
        refine bodyPost_ret (v := .tuple #[.agg #[.int .i64 0, .int .i64 0, .string ⟨#[]⟩], .iface 37 (.int .i64 RE)]) (by simp [results, Tryd.results12, go_sem, World.cell?_setCell_other, World.cell?_setCell_same, f0, f1, f2]) rfl ⟨by rw [errV, if_neg HCK.out], ?_⟩
        exact below3 b6 (Nat.le_refl _) _ _ _
end Go.Proofs.YtkoejkpjkcejcabDoor
namespace Go.Proofs.YtkoejkpjkcejcabDoor
open Go.RowKit
set_option linter.unusedVariables false
--BEGIN
theorem chk_ty {t n : Int} {l : List UInt8} (h : chk t n l = 0) : t = 1 ∨ t = 2 ∨ t = 3 := by
  unfold chk at h
  by_cases ht : t = 1 ∨ t = 2 ∨ t = 3
  · exact ht
  · rw [if_pos (.inl ht)] at h
    omega
theorem cmpI_turn (x y : Int) : cmpI x y = -cmpI y x := by
  unfold cmpI
  split <;> split <;> first | omega | (split <;> omega)
theorem lt_turn (x y : List UInt8) : cmpS x y = -cmpS y x := by
  unfold cmpS
  by_cases h1 : x < y
  · have h2 : ¬ y < x := List.lt_asymm h1
    simp [h1, h2]
  · by_cases h2 : y < x
    · simp [h1, h2]
    · simp [h1, h2]
theorem cmpV_turn (op op' : List UInt8) (h : ∀ o, holdsP op o = holdsP op' (-o)) (a b : V3) (ha : chk a.1 a.2.1 a.2.2.data.toList = 0) (hb : chk b.1 b.2.1 b.2.2.data.toList = 0) (ht : a.1 = b.1) : cmpV op a b = cmpV op' b a := by
  have h1 : cmpE a.1 a.2.1 a.2.2.data.toList b.1 b.2.1 b.2.2.data.toList = 0 := by
    rw [cmpE, if_neg (fun hh => hh ha), if_neg (fun hh => hh hb), if_neg (fun hh => hh ht)]
  have h2 : cmpE b.1 b.2.1 b.2.2.data.toList a.1 a.2.1 a.2.2.data.toList = 0 := by
    rw [cmpE, if_neg (fun hh => hh hb), if_neg (fun hh => hh ha), if_neg (fun hh => hh ht.symm)]
  have h3 : cmpN a.1 a.2.1 a.2.2.data.toList b.1 b.2.1 b.2.2.data.toList = -cmpN b.1 b.2.1 b.2.2.data.toList a.1 a.2.1 a.2.2.data.toList := by
    have n1 : cmpN a.1 a.2.1 a.2.2.data.toList b.1 b.2.1 b.2.2.data.toList = if a.1 = 3 then cmpS a.2.2.data.toList b.2.2.data.toList else cmpI a.2.1 b.2.1 := by unfold cmpN; rw [if_neg (fun hh => hh h1)]
    have n2 : cmpN b.1 b.2.1 b.2.2.data.toList a.1 a.2.1 a.2.2.data.toList = if b.1 = 3 then cmpS b.2.2.data.toList a.2.2.data.toList else cmpI b.2.1 a.2.1 := by unfold cmpN; rw [if_neg (fun hh => hh h2)]
    rw [n1, n2, ht]
    split
    · exact lt_turn _ _
    · exact cmpI_turn _ _
  rw [cmpV, cmpV, if_neg (fun hh => hh h1), if_neg (fun hh => hh h2), h3, h, Int.neg_neg]
def swOps : List (List UInt8 × List UInt8) := [([43], [43]), ([42], [42]), ([61], [61]), ([60, 62], [60, 62]), ([60], [62]), ([60, 61], [62, 61])]
theorem do_turn_of {op op' : List UInt8} (hrule : ∀ t u, (t = 1 ∨ t = 2 ∨ t = 3) → (u = 1 ∨ u = 2 ∨ u = 3) → (ruleP op [t, u]).2 = (ruleP op' [u, t]).2 ∧ ((ruleP op [t, u]).2 = 0 → t = u))
    (happ : ∀ a b : V3, chk a.1 a.2.1 a.2.2.data.toList = 0 → chk b.1 b.2.1 b.2.2.data.toList = 0 → a.1 = b.1 → appP op [a, b] = appP op' [b, a]) (a b : V3) :
    (doP op [a, b]).1 = (doP op' [b, a]).1 ∧ ((doP op [a, b]).2 = 0 ↔ (doP op' [b, a]).2 = 0) := by
  by_cases hv : vlE [a, b] = 0
  · have hva := vlE_zero.1 hv
    have ha := hva a (by simp)
    have hb := hva b (by simp)
    have hv' : vlE [b, a] = 0 := vlE_zero.2 fun v h => by
      rcases List.mem_cons.1 h with rfl | h
      · exact hb
      · rcases List.mem_cons.1 h with rfl | h
        · exact ha
        · cases h
    obtain ⟨hr1, hr2⟩ := hrule a.1 b.1 (chk_ty ha) (chk_ty hb)
    have d1 : doP op [a, b] = if (ruleP op [a.1, b.1]).2 ≠ 0 then (noV, (ruleP op [a.1, b.1]).2) else appP op [a, b] := by
      unfold doP
      rw [if_neg (fun hh => hh hv)]
      rfl
    have d2 : doP op' [b, a] = if (ruleP op' [b.1, a.1]).2 ≠ 0 then (noV, (ruleP op' [b.1, a.1]).2) else appP op' [b, a] := by
      unfold doP
      rw [if_neg (fun hh => hh hv')]
      rfl
    rw [← hr1] at d2
    by_cases hz : (ruleP op [a.1, b.1]).2 = 0
    · rw [if_neg (fun hh => hh hz)] at d1 d2
      rw [d1, d2, happ a b ha hb (hr2 hz)]
      exact ⟨rfl, Iff.rfl⟩
    · rw [if_pos hz] at d1 d2
      rw [d1, d2]
      exact ⟨rfl, Iff.rfl⟩
  · have hv' : vlE [b, a] ≠ 0 := fun h => hv (vlE_zero.2 fun v hm => by
      have hva := vlE_zero.1 h
      rcases List.mem_cons.1 hm with rfl | hm
      · exact hva _ (by simp)
      · rcases List.mem_cons.1 hm with rfl | hm
        · exact hva _ (by simp)
        · cases hm)
    have d1 : doP op [a, b] = (noV, vlE [a, b]) := by unfold doP; rw [if_pos hv]
    have d2 : doP op' [b, a] = (noV, vlE [b, a]) := by unfold doP; rw [if_pos hv']
    rw [d1, d2]
    exact ⟨rfl, by simp [hv, hv']⟩
theorem rule_turn : ∀ p ∈ swOps, ∀ t ∈ [(1 : Int), 2, 3], ∀ u ∈ [(1 : Int), 2, 3], (ruleP p.1 [t, u]).2 = (ruleP p.2 [u, t]).2 ∧ ((ruleP p.1 [t, u]).2 = 0 → t = u) := by decide
theorem do_turn {op op' : List UInt8} (h : (op, op') ∈ swOps) (a b : V3) : (doP op [a, b]).1 = (doP op' [b, a]).1 ∧ ((doP op [a, b]).2 = 0 ↔ (doP op' [b, a]).2 = 0) := by
  refine do_turn_of (fun t u ht hu => rule_turn _ h t (by rcases ht with rfl | rfl | rfl <;> simp) u (by rcases hu with rfl | rfl | rfl <;> simp)) (fun a b ha hb hab => ?_) a b
  simp only [swOps, List.mem_cons, List.not_mem_nil, or_false, Prod.mk.injEq] at h
  rcases h with ⟨rfl, rfl⟩ | ⟨rfl, rfl⟩ | ⟨rfl, rfl⟩ | ⟨rfl, rfl⟩ | ⟨rfl, rfl⟩ | ⟨rfl, rfl⟩
  · show rkV [43] a.2.1 b.2.1 = rkV [43] b.2.1 a.2.1
    simp [rkV, rkP, Int.add_comm]
  · show rkV [42] a.2.1 b.2.1 = rkV [42] b.2.1 a.2.1
    simp [rkV, rkP, Int.mul_comm]
  · exact cmpV_turn [61] [61] (fun o => by
      show (o == 0) = (-o == 0)
      rw [Bool.eq_iff_iff]
      simp) a b ha hb hab
  · exact cmpV_turn [60, 62] [60, 62] (fun o => by
      show (o != 0) = (-o != 0)
      rw [Bool.eq_iff_iff]
      simp) a b ha hb hab
  · exact cmpV_turn [60] [62] (fun o => by simp [holdsP]) a b ha hb hab
  · exact cmpV_turn [60, 61] [62, 61] (fun o => by simp [holdsP]) a b ha hb hab
--END
end Go.Proofs.YtkoejkpjkcejcabDoor
namespace Go.Proofs.YtkoejkpjkcejcabDoor
open Go.RowKit Go.BigFrame
set_option linter.unusedVariables false

def opsA : Array Value := #[.string ⟨#[43]⟩, .string ⟨#[42]⟩, .string ⟨#[61]⟩, .string ⟨#[60, 62]⟩, .string ⟨#[60]⟩, .string ⟨#[60, 61]⟩]
def opsB : Array Value := #[.string ⟨#[43]⟩, .string ⟨#[42]⟩, .string ⟨#[61]⟩, .string ⟨#[60, 62]⟩, .string ⟨#[62]⟩, .string ⟨#[62, 61]⟩]
theorem ops_at (k : Nat) (h : k < 6) : ∃ p q : ByteArray, opsA[k]? = some (.string p) ∧ opsB[k]? = some (.string q) ∧ (p.data.toList, q.data.toList) ∈ swOps := by
  have : k = 0 ∨ k = 1 ∨ k = 2 ∨ k = 3 ∨ k = 4 ∨ k = 5 := by omega
  rcases this with rfl | rfl | rfl | rfl | rfl | rfl
  · exact ⟨⟨#[43]⟩, ⟨#[43]⟩, rfl, rfl, by decide⟩
  · exact ⟨⟨#[42]⟩, ⟨#[42]⟩, rfl, rfl, by decide⟩
  · exact ⟨⟨#[61]⟩, ⟨#[61]⟩, rfl, rfl, by decide⟩
  · exact ⟨⟨#[60, 62]⟩, ⟨#[60, 62]⟩, rfl, rfl, by decide⟩
  · exact ⟨⟨#[60]⟩, ⟨#[62]⟩, rfl, rfl, by decide⟩
  · exact ⟨⟨#[60, 61]⟩, ⟨#[62, 61]⟩, rfl, rfl, by decide⟩
theorem do_len : doP [108, 101, 110] [(3, 0, ⟨#[97, 98, 99]⟩)] = ((1, 3, ⟨#[]⟩), 0) := by decide
/-- Two values in a block. -/
theorem two_at {W : World} {g : Nat} {a b : V3} (hg : g < W.heap.size) (hc : ∀ i, W.cell? ⟨g, i, none⟩ = (#[.int .i64 a.1, .int .i64 a.2.1, .string a.2.2, .int .i64 b.1, .int .i64 b.2.1, .string b.2.2] : Array Value)[i]?) : ValsAt W (some ⟨g, 0, none⟩) [a, b] := .inr ⟨_, _, rfl, hg, fun j hj => by
  have : j = 0 ∨ j = 1 := by simp at hj; omega
  rcases this with rfl | rfl
  · exact ⟨hc 0, hc 1, hc 2⟩
  · exact ⟨hc 3, hc 4, hc 5⟩⟩
theorem cell?_drew (w : World) (p : Addr) : w.drew.cell? p = w.cell? p := rfl
theorem frozen?_drew (w : World) (p : Addr) : w.drew.frozen? p = w.frozen? p := rfl
/-- Do of two values that lie in a block. -/
theorem do_two (op : ByteArray) (a b : V3) (X : World) (henv : REnv X) (ha : a.2.2.size ≤ maxLen ∧ inB a.2.1) (hb : b.2.2.size ≤ maxLen ∧ inB b.2.1) (T K : Int) (S : ByteArray) (E : Int) (hR : doP op.data.toList [a, b] = ((T, K, S), E)) (Kp : World → Prop) (hKp : ∀ w', Below X.heap.size X w' → Kp w') (W : World) (g : Nat) (hg : g < W.heap.size) (hc : ∀ i, W.cell? ⟨g, i, none⟩ = (#[.int .i64 a.1, .int .i64 a.2.1, .string a.2.2, .int .i64 b.1, .int .i64 b.2.1, .string b.2.2] : Array Value)[i]?) (hX : Below X.heap.size X W) :
    Calls Tryd.prog 12 #[.string op, .slice (some ⟨g, 0, none⟩) 2 2] W fun e w' => e = .returned (.tuple #[.agg #[.int .i64 T, .int .i64 K, .string S], errV E]) ∧ Aside (Below W.heap.size W w') ∧ Aside (Below X.heap.size X w') ∧ Kp w' := by
  refine (do_any op (some ⟨g, 0, none⟩) 2 2 [a, b] W (henv.on hX) rfl (by decide) (two_at hg hc) (fun v hv => ?_) T K S E hR).mono fun e w' h => ⟨h.1, h.2, hX.trans (h.2.mono hX.size), hKp _ (hX.trans (h.2.mono hX.size))⟩
  rcases List.mem_cons.1 hv with rfl | hv
  · exact ha
  · obtain rfl := List.mem_singleton.1 hv
    exact hb
set_option maxHeartbeats 8000000 in
set_option maxRecDepth 20000 in
theorem swaps_any (ta na : Int) (sa : ByteArray) (tb nb : Int) (sb : ByteArray) (w : World) (henv : REnv w) (ha : sa.size ≤ maxLen ∧ inB na) (hb : sb.size ≤ maxLen ∧ inB nb) :
    Calls Tryd.prog 4 #[.agg #[.int .i64 ta, .int .i64 na, .string sa], .agg #[.int .i64 tb, .int .i64 nb, .string sb]] w fun e w' => e = .returned (.bool true) ∧ Below w.heap.size w w' := by
  have b0 : Below w.heap.size w ((w.alloc (.cells #[.int .i64 ta, .int .i64 na, .string sa] 23)).alloc (.cells #[.int .i64 tb, .int .i64 nb, .string sb] 23)) := ((Below.refl _ w).alloc (Nat.le_refl _) _).alloc (by simp) _
  have b1 := b0.alloc (by simp; omega) (.cells #[.int .i64 3, .int .i64 0, .string ⟨#[97, 98, 99]⟩] 23)
  have cL := do_any ⟨#[108, 101, 110]⟩ (some ⟨w.heap.size + 1 + 1, 0, none⟩) 1 1 [(3, 0, ⟨#[97, 98, 99]⟩)] (((w.alloc (.cells #[.int .i64 ta, .int .i64 na, .string sa] 23)).alloc (.cells #[.int .i64 tb, .int .i64 nb, .string sb] 23)).alloc (.cells #[.int .i64 3, .int .i64 0, .string ⟨#[97, 98, 99]⟩] 23)) (henv.on b1) rfl (by decide) (.inr ⟨_, _, rfl, by simp, fun j hj => by
    obtain rfl : j = 0 := by simpa using hj
    exact ⟨by rw [World.cell?_alloc_at _ _ _ _ (by simp)]; rfl, by rw [World.cell?_alloc_at _ _ _ _ (by simp)]; rfl, by rw [World.cell?_alloc_at _ _ _ _ (by simp)]; rfl⟩⟩) (fun v hv => by
    obtain rfl := List.mem_singleton.1 hv
    exact ⟨by decide, by unfold inB; decide⟩) 1 3 ⟨#[]⟩ 0 do_len
  rw [show errV 0 = .nilIface from rfl] at cL
  have HEN : Aside (REnv w) := henv
  clear henv
  go_enter Tryd.func4, Tryd.ntmps4
  go_wp2_with fail
  refine cL.mono ?_
  rintro e w1 ⟨rfl, b2⟩
  have b3 : Below w.heap.size w w1 := b1.trans (b2.mono b1.size)
  have B2 : Below (w.heap.size + 2) ((w.alloc (.cells #[.int .i64 ta, .int .i64 na, .string sa] 23)).alloc (.cells #[.int .i64 tb, .int .i64 nb, .string sb] 23)) w1 := ((Below.refl _ _).alloc (by simp) _).trans (b2.mono (by simp))
  have hw1 : w.heap.size + 3 ≤ w1.heap.size := by have := b2.size; simp at this; omega
  clear cL b2 b1
  have hA0 : ∀ i, w1.cell? ⟨w.heap.size, i, none⟩ = (#[.int .i64 ta, .int .i64 na, .string sa] : Array Value)[i]? := fun i => by rw [B2.cell (p := ⟨w.heap.size, i, none⟩) (by simp), World.cell?_alloc_lt _ _ _ (by simp), World.cell?_alloc_at _ _ _ _ rfl]
  have hB0 : ∀ i, w1.cell? ⟨w.heap.size + 1, i, none⟩ = (#[.int .i64 tb, .int .i64 nb, .string sb] : Array Value)[i]? := fun i => by rw [B2.cell (p := ⟨w.heap.size + 1, i, none⟩) (by simp), World.cell?_alloc_at _ _ _ _ (by simp)]
  have FR : Hid (∀ W, Below (w1.heap.size + 3) (((w1.alloc (.cells #[.int .i64 1, .int .i64 3, .string ⟨#[]⟩] 23)).alloc (.cells opsA 9)).alloc (.cells opsB 9)) W → (∀ i, W.cell? ⟨w.heap.size, i, none⟩ = (#[.int .i64 ta, .int .i64 na, .string sa] : Array Value)[i]?) ∧ (∀ i, W.cell? ⟨w.heap.size + 1, i, none⟩ = (#[.int .i64 tb, .int .i64 nb, .string sb] : Array Value)[i]?) ∧ (∀ i, W.cell? ⟨w1.heap.size + 1, i, none⟩ = opsA[i]?) ∧ (∀ i, W.cell? ⟨w1.heap.size + 2, i, none⟩ = opsB[i]?) ∧ w1.heap.size + 3 ≤ W.heap.size ∧ Below w.heap.size w W) := fun W hb => by
    have hz := hb.size
    simp at hz
    refine ⟨fun i => ?_, fun i => ?_, fun i => ?_, fun i => ?_, by omega, ?_⟩
    · rw [hb.cell (p := ⟨w.heap.size, i, none⟩) (by simp; omega), World.cell?_alloc_lt _ _ _ (by simp; omega), World.cell?_alloc_lt _ _ _ (by simp; omega), World.cell?_alloc_lt _ _ _ (by simp; omega)]; exact hA0 i
    · rw [hb.cell (p := ⟨w.heap.size + 1, i, none⟩) (by simp; omega), World.cell?_alloc_lt _ _ _ (by simp; omega), World.cell?_alloc_lt _ _ _ (by simp; omega), World.cell?_alloc_lt _ _ _ (by simp; omega)]; exact hB0 i
    · rw [hb.cell (p := ⟨w1.heap.size + 1, i, none⟩) (by simp), World.cell?_alloc_lt _ _ _ (by simp), World.cell?_alloc_at _ _ _ _ (by simp)]
    · rw [hb.cell (p := ⟨w1.heap.size + 2, i, none⟩) (by simp), World.cell?_alloc_at _ _ _ _ (by simp)]
    · exact (((b3.alloc (by omega) _).alloc (by simp; omega) _).alloc (by simp; omega) _).trans (hb.mono (by omega))
  clear hA0 hB0
  have hra : Hid (sa.size ≤ maxLen ∧ inB na) := ha
  have hrb : Hid (sb.size ≤ maxLen ∧ inB nb) := hb
  clear ha hb b0 B2
  go_wp2
  go_loopg [9, 10, 11, 12, 13] 6 (fun gg s9 _ _ _ _ wr => ∃ kk : Nat, kk ≤ 6 ∧ 6 - kk ≤ gg ∧ s9 = .int .i64 kk ∧ Aside (Below (w1.heap.size + 3) (((w1.alloc (.cells #[.int .i64 1, .int .i64 3, .string ⟨#[]⟩] 23)).alloc (.cells opsA 9)).alloc (.cells opsB 9)) wr))
  case atStart => exact ⟨0, by decide, by decide, rfl, (show Aside _ from Below.refl _ _)⟩
  case round =>
    obtain ⟨kk, hkk, hg, rfl, BW⟩ := hrel
    obtain ⟨hA, hB, hO, hQ, hzr, bwr⟩ := FR.out wr BW.out
    by_cases hlt : kk < 6
    · have hltz : (kk : Int) < 6 := by omega
      have h0z : (0 : Int) ≤ (kk : Int) := by omega
      obtain ⟨p, q, hp, hq, hm⟩ := ops_at kk hlt
      obtain ⟨T, K, S, E, hd1⟩ : ∃ T K S E, doP p.data.toList [(ta, na, sa), (tb, nb, sb)] = ((T, K, S), E) := ⟨_, _, _, _, rfl⟩
      obtain ⟨T2, K2, S2, E2, hd2⟩ : ∃ T K S E, doP q.data.toList [(tb, nb, sb), (ta, na, sa)] = ((T, K, S), E) := ⟨_, _, _, _, rfl⟩
      have hturn := do_turn hm (ta, na, sa) (tb, nb, sb)
      rw [hd1, hd2] at hturn
      simp only [Prod.mk.injEq] at hturn
      obtain ⟨⟨rfl, rfl, rfl⟩, hEE⟩ := hturn
      have o0 : wr.cell? ⟨w1.heap.size + 1, kk, none⟩ = some (.string p) := by rw [hO]; exact hp
      have x0 : wr.cell? ⟨w.heap.size, 0, none⟩ = some (.int .i64 ta) := hA 0
      have x1 : wr.cell? ⟨w.heap.size, 1, none⟩ = some (.int .i64 na) := hA 1
      have x2 : wr.cell? ⟨w.heap.size, 2, none⟩ = some (.string sa) := hA 2
      have y0 : wr.cell? ⟨w.heap.size + 1, 0, none⟩ = some (.int .i64 tb) := hB 0
      have y1 : wr.cell? ⟨w.heap.size + 1, 1, none⟩ = some (.int .i64 nb) := hB 1
      have y2 : wr.cell? ⟨w.heap.size + 1, 2, none⟩ = some (.string sb) := hB 2
      have z0 : w.heap.size < wr.heap.size := by omega
      have z1 : w.heap.size + 1 < wr.heap.size := by omega
      have z2 : w1.heap.size + 1 < wr.heap.size := by omega
      clear hA hB hO hp hlt
      have HQ : Aside (∀ i, wr.cell? ⟨w1.heap.size + 2, i, none⟩ = opsB[i]?) := hQ
      have HM : Hid (opsB[kk]? = some (.string q)) := hq
      have HD1 : Hid (doP p.data.toList [(ta, na, sa), (tb, nb, sb)] = ((T, K, S), E)) := hd1
      have HD2 : Hid (doP q.data.toList [(tb, nb, sb), (ta, na, sa)] = ((T, K, S), E2)) := hd2
      have HEE : Hid (E = 0 ↔ E2 = 0) := hEE
      have HENr := HEN.out.on bwr
      clear hQ hq hd1 hd2 hEE hm bwr
      go_wp2
      go_cut [10, 11] from 29 to 64 (fun s10 s11 wc => ∃ b10 : Nat, s10 = .pointer (some ⟨b10, 0, none⟩) ∧ s11 = errV E ∧ (wc.cell? ⟨b10, 0, none⟩ = some (.int .i64 T) ∧ wc.cell? ⟨b10, 1, none⟩ = some (.int .i64 K) ∧ wc.cell? ⟨b10, 2, none⟩ = some (.string S)) ∧ b10 < wc.heap.size ∧ Aside (Below wr.heap.size wr wc))
      case first =>
        have na0 : wr.heap.size ≠ w1.heap.size := by omega
        have nb0 : w1.heap.size ≠ wr.heap.size := by omega
        have na1 : wr.heap.size ≠ w1.heap.size + 1 := by omega
        have nb1 : w1.heap.size + 1 ≠ wr.heap.size := by omega
        have na2 : wr.heap.size ≠ w.heap.size := by omega
        have nb2 : w.heap.size ≠ wr.heap.size := by omega
        have ne1 : wr.heap.size ≠ w.heap.size := by omega
        have me1 : w.heap.size ≠ wr.heap.size := by omega
        have ne2 : wr.heap.size + 1 ≠ w.heap.size := by omega
        have me2 : w.heap.size ≠ wr.heap.size + 1 := by omega
        have ne3 : wr.heap.size ≠ w.heap.size + 1 := by omega
        have me3 : w.heap.size + 1 ≠ wr.heap.size := by omega
        have ne4 : wr.heap.size + 1 ≠ w.heap.size + 1 := by omega
        have me4 : w.heap.size + 1 ≠ wr.heap.size + 1 := by omega
        have ne5 : wr.heap.size ≠ w1.heap.size + 1 := by omega
        have me5 : w1.heap.size + 1 ≠ wr.heap.size := by omega
        have ne6 : wr.heap.size + 1 ≠ w1.heap.size + 1 := by omega
        have me6 : w1.heap.size + 1 ≠ wr.heap.size + 1 := by omega
        have cD := do_two p (ta, na, sa) (tb, nb, sb) wr HENr hra.out hrb.out T K S E HD1.out (fun w' => w'.cell? ⟨w1.heap.size + 1, kk, none⟩ = some (.string p) ∧ w'.cell? ⟨w.heap.size, 0, none⟩ = some (.int .i64 ta) ∧ w'.cell? ⟨w.heap.size, 1, none⟩ = some (.int .i64 na) ∧ w'.cell? ⟨w.heap.size, 2, none⟩ = some (.string sa) ∧ w'.cell? ⟨w.heap.size + 1, 0, none⟩ = some (.int .i64 tb) ∧ w'.cell? ⟨w.heap.size + 1, 1, none⟩ = some (.int .i64 nb) ∧ w'.cell? ⟨w.heap.size + 1, 2, none⟩ = some (.string sb)) (fun w' hb => ⟨by rw [hb.cell (p := ⟨w1.heap.size + 1, kk, none⟩) z2]; exact o0, by rw [hb.cell (p := ⟨w.heap.size, 0, none⟩) z0]; exact x0, by rw [hb.cell (p := ⟨w.heap.size, 1, none⟩) z0]; exact x1, by rw [hb.cell (p := ⟨w.heap.size, 2, none⟩) z0]; exact x2, by rw [hb.cell (p := ⟨w.heap.size + 1, 0, none⟩) z1]; exact y0, by rw [hb.cell (p := ⟨w.heap.size + 1, 1, none⟩) z1]; exact y1, by rw [hb.cell (p := ⟨w.heap.size + 1, 2, none⟩) z1]; exact y2⟩)
        go_region_held3 (fun w' => w'.cell? ⟨w1.heap.size + 1, kk, none⟩ = some (.string p) ∧ w'.cell? ⟨w.heap.size, 0, none⟩ = some (.int .i64 ta) ∧ w'.cell? ⟨w.heap.size, 1, none⟩ = some (.int .i64 na) ∧ w'.cell? ⟨w.heap.size, 2, none⟩ = some (.string sa) ∧ w'.cell? ⟨w.heap.size + 1, 0, none⟩ = some (.int .i64 tb) ∧ w'.cell? ⟨w.heap.size + 1, 1, none⟩ = some (.int .i64 nb) ∧ w'.cell? ⟨w.heap.size + 1, 2, none⟩ = some (.string sb)) (go_keep) (first | (go_at_call 12; refine (cD _ _ (by first | (simp; done) | (simp; omega)) (by intro i; simp [World.cell?_alloc_at, World.cell?_alloc_lt]) (by repeat (first | exact Below.refl _ _ | (refine Below.alloc ?_ (by simp) _) | refine Below.drew ?_))).mono ?_; rintro e' w2 ⟨rfl, b2, b3, s0, s1, s2, s3, s4, s5, s6⟩; have fB0 := b2.out.cell (p := ⟨wr.heap.size + 1, 0, none⟩); try simp [World.cell?_alloc_at] at fB0; have fB1 := b2.out.cell (p := ⟨wr.heap.size + 1, 1, none⟩); try simp [World.cell?_alloc_at] at fB1; have fB2 := b2.out.cell (p := ⟨wr.heap.size + 1, 2, none⟩); try simp [World.cell?_alloc_at] at fB2; have gB := fun o : Nat => b2.out.frozen (p := ⟨wr.heap.size + 1, o, none⟩); try simp [World.frozen?_alloc_at] at gB; have fC0 := b2.out.cell (p := ⟨wr.heap.size, 0, none⟩) (by first | (simp; done) | (simp; omega)); try simp [World.cell?_alloc_at, World.cell?_alloc_lt] at fC0; have fC1 := b2.out.cell (p := ⟨wr.heap.size, 1, none⟩) (by first | (simp; done) | (simp; omega)); try simp [World.cell?_alloc_at, World.cell?_alloc_lt] at fC1; have fC2 := b2.out.cell (p := ⟨wr.heap.size, 2, none⟩) (by first | (simp; done) | (simp; omega)); try simp [World.cell?_alloc_at, World.cell?_alloc_lt] at fC2; have gC := fun o : Nat => b2.out.frozen (p := ⟨wr.heap.size, o, none⟩) (by first | (simp; done) | (simp; omega)); try simp [World.frozen?_alloc_at, World.frozen?_alloc_past] at gC; have hsz2 := b2.out.size; simp at hsz2; have hlC : wr.heap.size < w2.heap.size := by omega; try (have hlB : wr.heap.size + 1 < w2.heap.size := by omega)))
        all_goals
          go_wp2_with fail
          go_meet
          case rel =>
            first
              | exact ⟨_, rfl, rfl, ⟨by rw [World.cell?_alloc_at _ _ _ _ rfl]; rfl, by rw [World.cell?_alloc_at _ _ _ _ rfl]; rfl, by rw [World.cell?_alloc_at _ _ _ _ rfl]; rfl⟩, by simp, b3.out.alloc b3.out.size _⟩
              | exact ⟨_, rfl, rfl, ⟨by simp [World.cell?_setCell_other, World.cell?_setCell_same, *], by simp [World.cell?_setCell_other, World.cell?_setCell_same, *], by simp [World.cell?_setCell_other, World.cell?_setCell_same, *]⟩, by simp [World.setCell]; omega, below3 b3.out (by omega) _ _ _⟩
      case rest =>
        obtain ⟨b10, rfl, rfl, ⟨vx0, vx1, vx2⟩, hlx, Bx⟩ := hcut
        rename World => wX
        have bX := Bx.out
        have o1 : wX.cell? ⟨w1.heap.size + 2, kk, none⟩ = some (.string q) := by rw [bX.cell (p := ⟨w1.heap.size + 2, kk, none⟩) (by show w1.heap.size + 2 < _; omega), HQ.out]; exact HM.out
        have kX : ∀ j i, j < 2 → wX.cell? ⟨w.heap.size + j, i, none⟩ = wr.cell? ⟨w.heap.size + j, i, none⟩ := fun j i hj => bX.cell (p := ⟨w.heap.size + j, i, none⟩) (by show w.heap.size + j < _; omega)
        have x0' : wX.cell? ⟨w.heap.size, 0, none⟩ = some (.int .i64 ta) := by rw [← x0]; exact kX 0 0 (by decide)
        have x1' : wX.cell? ⟨w.heap.size, 1, none⟩ = some (.int .i64 na) := by rw [← x1]; exact kX 0 1 (by decide)
        have x2' : wX.cell? ⟨w.heap.size, 2, none⟩ = some (.string sa) := by rw [← x2]; exact kX 0 2 (by decide)
        have y0' : wX.cell? ⟨w.heap.size + 1, 0, none⟩ = some (.int .i64 tb) := by rw [← y0]; exact kX 1 0 (by decide)
        have y1' : wX.cell? ⟨w.heap.size + 1, 1, none⟩ = some (.int .i64 nb) := by rw [← y1]; exact kX 1 1 (by decide)
        have y2' : wX.cell? ⟨w.heap.size + 1, 2, none⟩ = some (.string sb) := by rw [← y2]; exact kX 1 2 (by decide)
        have hzX := bX.size
        have z0' : w.heap.size < wX.heap.size := by omega
        have z1' : w.heap.size + 1 < wX.heap.size := by omega
        have z2' : w1.heap.size + 2 < wX.heap.size := by omega
        have HENX := HENr.on bX
        clear kX o0 x0 x1 x2 y0 y1 y2 HQ HM
        go_wp2
        go_cut [12, 13] from 29 to 64 (fun s10 s11 wc => ∃ b10 : Nat, s10 = .pointer (some ⟨b10, 0, none⟩) ∧ s11 = errV E2 ∧ (wc.cell? ⟨b10, 0, none⟩ = some (.int .i64 T) ∧ wc.cell? ⟨b10, 1, none⟩ = some (.int .i64 K) ∧ wc.cell? ⟨b10, 2, none⟩ = some (.string S)) ∧ b10 < wc.heap.size ∧ Aside (Below wX.heap.size wX wc))
        case first =>
          have na0 : wX.heap.size ≠ w1.heap.size := by omega
          have nb0 : w1.heap.size ≠ wX.heap.size := by omega
          have na1 : wX.heap.size ≠ w1.heap.size + 1 := by omega
          have nb1 : w1.heap.size + 1 ≠ wX.heap.size := by omega
          have na2 : wX.heap.size ≠ w.heap.size := by omega
          have nb2 : w.heap.size ≠ wX.heap.size := by omega
          have ne1 : wX.heap.size ≠ w.heap.size := by omega
          have me1 : w.heap.size ≠ wX.heap.size := by omega
          have ne2 : wX.heap.size + 1 ≠ w.heap.size := by omega
          have me2 : w.heap.size ≠ wX.heap.size + 1 := by omega
          have ne3 : wX.heap.size ≠ w.heap.size + 1 := by omega
          have me3 : w.heap.size + 1 ≠ wX.heap.size := by omega
          have ne4 : wX.heap.size + 1 ≠ w.heap.size + 1 := by omega
          have me4 : w.heap.size + 1 ≠ wX.heap.size + 1 := by omega
          have ne5 : wX.heap.size ≠ w1.heap.size + 2 := by omega
          have me5 : w1.heap.size + 2 ≠ wX.heap.size := by omega
          have ne6 : wX.heap.size + 1 ≠ w1.heap.size + 2 := by omega
          have me6 : w1.heap.size + 2 ≠ wX.heap.size + 1 := by omega
          have cD := do_two q (tb, nb, sb) (ta, na, sa) wX HENX hrb.out hra.out T K S E2 HD2.out (fun w' => w'.cell? ⟨w1.heap.size + 2, kk, none⟩ = some (.string q) ∧ w'.cell? ⟨w.heap.size, 0, none⟩ = some (.int .i64 ta) ∧ w'.cell? ⟨w.heap.size, 1, none⟩ = some (.int .i64 na) ∧ w'.cell? ⟨w.heap.size, 2, none⟩ = some (.string sa) ∧ w'.cell? ⟨w.heap.size + 1, 0, none⟩ = some (.int .i64 tb) ∧ w'.cell? ⟨w.heap.size + 1, 1, none⟩ = some (.int .i64 nb) ∧ w'.cell? ⟨w.heap.size + 1, 2, none⟩ = some (.string sb)) (fun w' hb => ⟨by rw [hb.cell (p := ⟨w1.heap.size + 2, kk, none⟩) z2']; exact o1, by rw [hb.cell (p := ⟨w.heap.size, 0, none⟩) z0']; exact x0', by rw [hb.cell (p := ⟨w.heap.size, 1, none⟩) z0']; exact x1', by rw [hb.cell (p := ⟨w.heap.size, 2, none⟩) z0']; exact x2', by rw [hb.cell (p := ⟨w.heap.size + 1, 0, none⟩) z1']; exact y0', by rw [hb.cell (p := ⟨w.heap.size + 1, 1, none⟩) z1']; exact y1', by rw [hb.cell (p := ⟨w.heap.size + 1, 2, none⟩) z1']; exact y2'⟩)
          go_region_held3 (fun w' => w'.cell? ⟨w1.heap.size + 2, kk, none⟩ = some (.string q) ∧ w'.cell? ⟨w.heap.size, 0, none⟩ = some (.int .i64 ta) ∧ w'.cell? ⟨w.heap.size, 1, none⟩ = some (.int .i64 na) ∧ w'.cell? ⟨w.heap.size, 2, none⟩ = some (.string sa) ∧ w'.cell? ⟨w.heap.size + 1, 0, none⟩ = some (.int .i64 tb) ∧ w'.cell? ⟨w.heap.size + 1, 1, none⟩ = some (.int .i64 nb) ∧ w'.cell? ⟨w.heap.size + 1, 2, none⟩ = some (.string sb)) (go_keep) (first | (go_at_call 12; refine (cD _ _ (by first | (simp; done) | (simp; omega)) (by intro i; simp [World.cell?_alloc_at, World.cell?_alloc_lt]) (by repeat (first | exact Below.refl _ _ | (refine Below.alloc ?_ (by simp) _) | refine Below.drew ?_))).mono ?_; rintro e' w2 ⟨rfl, b2, b3, s0, s1, s2, s3, s4, s5, s6⟩; have fB0 := b2.out.cell (p := ⟨wX.heap.size + 1, 0, none⟩); try simp [World.cell?_alloc_at] at fB0; have fB1 := b2.out.cell (p := ⟨wX.heap.size + 1, 1, none⟩); try simp [World.cell?_alloc_at] at fB1; have fB2 := b2.out.cell (p := ⟨wX.heap.size + 1, 2, none⟩); try simp [World.cell?_alloc_at] at fB2; have gB := fun o : Nat => b2.out.frozen (p := ⟨wX.heap.size + 1, o, none⟩); try simp [World.frozen?_alloc_at] at gB; have fC0 := b2.out.cell (p := ⟨wX.heap.size, 0, none⟩) (by first | (simp; done) | (simp; omega)); try simp [World.cell?_alloc_at, World.cell?_alloc_lt] at fC0; have fC1 := b2.out.cell (p := ⟨wX.heap.size, 1, none⟩) (by first | (simp; done) | (simp; omega)); try simp [World.cell?_alloc_at, World.cell?_alloc_lt] at fC1; have fC2 := b2.out.cell (p := ⟨wX.heap.size, 2, none⟩) (by first | (simp; done) | (simp; omega)); try simp [World.cell?_alloc_at, World.cell?_alloc_lt] at fC2; have gC := fun o : Nat => b2.out.frozen (p := ⟨wX.heap.size, o, none⟩) (by first | (simp; done) | (simp; omega)); try simp [World.frozen?_alloc_at, World.frozen?_alloc_past] at gC; have hsz2 := b2.out.size; simp at hsz2; have hlC : wX.heap.size < w2.heap.size := by omega; try (have hlB : wX.heap.size + 1 < w2.heap.size := by omega)))
          all_goals
            go_wp2_with fail
            go_meet
            case rel =>
              first
                | exact ⟨_, rfl, rfl, ⟨by rw [World.cell?_alloc_at _ _ _ _ rfl]; rfl, by rw [World.cell?_alloc_at _ _ _ _ rfl]; rfl, by rw [World.cell?_alloc_at _ _ _ _ rfl]; rfl⟩, by simp, b3.out.alloc b3.out.size _⟩
                | exact ⟨_, rfl, rfl, ⟨by simp [World.cell?_setCell_other, World.cell?_setCell_same, *], by simp [World.cell?_setCell_other, World.cell?_setCell_same, *], by simp [World.cell?_setCell_other, World.cell?_setCell_same, *]⟩, by simp [World.setCell]; omega, below3 b3.out (by omega) _ _ _⟩
        case rest =>
          obtain ⟨b12, rfl, rfl, ⟨vy0, vy1, vy2⟩, hly, By⟩ := hcut
          rename World => wY
          have bY := By.out
          have xx0 : wY.cell? ⟨b10, 0, none⟩ = some (.int .i64 T) := by rw [bY.cell (p := ⟨b10, 0, none⟩) hlx]; exact vx0
          have xx1 : wY.cell? ⟨b10, 1, none⟩ = some (.int .i64 K) := by rw [bY.cell (p := ⟨b10, 1, none⟩) hlx]; exact vx1
          have xx2 : wY.cell? ⟨b10, 2, none⟩ = some (.string S) := by rw [bY.cell (p := ⟨b10, 2, none⟩) hlx]; exact vx2
          have hlx2 : b10 < wY.heap.size := by have := bY.size; omega
          have BWY : Below (w1.heap.size + 3) (((w1.alloc (.cells #[.int .i64 1, .int .i64 3, .string ⟨#[]⟩] 23)).alloc (.cells opsA 9)).alloc (.cells opsB 9)) wY := BW.out.trans ((bX.trans (bY.mono bX.size)).mono hzr)
          have hvs : ∀ W, Sem.run Tryd.prog (binOp .neq 23 (.agg #[.int .i64 T, .int .i64 K, .string S]) (.agg #[.int .i64 T, .int .i64 K, .string S])) W = .ok (.bool false) W := fun W => by rw [valK_neq]; simp
          have g1 := errK_geql E
          have g2 := errK_geql E2
          clear vx0 vx1 vx2 x0' x1' x2' y0' y1' y2' o1
          by_cases hE : E = 0
          · have hE2 := HEE.out.1 hE
            have q1 : ∀ W, Sem.run Tryd.prog (binOp .eql 32 (errV E) .nilIface) W = .ok (.bool true) W := fun W => by rw [errK_eql, hE]; rfl
            have q2 : ∀ W, Sem.run Tryd.prog (binOp .eql 32 (errV E2) .nilIface) W = .ok (.bool true) W := fun W => by rw [errK_eql, hE2]; rfl
            clear hE hE2
            go_wp2
            go_quiet (fail)
            go_wp2
            go_roundg (6 - (kk + 1))
            case measure => omega
            case rel => exact ⟨kk + 1, by omega, by omega, by go_num, (show Aside _ by repeat (first | exact BWY | apply below_drewN | refine Below.drew ?_))⟩
          · have hE2 : E2 ≠ 0 := fun h => hE (HEE.out.2 h)
            have q1 : ∀ W, Sem.run Tryd.prog (binOp .eql 32 (errV E) .nilIface) W = .ok (.bool false) W := fun W => by rw [errK_eql]; simp [hE]
            have q2 : ∀ W, Sem.run Tryd.prog (binOp .eql 32 (errV E2) .nilIface) W = .ok (.bool false) W := fun W => by rw [errK_eql]; simp [hE2]
            clear hE hE2
            go_wp2
            go_quiet (fail)
            go_wp2
            go_roundg (6 - (kk + 1))
            case measure => omega
            case rel => exact ⟨kk + 1, by omega, by omega, by go_num, (show Aside _ by repeat (first | exact BWY | apply below_drewN | refine Below.drew ?_))⟩
    · have hltz : ¬ (kk : Int) < 6 := by omega
      clear hA hB hO hQ
      go_wp2
      go_ret
      exact ⟨rfl, bwr⟩
end Go.Proofs.YtkoejkpjkcejcabDoor
