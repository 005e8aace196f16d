/-
  EvAq, EvDo, RowChk, EvCm, BlkB, in one text.
-/
import Derived.Test.YtkoejkpjkcejcabDoorYEvAp
import Derived.Test.YtkoejkpjkcejcabDoorGyAa
import Derived.Test.YtkoejkpjkcejcabDoorGyAl
import Derived.Deep.QuietTactic
import Derived.BigQuiet
import Derived.Test.YtkoejkpjkcejcabDoorGyAe
import Derived.OneCell
import Derived.Lib.OthersKept
import Derived.Deep.MidRow
namespace Go.Proofs.YtkoejkpjkcejcabDoor
open Go.RowKit
set_option linter.unusedVariables false

theorem one_of {w : World} {b off j : Nat} {vs : List V3} (h : ∀ j (h : j < vs.length), w.cell? ⟨b, off + j * 3, none⟩ = some (.int .i64 vs[j].1) ∧ w.cell? ⟨b, off + j * 3 + 1, none⟩ = some (.int .i64 vs[j].2.1) ∧ w.cell? ⟨b, off + j * 3 + 2, none⟩ = some (.string vs[j].2.2)) (hj : j < vs.length) (o : Nat) (ho : o = off + j * 3) : One w b o vs[j].1 vs[j].2.1 vs[j].2.2 := by
  subst ho
  exact h j hj
theorem app_any (op : ByteArray) (p : Option Addr) (c N : Nat) (vs : List V3) (w : World) (hN : vs.length = N) (hvs : ValsAt w p vs) (hv : ∀ v ∈ vs, chk v.1 v.2.1 v.2.2.data.toList = 0) (hb : ∀ v ∈ vs, v.2.2.size ≤ maxLen ∧ inB v.2.1) (T : Int) (hr : ruleP op.data.toList (vs.map (·.1)) = (T, 0)) (t k : Int) (s : ByteArray) (e : Int) (hR : appP op.data.toList vs = ((t, k, s), e)) :
    Calls Tryd.prog 32 #[.string op, .slice p N c] w fun e' w' => e' = .returned (.tuple #[.agg #[.int .i64 t, .int .i64 k, .string s], errV e]) ∧ Below w.heap.size w w' := by
  obtain ⟨r, hf, hlen, hall, hT⟩ := ruleP_in hr
  rw [List.length_map] at hlen
  obtain ⟨hm, he⟩ := kdFind_mem hf
  have h1 := (kdCnt_ok r hm).1
  rcases hvs with h | ⟨b, off, rfl, hbl, hc⟩
  · omega
  obtain ⟨⟨l⟩⟩ := op
  simp only at he
  subst he
  clear hr hf h1
  simp only [kdRules, List.mem_cons, List.not_mem_nil, or_false] at hm
  have len1 : ∀ {l : List V3}, l.length = 1 → ∃ a, l = [a] := fun {l} h => by
    match l, h with
    | [a], _ => exact ⟨a, rfl⟩
  have len2 : ∀ {l : List V3}, l.length = 2 → ∃ a b, l = [a, b] := fun {l} h => by
    match l, h with
    | [a, b], _ => exact ⟨a, b, rfl⟩
  have len3 : ∀ {l : List V3}, l.length = 3 → ∃ a b c, l = [a, b, c] := fun {l} h => by
    match l, h with
    | [a, b, c], _ => exact ⟨a, b, c, rfl⟩
  have five : ∀ (op : ByteArray) (x y : V3), vs = [x, y] → ops5.contains op.data.toList = true → rkV op.data.toList x.2.1 y.2.1 = ((t, k, s), e) → Calls Tryd.prog 32 #[.string op, .slice (some ⟨b, off, none⟩) N c] w fun e' w' => e' = .returned (.tuple #[.agg #[.int .i64 t, .int .i64 k, .string s], errV e]) ∧ Below w.heap.size w w' := fun op x y hxy ho hR2 => by
    subst hxy
    exact app_five op b off c N (by rw [← hN]; exact Nat.le_refl _) _ _ _ _ _ _ w hbl (one_of hc (j := 0) (by simp) off (by omega)) (one_of hc (j := 1) (by simp) (off + 3) (by omega)) (hb x (by simp)).2 (hb y (by simp)).2 ho t k s e hR2
  have cmps : ∀ (op : ByteArray) (x y : V3), vs = [x, y] → (op = ⟨#[61]⟩ ∨ op = ⟨#[60, 62]⟩ ∨ op = ⟨#[60]⟩ ∨ op = ⟨#[60, 61]⟩ ∨ op = ⟨#[62]⟩ ∨ op = ⟨#[62, 61]⟩) → cmpV op.data.toList x y = ((t, k, s), e) → Calls Tryd.prog 32 #[.string op, .slice (some ⟨b, off, none⟩) N c] w fun e' w' => e' = .returned (.tuple #[.agg #[.int .i64 t, .int .i64 k, .string s], errV e]) ∧ Below w.heap.size w w' := fun op x y hxy ho hR2 => by
    subst hxy
    exact app_cmp op b off c N (by rw [← hN]; exact Nat.le_refl _) _ _ _ _ _ _ w hbl (one_of hc (j := 0) (by simp) off (by omega)) (one_of hc (j := 1) (by simp) (off + 3) (by omega)) (hb x (by simp)).1 (hb y (by simp)).1 ho t k s e hR2
  rcases hm with rfl | rfl | rfl | rfl | rfl | rfl | rfl | rfl | rfl | rfl | rfl | rfl | rfl | rfl | rfl | rfl | rfl
  · obtain ⟨x, y, rfl⟩ := len2 hlen
    replace hR : (truP (isY x || isY y), (0 : Int)) = ((t, k, s), e) := hR
    simp only [truP, Prod.mk.injEq] at hR
    obtain ⟨⟨rfl, hk, rfl⟩, rfl⟩ := hR
    exact app_or b off c N (by rw [← hN]; exact Nat.le_refl _) _ _ _ _ _ _ w hbl (one_of hc (j := 0) (by simp) off (by omega)) (one_of hc (j := 1) (by simp) (off + 3) (by omega)) k hk
  · obtain ⟨x, y, rfl⟩ := len2 hlen
    replace hR : (truP (isY x && isY y), (0 : Int)) = ((t, k, s), e) := hR
    simp only [truP, Prod.mk.injEq] at hR
    obtain ⟨⟨rfl, hk, rfl⟩, rfl⟩ := hR
    exact app_and b off c N (by rw [← hN]; exact Nat.le_refl _) _ _ _ _ _ _ w hbl (one_of hc (j := 0) (by simp) off (by omega)) (one_of hc (j := 1) (by simp) (off + 3) (by omega)) k hk
  · obtain ⟨x, rfl⟩ := len1 hlen
    replace hR : (truP (!isY x), (0 : Int)) = ((t, k, s), e) := hR
    simp only [truP, Prod.mk.injEq] at hR
    obtain ⟨⟨rfl, hk, rfl⟩, rfl⟩ := hR
    exact app_not b off c N (by rw [← hN]; exact Nat.le_refl _) _ _ _ w hbl (one_of hc (j := 0) (by simp) off (by omega)) k hk
  · obtain ⟨x, y, h⟩ := len2 hlen
    exact cmps ⟨#[61]⟩ x y h (by simp) (by subst h; exact hR)
  · obtain ⟨x, y, h⟩ := len2 hlen
    exact cmps ⟨#[60, 62]⟩ x y h (by simp) (by subst h; exact hR)
  · obtain ⟨x, y, h⟩ := len2 hlen
    exact cmps ⟨#[60]⟩ x y h (by simp) (by subst h; exact hR)
  · obtain ⟨x, y, h⟩ := len2 hlen
    exact cmps ⟨#[60, 61]⟩ x y h (by simp) (by subst h; exact hR)
  · obtain ⟨x, y, h⟩ := len2 hlen
    exact cmps ⟨#[62]⟩ x y h (by simp) (by subst h; exact hR)
  · obtain ⟨x, y, h⟩ := len2 hlen
    exact cmps ⟨#[62, 61]⟩ x y h (by simp) (by subst h; exact hR)
  · obtain ⟨x, y, h⟩ := len2 hlen
    exact five ⟨#[43]⟩ x y h (by decide) (by subst h; exact hR)
  · obtain ⟨x, y, h⟩ := len2 hlen
    exact five ⟨#[45]⟩ x y h (by decide) (by subst h; exact hR)
  · obtain ⟨x, y, h⟩ := len2 hlen
    exact five ⟨#[42]⟩ x y h (by decide) (by subst h; exact hR)
  · obtain ⟨x, y, h⟩ := len2 hlen
    exact five ⟨#[47]⟩ x y h (by decide) (by subst h; exact hR)
  · obtain ⟨x, y, h⟩ := len2 hlen
    exact five ⟨#[37]⟩ x y h (by decide) (by subst h; exact hR)
  · obtain ⟨x, rfl⟩ := len1 hlen
    exact app_neg b off c N (by rw [← hN]; exact Nat.le_refl _) _ _ _ w hbl (one_of hc (j := 0) (by simp) off (by omega)) (hb x (by simp)).2 t k s e hR
  · obtain ⟨x, rfl⟩ := len1 hlen
    replace hR : (((1 : Int), (x.2.2.size : Int), (⟨#[]⟩ : ByteArray)), (0 : Int)) = ((t, k, s), e) := hR
    simp only [Prod.mk.injEq] at hR
    obtain ⟨⟨rfl, rfl, rfl⟩, rfl⟩ := hR
    exact app_len b off c N (by rw [← hN]; exact Nat.le_refl _) _ _ _ w hbl (one_of hc (j := 0) (by simp) off (by omega))
  · obtain ⟨x, y, z, rfl⟩ := len3 hlen
    replace hR : (if isY x = true then y else z, (0 : Int)) = ((t, k, s), e) := hR
    have cI := app_if b off c N (by rw [← hN]; exact Nat.le_refl _) _ _ _ _ _ _ _ _ _ w hbl (one_of hc (j := 0) (by simp) off (by omega)) (one_of hc (j := 1) (by simp) (off + 3) (by omega)) (one_of hc (j := 2) (by simp) (off + 6) (by omega))
    refine cI.mono fun e' w' h => ⟨?_, h.2⟩
    rw [h.1]
    obtain ⟨hyz, rfl⟩ := Prod.mk.inj hR
    unfold isY at hyz
    simp only [List.getElem_cons_zero, List.getElem_cons_succ]
    split at hyz
    · rename_i hbb
      subst hyz
      rw [if_pos hbb]
      rfl
    · rename_i hbb
      subst hyz
      rw [if_neg hbb]
      rfl
end Go.Proofs.YtkoejkpjkcejcabDoor
namespace Go.Proofs.YtkoejkpjkcejcabDoor
open Go.RowKit Go.BigFrame
set_option linter.unusedVariables false

theorem vlE_at {vs : List V3} {k : Nat} (h : k < vs.length) : vlE (vs.drop k) = if chk vs[k].1 vs[k].2.1 vs[k].2.2.data.toList ≠ 0 then chk vs[k].1 vs[k].2.1 vs[k].2.2.data.toList else vlE (vs.drop (k + 1)) := by
  rw [List.drop_eq_getElem_cons h, vlE]
theorem map_take {vs : List V3} {k : Nat} (h : k < vs.length) : (vs.take k).map (·.1) ++ [vs[k].1] = (vs.take (k + 1)).map (·.1) := by
  rw [List.take_add_one, List.getElem?_eq_getElem h, List.map_append]
  rfl
set_option maxHeartbeats 8000000 in
set_option maxRecDepth 20000 in
theorem do_any (op : ByteArray) (p : Option Addr) (c N : Nat) (vs : List V3) (w : World) (henv : REnv w) (hN : vs.length = N) (hl : N ≤ 1048576) (hvs : ValsAt w p vs) (hsz : ∀ v ∈ vs, v.2.2.size ≤ maxLen ∧ inB v.2.1) (T K : Int) (S : ByteArray) (E : Int) (hR : doP op.data.toList vs = ((T, K, S), E)) :
    Calls Tryd.prog 12 #[.string op, .slice p N c] w fun e w' => e = .returned (.tuple #[.agg #[.int .i64 T, .int .i64 K, .string S], errV E]) ∧ Below w.heap.size w w' := by
  obtain ⟨i0, hi, hz0, hz1, hzz⟩ := info_parts info_int
  obtain ⟨b1, box⟩ := box_res w
  have HEN : Aside (REnv w) := henv
  have HVS : Aside (ValsAt w p vs) := hvs
  have HSZ : Aside (∀ v ∈ vs, v.2.2.size ≤ maxLen ∧ inB v.2.1) := hsz
  have HR : Hid (doP op.data.toList vs = ((T, K, S), E)) := hR
  have HN : Hid (vs.length = N) := hN
  have BOX : Hid (∀ W, Below (w.heap.size + 1) (w.alloc (.cells #[.int .i64 0, .int .i64 0, .string ⟨#[]⟩] 23)) W → (W.cell? ⟨w.heap.size, 0, none⟩ = some (.int .i64 0) ∧ W.cell? ⟨w.heap.size, 1, none⟩ = some (.int .i64 0) ∧ W.cell? ⟨w.heap.size, 2, none⟩ = some (.string ⟨#[]⟩) ∧ (∀ o, W.frozen? ⟨w.heap.size, o, none⟩ = false) ∧ w.heap.size < W.heap.size) ∧ Below w.heap.size w W) := box
  have hNz : (N : Int) ≤ 1048576 := by omega
  clear henv hvs hsz hR box hN b1
  go_enter Tryd.func12, Tryd.ntmps12
  go_wp2
  go_loopg [6, 8, 9, 16] N (fun gg s6 _ _ s16 wr => ∃ (kk : Nat) (acc : List Int) (q : Option Addr) (cp : Nat), kk ≤ N ∧ N - kk ≤ gg ∧ s16 = .int .i64 kk ∧ s6 = .slice q kk cp ∧ Aside (wr.ownsRow (w.heap.size + 1) 3 1 (.slice q kk cp) kk (acc.map fun t => .int .i64 t)) ∧ Aside (Below (w.heap.size + 1) (w.alloc (.cells #[.int .i64 0, .int .i64 0, .string ⟨#[]⟩] 23)) wr) ∧ Hid (vlE (vs.drop kk) = vlE vs ∧ acc = (vs.take kk).map (·.1)))
  case atStart => exact ⟨0, [], none, 0, Nat.zero_le _, by omega, rfl, rfl, (show Aside _ from ⟨rfl, .inl ⟨rfl, rfl⟩⟩), (show Aside _ from Below.refl _ _), (show Hid _ from ⟨rfl, rfl⟩)⟩
  case round =>
    obtain ⟨kk, acc, q, cp, hkk, hg, rfl, rfl, OW, BW, HG⟩ := hrel
    obtain ⟨⟨f0, f1, f2, ff, hl0⟩, bwr⟩ := BOX.out wr BW.out
    by_cases hlt : kk < N
    · have hltz : (kk : Int) < (N : Int) := by omega
      have h0z : (0 : Int) ≤ (kk : Int) := by omega
      have hk2 : kk < vs.length := by rw [HN.out]; exact hlt
      rcases HVS.out.on bwr with h | ⟨b, off, rfl, hbl, hc⟩
      · exact absurd h (by omega)
      obtain ⟨e0, e1, e2⟩ := hc kk hk2
      have hat := vlE_at hk2
      rw [HG.out.1] at hat
      have hszk := (HSZ.out _ (List.getElem_mem hk2)).1
      have hmt := map_take hk2
      generalize hve : vs[kk] = ve at e0 e1 e2 hat hszk hmt
      obtain ⟨t, n, s⟩ := ve
      simp only at e0 e1 e2 hat hszk hmt
      have HAT : Hid (vlE vs = if chk t n s.data.toList ≠ 0 then chk t n s.data.toList else vlE (vs.drop (kk + 1))) := hat
      have HMT : Hid (acc ++ [t] = (vs.take (kk + 1)).map (·.1)) := by rw [HG.out.2]; exact hmt
      have HKL : Hid (kk < N) := hlt
      clear hc hat hmt hk2 hve
      by_cases hck : chk t n s.data.toList = 0
      · have cC := check_ok t n s (wr.alloc (.cells #[.int .i64 t, .int .i64 n, .string s] 23)) hszk hck
        have HG2 : Hid (vlE (vs.drop (kk + 1)) = vlE vs ∧ acc ++ [t] = (vs.take (kk + 1)).map (·.1)) := by
          have h := HAT.out
          rw [if_neg (fun hh => hh hck)] at h
          exact ⟨h.symm, HMT.out⟩
        clear HAT HG hck
        go_wp2_with fail
        refine cC.mono ?_
        rintro e w4 ⟨rfl, b4⟩
        have hz4 : wr.heap.size + 1 ≤ w4.heap.size := by have := b4.size; simpa using this
        have hzr : w.heap.size + 1 ≤ wr.heap.size := hl0
        obtain ⟨k1, k2, hl1⟩ := box_at wr _ _ b4 (by simp)
        have g0 : w4.cell? ⟨wr.heap.size, 0, none⟩ = some (.int .i64 t) := k1 0
        have b5 : Below (w.heap.size + 1) wr w4 := ((Below.refl _ wr).alloc (by omega) _).trans (b4.mono (by simp; omega))
        have OW4 := own_but (OW.out.alloc (.cells #[.int .i64 t, .int .i64 n, .string s] 23)) (But.of_below' (r := 0) b4 (Nat.zero_le _)) (by omega)
        have BW5 : Aside (Below (w.heap.size + 1) (w.alloc (.cells #[.int .i64 0, .int .i64 0, .string ⟨#[]⟩] 23)) w4) := BW.out.trans b5
        clear cC b4 e0 e1 e2 OW k1 b5
        go_wp2_with (at_builtin; refine wpList_append_own _ rfl _ _ 70 rfl (w.heap.size + 1) 3 i0 (.int .i64 0) 1 8 Tryd.underlying70 hi hz0 hz1 hzz rfl (by decide) _ _ _ rfl (OW4.alloc _) ⟨w4.heap.size, 0, none⟩ 1 1 [.int .i64 t] rfl rfl ?c1 ?c2 ?c3 ?c4 ?c5 ?_)
        case c1 =>
          intro i u hu
          rw [Go.WideShapes.add_plain, World.cell?_alloc_at _ _ _ _ (by simp)]
          simpa using hu
        case c2 =>
          intro u hu
          simp at hu
          subst hu; rfl
        case c3 => simp [maxLen]; omega
        case c4 => omega
        case c5 => simp; omega
        · intro v' w5 hown' hgrow _
          have hlo3 : ∀ j, (Value.slice q kk cp).ownBlock = some j → w.heap.size + 1 ≤ j := fun j hj => (OW4.lt j hj).1
          have bg : Below (w.heap.size + 1) w4 w5 := ((Below.refl _ _).alloc (by omega) _).grown hgrow (by simp; omega) hlo3
          have BW6 : Aside (Below (w.heap.size + 1) (w.alloc (.cells #[.int .i64 0, .int .i64 0, .string ⟨#[]⟩] 23)) w5) := BW5.out.trans bg
          obtain ⟨q5, c5, rfl⟩ := lown_slice hown'
          have ow6 : w5.ownsRow (w.heap.size + 1) 3 1 (.slice q5 (kk + 1) c5) (kk + 1) ((acc ++ [t]).map fun t => .int .i64 t) := by rw [List.map_append]; exact hown'
          clear hown' hgrow OW4 bg BW5
          go_wp2
          go_roundg (N - (kk + 1))
          case measure => have := HKL.out; omega
          case rel => exact ⟨kk + 1, acc ++ [t], q5, c5, by have := HKL.out; omega, by omega, by go_num, rfl, (show Aside _ from ow6), BW6, HG2⟩
      · have cC := check_bad t n s (wr.alloc (.cells #[.int .i64 t, .int .i64 n, .string s] 23)) hszk hck
        have hfin := HR.out
        have hat := HAT.out
        rw [if_pos hck] at hat
        unfold doP at hfin
        rw [if_pos (by rw [hat]; exact hck), hat] at hfin
        simp only [noV, Prod.mk.injEq] at hfin
        obtain ⟨⟨rfl, rfl, rfl⟩, rfl⟩ := hfin
        have HCK : Hid (chk t n s.data.toList ≠ 0) := hck
        clear hat HAT hck HR
        go_wp2_with fail
        refine cC.mono ?_
        rintro e w4 ⟨rfl, b4⟩
        have b5 : Below (w.heap.size + 1) wr w4 := ((Below.refl _ wr).alloc (by omega) _).trans (b4.mono (by simp; omega))
        obtain ⟨⟨f0, f1, f2, ff, hl4⟩, b6⟩ := BOX.out w4 (BW.out.trans b5)
        clear cC b4 e0 e1 e2 b5
        go_wp2
        refine bodyPost_ret (v := .tuple #[.agg #[.int .i64 0, .int .i64 0, .string ⟨#[]⟩], .iface 37 (.int .i64 (chk t n s.data.toList))]) (by simp [results, Tryd.results12, go_sem, World.cell?_setCell_other, World.cell?_setCell_same, f0, f1, f2]) rfl ⟨by rw [errV, if_neg HCK.out], ?_⟩
        exact below3 b6 (Nat.le_refl _) _ _ _
    · have hltz : ¬ (kk : Int) < (N : Int) := by omega
      have hkN : kk = N := by omega
      subst hkN
      have hacc : acc = vs.map (·.1) := by rw [HG.out.2, List.take_of_length_le (by rw [HN.out]; exact Nat.le_refl _)]
      have hvz : vlE vs = 0 := by rw [← HG.out.1, List.drop_eq_nil_of_le (by rw [HN.out]; exact Nat.le_refl _)]; rfl
      have hla : acc.length = kk := by rw [hacc, List.length_map]; exact HN.out
      obtain ⟨RT, RE, hrr⟩ : ∃ RT RE, ruleP op.data.toList acc = (RT, RE) := ⟨_, _, rfl⟩
      have cR := rule_any op q cp kk acc wr (HEN.out.on bwr) hla (by omega) (ownInts hla OW.out) RT RE hrr
      have hfin := HR.out
      unfold doP at hfin
      rw [if_neg (fun hh => hh hvz), ← hacc, hrr] at hfin
      simp only at hfin
      by_cases hE : RE = 0
      · subst hE
        rw [if_neg (by simp)] at hfin
        rw [show errV 0 = .nilIface from rfl] at cR
        rw [hacc] at hrr
        have cA := fun W (hb : Below w.heap.size w W) => app_any op p c kk vs W HN.out (HVS.out.on hb) (vlE_zero.1 hvz) HSZ.out RT hrr T K S E hfin
        have hS : S.size ≤ 40 := by
          rcases app_comes (vlE_zero.1 hvz) (fun v hv => (HSZ.out v hv).2) hrr with h | h
          · rw [hfin] at h
            have := chk_size h.2.2.1
            simpa using this
          · rw [hfin] at h
            simp only [noV, Prod.mk.injEq] at h
            rw [h.1.2.2]
            decide
        have cF := fresh_any T K S
        clear hacc hvz hla hrr HR HG OW hfin HVS HSZ HN HEN
        go_wp2_with fail
        refine cR.mono ?_
        rintro e w4 ⟨rfl, b4⟩
        have B4 : Below (w.heap.size + 1) (w.alloc (.cells #[.int .i64 0, .int .i64 0, .string ⟨#[]⟩] 23)) w4 := BW.out.trans (b4.mono hl0)
        have cA4 := cA w4 (BOX.out w4 B4).2
        clear cR cA b4
        go_wp2_with fail
        refine cA4.mono ?_
        rintro e w5 ⟨rfl, b5⟩
        have B5 := B4.trans (b5.mono (BOX.out w4 B4).1.2.2.2.2)
        have B6 := B5.alloc (BOX.out w5 B5).1.2.2.2.2 (.cells #[.int .i64 T, .int .i64 K, .string S] 23)
        have cF6 := cF (w5.alloc (.cells #[.int .i64 T, .int .i64 K, .string S] 23)) hS
        have hl5 := (BOX.out w5 B5).1.2.2.2.2
        clear cA4 cF b5
        go_wp2_with fail
        refine cF6.mono ?_
        rintro e w7 ⟨rfl, b7⟩
        obtain ⟨⟨f0, f1, f2, ff, hl7⟩, b8⟩ := BOX.out w7 (B6.trans (b7.mono (by simp; omega)))
        clear cF6 b7 B4 B5 B6
        go_wp2
        refine bodyPost_ret (v := .tuple #[.agg #[.int .i64 T, .int .i64 K, .string S], errV E]) (by simp [results, Tryd.results12, go_sem, World.cell?_setCell_other, World.cell?_setCell_same, f0, f1, f2]) rfl ⟨rfl, ?_⟩
        exact below3 b8 (Nat.le_refl _) _ _ _
      · rw [if_pos hE] at hfin
        simp only [noV, Prod.mk.injEq] at hfin
        obtain ⟨⟨rfl, rfl, rfl⟩, rfl⟩ := hfin
        have cR2 : Calls Tryd.prog 31 #[.string op, .slice q kk cp] wr fun e w' => e = .returned (.tuple #[.int .i64 RT, .iface 37 (.int .i64 RE)]) ∧ Below wr.heap.size wr w' := cR.mono fun e w' h => by rw [errV, if_neg hE] at h; exact h
        have HCK : Hid (RE ≠ 0) := hE
        clear hacc hvz hla hrr HR HG OW HVS HSZ HN HEN cR hE
        go_wp2_with fail
        refine cR2.mono ?_
        rintro e w4 ⟨rfl, b4⟩
        obtain ⟨⟨f0, f1, f2, ff, hl4⟩, b6⟩ := BOX.out w4 (BW.out.trans (b4.mono hl0))
        clear cR2 b4
        go_wp2
        refine bodyPost_ret (v := .tuple #[.agg #[.int .i64 0, .int .i64 0, .string ⟨#[]⟩], .iface 37 (.int .i64 RE)]) (by simp [results, Tryd.results12, go_sem, World.cell?_setCell_other, World.cell?_setCell_same, f0, f1, f2]) rfl ⟨by rw [errV, if_neg HCK.out], ?_⟩
        exact below3 b6 (Nat.le_refl _) _ _ _
end Go.Proofs.YtkoejkpjkcejcabDoor
namespace Go.Proofs.YtkoejkpjkcejcabDoor
open Go.RowKit Go.BigFrame
set_option linter.unusedVariables false

def rcGo : List (ByteArray × Int) → List V3 → Int
  | z :: zs, r :: rs => if chk r.1 r.2.1 r.2.2.data.toList ≠ 0 then chk r.1 r.2.1 r.2.2.data.toList else if r.1 ≠ z.2 then 8 else rcGo zs rs
  | _, _ => 0
/-- The fault of a row of a schema. -/
def rowChk (zs : List (ByteArray × Int)) (rs : List V3) : Int := if schE zs ≠ 0 then schE zs else if rs.length ≠ zs.length then 3 else rcGo zs rs
theorem rcGo_at {zs : List (ByteArray × Int)} {rs : List V3} {k : Nat} (hz : k < zs.length) (hr : k < rs.length) :
    rcGo (zs.drop k) (rs.drop k) = if chk rs[k].1 rs[k].2.1 rs[k].2.2.data.toList ≠ 0 then chk rs[k].1 rs[k].2.1 rs[k].2.2.data.toList else if rs[k].1 ≠ zs[k].2 then 8 else rcGo (zs.drop (k + 1)) (rs.drop (k + 1)) := by
  rw [List.drop_eq_getElem_cons hz, List.drop_eq_getElem_cons hr, rcGo]
set_option maxHeartbeats 4000000 in
theorem rowCheck_v (lv rv : Value) (zs : List (ByteArray × Int)) (rs : List V3) (w : World) (hw : TW w) (hl : ColsV w lv zs) (hr : ValsV w rv rs) (hsz : SizedV rs) :
    Calls Tryd.prog 8 #[lv, rv] w fun e w' => e = .returned (errV (rowChk zs rs)) ∧ Below w.heap.size w w' := by
  have cS := schemaV lv zs w hw hl
  obtain ⟨K, hK⟩ : ∃ K, rowChk zs rs = K := ⟨_, rfl⟩
  rw [hK]
  rw [rowChk] at hK
  by_cases h0 : schE zs = 0
  · rw [if_neg (by simpa using h0)] at hK
    rw [h0, show errV 0 = .nilIface from rfl] at cS
    have hz0 := (schE_zero h0).1
    have hzm := (schE_zero h0).2.1
    obtain ⟨zp, zc, rfl, hzz⟩ := hl
    obtain ⟨rp, rc, rfl, hrm, hrr⟩ := hr
    clear h0
    by_cases hle : rs.length = zs.length
    · rw [if_neg (by simpa using hle)] at hK
      rcases hzz with h | ⟨zb, zo, rfl, _, _, hzi⟩
      · exact absurd h hz0
      · rcases hrr with h | ⟨rb, ro, rfl, hrl, hri⟩
        · exact absurd (hle.symm.trans h) hz0
        · have hlez : (rs.length : Int) = (zs.length : Int) := by omega
          have hqz : ((rs.length : Int) != (zs.length : Int)) = false := by rw [hlez]; simp
          have HK : Hid (rcGo zs rs = K) := hK
          unfold maxLen at hrm
          clear hK
          go_enter Tryd.func8, Tryd.ntmps8
          go_wp2_with fail
          refine cS.mono ?_
          rintro e w0 ⟨rfl, b0⟩
          go_wp2
          go_loopg [6, 7, 8, 22] rs.length (fun gg _ _ _ s22 wr => ∃ kk : Nat, kk ≤ rs.length ∧ rs.length - kk ≤ gg ∧ s22 = .int .i64 kk ∧ Aside (Below w.heap.size w wr) ∧ Hid (K = rcGo (zs.drop kk) (rs.drop kk)))
          case atStart => exact ⟨0, Nat.zero_le _, by omega, rfl, b0, (show Hid _ by simp [Hid, HK.out])⟩
          case round =>
            obtain ⟨kk, hkk, hg, rfl, BW, HS⟩ := hrel
            by_cases hlt : kk < rs.length
            · have hltz : (kk : Int) < (rs.length : Int) := by omega
              have hltz2 : (kk : Int) < (zs.length : Int) := by omega
              have k0 : (0 : Int) ≤ (kk : Int) := by omega
              obtain ⟨c0, c1, c2⟩ := hri kk hlt
              have kR : ∀ o, wr.cell? ⟨rb, o, none⟩ = w.cell? ⟨rb, o, none⟩ := fun o => BW.out.cell (p := ⟨rb, o, none⟩) hrl
              rw [← kR] at c0 c1 c2
              have hrlr : rb < wr.heap.size := by have := BW.out.size; omega
              clear kR
              have hltn : kk < zs.length := by omega
              have HS2 : Hid (K = _) := HS.out.trans (rcGo_at hltn hlt)
              obtain ⟨hs1, hn1⟩ := hsz _ (List.getElem_mem hlt)
              have hzi2 := (hzi.on BW.out)
              obtain ⟨d0, d1⟩ := hzi2.2 kk hltn
              have hzl := hzi2.1
              generalize hy : rs[kk] = y at c0 c1 c2 HS2 hs1 hn1
              generalize hyz : zs[kk] = z at d0 d1 HS2
              obtain ⟨yt, yn, ys⟩ := y
              obtain ⟨zn, zt⟩ := z
              simp only at c0 c1 c2 d0 d1 HS2 hs1 hn1
              have B1 := BW.out.alloc BW.out.size (.cells #[.int .i64 yt, .int .i64 yn, .string ys] 23)
              have cC := check_any yt yn ys (wr.alloc (.cells #[.int .i64 yt, .int .i64 yn, .string ys] 23)) hs1
              obtain ⟨ce, hce⟩ : ∃ ce, chk yt yn ys.data.toList = ce := ⟨_, rfl⟩
              rw [hce] at cC
              have HS3 : Hid (K = if ce ≠ 0 then ce else if yt ≠ zt then 8 else rcGo (zs.drop (kk + 1)) (rs.drop (kk + 1))) := by
                rw [← hce]; exact HS2
              have e1 := errK_neq ce
              have e2 := errK_gneq ce
              clear HS HS2 hy hyz hce hsz
              go_wp2_with fail
              refine cC.mono ?_
              rintro e w1 ⟨rfl, b1⟩
              obtain ⟨hc1, hf1⟩ := bcell b1
              have l1 : wr.heap.size < w1.heap.size := by have := b1.size; simp at this; omega
              have q0 : w1.cell? ⟨wr.heap.size, 0, none⟩ = some (.int .i64 yt) := by
                rw [hc1 _ _ (by simp), World.cell?_alloc_at _ _ _ _ rfl]; rfl
              have g1 : w1.cell? ⟨zb, zo + kk * 2 + 1, none⟩ = some (.int .i64 zt) := by
                rw [hc1 _ _ (by simp; omega), World.cell?_alloc_lt _ _ _ hzl]; exact d1
              have B2 := B1.trans (b1.mono B1.size)
              clear hc1 hf1 b1 cC c0 c1 c2 d0 d1 B1 hzi2
              by_cases hz : ce = 0
              · have hb : (ce != 0) = false := by simpa using hz
                rw [hb] at e1
                by_cases htt : yt = zt
                · have hq : (yt != zt) = false := by simpa using htt
                  have HS4 : Hid (K = rcGo (zs.drop (kk + 1)) (rs.drop (kk + 1))) := by
                    have := HS3.out
                    rwa [if_neg (by simpa using hz), if_neg (by simpa using htt)] at this
                  clear HS3 hz hb htt
                  go_wp2
                  go_quiet (fail)
                  go_wp2
                  go_roundg (rs.length - (kk + 1))
                  case measure => omega
                  case rel => exact ⟨kk + 1, by omega, by omega, by go_num, by repeat (first | exact B2 | apply below_drewN | refine Below.drew ?_), HS4⟩
                · have hq : (yt != zt) = true := by simpa using htt
                  have HS4 : K = 8 := by
                    have := HS3.out
                    rwa [if_neg (by simpa using hz), if_pos htt] at this
                  subst HS4
                  clear HS3 hz hb htt
                  go_wp2
                  go_quiet (fail)
                  go_wp2
                  go_ret
                  exact ⟨rfl, by repeat (first | exact B2 | apply below_drewN | refine Below.drew ?_)⟩
              · have hb : (ce != 0) = true := by simpa using hz
                rw [hb] at e1
                have HS4 : K = ce := by
                  have := HS3.out
                  rwa [if_pos hz] at this
                subst HS4
                clear HS3 hz hb
                go_wp2
                go_ret
                exact ⟨rfl, B2⟩
            · have hltz : ¬ (kk : Int) < (rs.length : Int) := by omega
              have hkz : K = 0 := by
                rw [HS.out, List.drop_eq_nil_of_le (show zs.length ≤ kk by omega)]; rfl
              subst hkz
              clear HS HK
              go_wp2
              go_ret
              exact ⟨rfl, BW.out⟩
    · rw [if_pos hle] at hK
      subst hK
      have hqz : ((rs.length : Int) != (zs.length : Int)) = true := by simp; omega
      clear hle hzz hrr
      go_enter Tryd.func8, Tryd.ntmps8
      go_wp2_with fail
      refine cS.mono ?_
      rintro e w0 ⟨rfl, b0⟩
      go_wp2
      go_ret
      exact ⟨rfl, b0⟩
  · rw [if_pos h0] at hK
    rw [hK] at cS h0
    have HE : Hid (errV K = .iface 37 (.int .i64 K)) := by show errV K = _; rw [errV, if_neg h0]
    clear hK h0 hl hr
    go_enter Tryd.func8, Tryd.ntmps8
    go_wp2_with fail
    refine cS.mono ?_
    rintro e w0 ⟨rfl, b0⟩
    rw [HE.out]
    go_wp2
    go_ret
    exact ⟨by rw [HE.out]; rfl, b0⟩
end Go.Proofs.YtkoejkpjkcejcabDoor
namespace Go.Proofs.YtkoejkpjkcejcabDoor
open Go.RowKit Go.BigFrame
set_option linter.unusedVariables false

set_option maxHeartbeats 1000000 in
theorem columnOf_any (nm : ByteArray) (b off c : Nat) (zs : List (ByteArray × Int)) (rb ro rc : Nat) (rs : List V3) (w : World) (hn : zs.length ≤ 6) (hc : ColsIn w b off zs) (hrl : rb < w.heap.size) (hrc : ∀ j (h : j < rs.length), w.cell? ⟨rb, ro + j * 3, none⟩ = some (.int .i64 rs[j].1) ∧ w.cell? ⟨rb, ro + j * 3 + 1, none⟩ = some (.int .i64 rs[j].2.1) ∧ w.cell? ⟨rb, ro + j * 3 + 2, none⟩ = some (.string rs[j].2.2)) (k : Nat) (hk : findN nm.data.toList zs = k) (hkl : k < rs.length) (t n : Int) (s : ByteArray) (hv : rs[k] = (t, n, s)) :
    Calls Tryd.prog 50 #[.string nm, .slice (some ⟨b, off, none⟩) zs.length c, .slice (some ⟨rb, ro, none⟩) rs.length rc] w fun e w' => e = .returned (.tuple #[.agg #[.int .i64 t, .int .i64 n, .string s], .nilIface]) ∧ Below w.heap.size w w' := by
  obtain ⟨b1, box⟩ := box_res w
  have cF := find_any nm b off c zs (w.alloc (.cells #[.int .i64 0, .int .i64 0, .string ⟨#[]⟩] 23)) (by omega) (hc.on b1) k hk
  obtain ⟨e0, e1, e2⟩ := hrc k hkl
  rw [hv] at e0 e1 e2
  simp only at e0 e1 e2
  have hk0 : (0 : Int) ≤ (k : Int) := by omega
  have hk1 : (k : Int) < (rs.length : Int) := by omega
  clear hrc hc hk hv
  go_enter Tryd.func50, Tryd.ntmps50
  go_wp2_with fail
  refine cF.mono ?_
  rintro e w1 ⟨rfl, b2⟩
  obtain ⟨⟨f0, f1, f2, ff, hl⟩, b5⟩ := box w1 (b2.mono (by simp))
  have kR : ∀ o, w1.cell? ⟨rb, o, none⟩ = w.cell? ⟨rb, o, none⟩ := fun o => b5.cell (p := ⟨rb, o, none⟩) hrl
  rw [← kR] at e0 e1 e2
  have hrl1 : rb < w1.heap.size := by have := b5.size; omega
  clear cF box b1 b2 kR
  go_wp2
  refine bodyPost_ret (v := .tuple #[.agg #[.int .i64 t, .int .i64 n, .string s], .nilIface]) (by simp [results, Tryd.results50, go_sem, World.cell?_setCell_other, World.cell?_setCell_same, f0, f1, f2]) rfl ⟨rfl, ?_⟩
  exact below3 b5 (Nat.le_refl _) _ _ _
/-- The blocks that come makes at its beginning, wherever they are looked at later. -/
theorem come_box (w : World) (E : Array Value) : Below w.heap.size w ((w.alloc (.cells E 26)).alloc (.cells #[.int .i64 0, .int .i64 0, .string ⟨#[]⟩] 23)) ∧ ∀ wr, Below (w.heap.size + 2) ((w.alloc (.cells E 26)).alloc (.cells #[.int .i64 0, .int .i64 0, .string ⟨#[]⟩] 23)) wr → (∀ i, wr.cell? ⟨w.heap.size, i, none⟩ = E[i]?) ∧ (wr.cell? ⟨w.heap.size + 1, 0, none⟩ = some (.int .i64 0) ∧ wr.cell? ⟨w.heap.size + 1, 1, none⟩ = some (.int .i64 0) ∧ wr.cell? ⟨w.heap.size + 1, 2, none⟩ = some (.string ⟨#[]⟩) ∧ (∀ o, wr.frozen? ⟨w.heap.size + 1, o, none⟩ = false)) ∧ w.heap.size + 2 ≤ wr.heap.size ∧ Below w.heap.size w wr := by
  have b1 : Below w.heap.size w ((w.alloc (.cells E 26)).alloc (.cells #[.int .i64 0, .int .i64 0, .string ⟨#[]⟩] 23)) := ((Below.refl _ w).alloc (Nat.le_refl _) _).alloc (by simp) _
  refine ⟨b1, fun wr hb => ?_⟩
  have hz := hb.size
  simp at hz
  refine ⟨fun i => ?_, ⟨?_, ?_, ?_, fun o => ?_⟩, by omega, b1.trans (hb.mono (by omega))⟩
  · rw [hb.cell (p := ⟨w.heap.size, i, none⟩) (by simp), World.cell?_alloc_lt _ _ _ (by simp), World.cell?_alloc_at _ _ _ _ rfl]
  · rw [hb.cell (p := ⟨w.heap.size + 1, 0, none⟩) (by simp), World.cell?_alloc_at _ _ _ _ (by simp)]; rfl
  · rw [hb.cell (p := ⟨w.heap.size + 1, 1, none⟩) (by simp), World.cell?_alloc_at _ _ _ _ (by simp)]; rfl
  · rw [hb.cell (p := ⟨w.heap.size + 1, 2, none⟩) (by simp), World.cell?_alloc_at _ _ _ _ (by simp)]; rfl
  · rw [hb.frozen (p := ⟨w.heap.size + 1, o, none⟩) (by simp), World.frozen?_alloc_at _ _ _ _ (by simp)]
/-- The values of a row. -/
def RowAt (w : World) (rb ro : Nat) (rs : List V3) : Prop := rb < w.heap.size ∧ ∀ j (h : j < rs.length), w.cell? ⟨rb, ro + j * 3, none⟩ = some (.int .i64 rs[j].1) ∧ w.cell? ⟨rb, ro + j * 3 + 1, none⟩ = some (.int .i64 rs[j].2.1) ∧ w.cell? ⟨rb, ro + j * 3 + 2, none⟩ = some (.string rs[j].2.2)
theorem RowAt.on {w w' : World} {rb ro : Nat} {rs : List V3} (h : RowAt w rb ro rs) (hb : Below w.heap.size w w') : RowAt w' rb ro rs := by
  refine ⟨by have := hb.size; have := h.1; omega, fun j hj => ?_⟩
  obtain ⟨h1, h2, h3⟩ := h.2 j hj
  exact ⟨by rw [hb.cell (p := ⟨rb, _, none⟩) h.1]; exact h1, by rw [hb.cell (p := ⟨rb, _, none⟩) h.1]; exact h2, by rw [hb.cell (p := ⟨rb, _, none⟩) h.1]; exact h3⟩
/-- What come says of an expression. -/
def ComeAt (zs : List (ByteArray × Int)) (b off c rb ro rc : Nat) (rs : List V3) (x : Ex) : Prop := ∀ (lo : Nat → Prop) (v : Value) (w : World) (t k : Int) (s : ByteArray) (e : Int), REnv w → ExIn w lo v x → ColsIn w b off zs → RowAt w rb ro rs → cmP zs rs x = ((t, k, s), e) →
    Calls Tryd.prog 21 #[v, .slice (some ⟨b, off, none⟩) zs.length c, .slice (some ⟨rb, ro, none⟩) rs.length rc] w fun e' w' => e' = .returned (.tuple #[.agg #[.int .i64 t, .int .i64 k, .string s], errV e]) ∧ Below w.heap.size w w'
set_option maxHeartbeats 4000000 in
set_option maxRecDepth 20000 in
theorem come_leaf (zs : List (ByteArray × Int)) (b off c rb ro rc : Nat) (rs : List V3) (hn : zs.length ≤ 6) (hrow : RowR zs rs) (op nm vs : ByteArray) (vt vn pos : Int) (l : List Ex) (ht : (tyP zs (.node op nm vt vn vs pos l)).2.1 = 0) (hleaf : op.data.toList = [118, 97, 108] ∨ op.data.toList = [99, 111, 108]) : ComeAt zs b off c rb ro rc rs (.node op nm vt vn vs pos l) := by
  intro lo v w t k s e henv hx hc hr hR
  rw [ExIn] at hx
  obtain ⟨p, ca, rfl, ⟨hm, hmc⟩, ho, hnm, hvs, hparts⟩ := hx
  obtain ⟨b1, box⟩ := come_box w #[.string op, .string nm, .int .i64 vt, .int .i64 vn, .string vs, .slice p l.length ca, .int .i64 pos]
  by_cases h1 : op.data.toList = [118, 97, 108]
  · rw [cmP, if_pos h1] at hR
    simp only [Prod.mk.injEq] at hR
    obtain ⟨⟨rfl, rfl, rfl⟩, rfl⟩ := hR
    have q1 : (op.toList == [118, 97, 108]) = true := by rw [Lib.toList_data]; simpa using h1
    clear h1 ht hleaf henv hc hr hparts box
    go_enter Tryd.func21, Tryd.ntmps21
    go_wp2
    exact bodyPost_ret (v := .tuple #[.agg #[.int .i64 vt, .int .i64 vn, .string vs], .nilIface]) (by simp [results, Tryd.results21, go_sem]) rfl ⟨rfl, ((Below.refl _ w).alloc (Nat.le_refl _) _).alloc (by simp) _⟩
  · have h2 := hleaf.resolve_left h1
    rw [cmP, if_neg h1, if_pos h2] at hR
    rw [tyP, if_neg h1, if_pos h2] at ht
    have q1 : (op.toList == [118, 97, 108]) = false := by rw [Lib.toList_data]; simpa using h1
    have q2 : (op.toList == [99, 111, 108]) = true := by rw [Lib.toList_data]; simpa using h2
    rcases findN_cases nm.data.toList zs with ⟨h, _⟩ | ⟨j, hj, hlt, _⟩
    · rw [if_pos h] at ht
      exact absurd ht (by simp)
    have hjr : j < rs.length := by rw [hrow.1]; exact hlt
    rw [hj, Int.toNat_natCast, List.getElem?_eq_getElem hjr] at hR
    simp only [Option.getD_some, Prod.mk.injEq] at hR
    obtain ⟨hv, rfl⟩ := hR
    have cC := columnOf_any nm b off c zs rb ro rc rs ((w.alloc (.cells #[.string op, .string nm, .int .i64 vt, .int .i64 vn, .string vs, .slice p l.length ca, .int .i64 pos] 26)).alloc (.cells #[.int .i64 0, .int .i64 0, .string ⟨#[]⟩] 23)) hn (hc.on b1) (hr.on b1).1 (hr.on b1).2 j hj hjr t k s hv
    clear h1 h2 ht hleaf henv hc hr hparts hj hv
    go_enter Tryd.func21, Tryd.ntmps21
    go_wp2_with fail
    refine cC.mono ?_
    rintro e w1 ⟨rfl, b2⟩
    obtain ⟨_, ⟨f0, f1, f2, ff⟩, hl, b9⟩ := box w1 (b2.mono (by simp))
    have hl1 : w.heap.size + 1 < w1.heap.size := by omega
    clear cC box b1 b2
    go_wp2
    refine bodyPost_ret (v := .tuple #[.agg #[.int .i64 t, .int .i64 k, .string s], .nilIface]) (by simp [results, Tryd.results21, go_sem, World.cell?_setCell_other, World.cell?_setCell_same, f0, f1, f2]) rfl ⟨rfl, ?_⟩
    exact below3 b9 (by omega) _ _ _
theorem res3 {W : World} {b : Nat} {x0 x1 x2 : Value} (c0 : W.cell? ⟨b, 0, none⟩ = some x0) (c1 : W.cell? ⟨b, 1, none⟩ = some x1) (c2 : W.cell? ⟨b, 2, none⟩ = some x2) (hl : b < W.heap.size) (v0 v1 v2 : Value) (o : Obj) : ((((W.setCell ⟨b, 0, none⟩ v0).setCell ⟨b, 1, none⟩ v1).setCell ⟨b, 2, none⟩ v2).alloc o).cell? ⟨b, 0, none⟩ = some v0 ∧ ((((W.setCell ⟨b, 0, none⟩ v0).setCell ⟨b, 1, none⟩ v1).setCell ⟨b, 2, none⟩ v2).alloc o).cell? ⟨b, 1, none⟩ = some v1 ∧ ((((W.setCell ⟨b, 0, none⟩ v0).setCell ⟨b, 1, none⟩ v1).setCell ⟨b, 2, none⟩ v2).alloc o).cell? ⟨b, 2, none⟩ = some v2 := by
  rw [World.cell?_alloc_lt _ _ ⟨b, 0, none⟩ (by simpa [World.setCell] using hl), World.cell?_alloc_lt _ _ ⟨b, 1, none⟩ (by simpa [World.setCell] using hl), World.cell?_alloc_lt _ _ ⟨b, 2, none⟩ (by simpa [World.setCell] using hl)]
  refine ⟨?_, ?_, ?_⟩ <;> simp [World.cell?_setCell_other, World.cell?_setCell_same, c0, c1, c2]
/-- The cells of one of the parts, in a later world. -/
theorem part_at {w wr : World} {lo : Nat → Prop} {ba oa : Nat} {l : List Ex} (h : ∀ j (h : j < l.length), ∃ v0 v1 v2 v3 v4 v5 v6, w.cell? ⟨ba, oa + j * 7, none⟩ = some v0 ∧ w.cell? ⟨ba, oa + j * 7 + 1, none⟩ = some v1 ∧ w.cell? ⟨ba, oa + j * 7 + 2, none⟩ = some v2 ∧ w.cell? ⟨ba, oa + j * 7 + 3, none⟩ = some v3 ∧ w.cell? ⟨ba, oa + j * 7 + 4, none⟩ = some v4 ∧ w.cell? ⟨ba, oa + j * 7 + 5, none⟩ = some v5 ∧ w.cell? ⟨ba, oa + j * 7 + 6, none⟩ = some v6 ∧ ExIn w lo (.agg #[v0, v1, v2, v3, v4, v5, v6]) l[j]) (hb : Below w.heap.size w wr) (hbl : ba < w.heap.size) (j : Nat) (hj : j < l.length) :
    ∃ u0 u1 u2 u3 u4 u5 u6 u7 u8, wr.cell? ⟨ba, oa + j * 7, none⟩ = some (.string u0) ∧ wr.cell? ⟨ba, oa + j * 7 + 1, none⟩ = some (.string u1) ∧ wr.cell? ⟨ba, oa + j * 7 + 2, none⟩ = some (.int .i64 u2) ∧ wr.cell? ⟨ba, oa + j * 7 + 3, none⟩ = some (.int .i64 u3) ∧ wr.cell? ⟨ba, oa + j * 7 + 4, none⟩ = some (.string u4) ∧ wr.cell? ⟨ba, oa + j * 7 + 5, none⟩ = some (.slice u5 u6 u7) ∧ wr.cell? ⟨ba, oa + j * 7 + 6, none⟩ = some (.int .i64 u8) ∧ ExIn w lo (.agg #[.string u0, .string u1, .int .i64 u2, .int .i64 u3, .string u4, .slice u5 u6 u7, .int .i64 u8]) l[j] := by
  obtain ⟨v0, v1, v2, v3, v4, v5, v6, e0, e1, e2, e3, e4, e5, e6, hy⟩ := h j hj
  obtain ⟨u0, u1, u2, u3, u4, u5, u6, u7, u8, huu⟩ := hy.agg
  injection huu with huu
  simp only [Array.mk.injEq, List.cons.injEq, and_true] at huu
  obtain ⟨rfl, rfl, rfl, rfl, rfl, rfl, rfl⟩ := huu
  have kA : ∀ o, wr.cell? ⟨ba, o, none⟩ = w.cell? ⟨ba, o, none⟩ := fun o => hb.cell (p := ⟨ba, o, none⟩) hbl
  rw [← kA] at e0 e1 e2 e3 e4 e5 e6
  exact ⟨_, _, _, _, _, _, _, _, _, e0, e1, e2, e3, e4, e5, e6, hy⟩
end Go.Proofs.YtkoejkpjkcejcabDoor
namespace Go.Proofs.YtkoejkpjkcejcabDoor
open Go.RowKit
set_option linter.unusedVariables false

/-- A block as a whole. -/
def Blk (w : World) (b : Nat) (cs : Array Value) (t : TypeId) : Prop := w.heap[b]? = some (.cells cs t (0, 0))
theorem Blk.lt {w : World} {b : Nat} {cs : Array Value} {t : TypeId} (h : Blk w b cs t) : b < w.heap.size := lt_of_block h
theorem Blk.cell {w : World} {b : Nat} {cs : Array Value} {t : TypeId} (h : Blk w b cs t) (i : Nat) : w.cell? ⟨b, i, none⟩ = cs[i]? := by unfold Blk at h; simp [World.cell?, h]
theorem Blk.frozen {w : World} {b : Nat} {cs : Array Value} {t : TypeId} (h : Blk w b cs t) (i : Nat) : w.frozen? ⟨b, i, none⟩ = false := frozen_of_row w b i cs t h
theorem Blk.keep {w w' : World} {b : Nat} {cs : Array Value} {t : TypeId} (h : Blk w b cs t) (hk : w'.heap[b]? = w.heap[b]?) : Blk w' b cs t := by unfold Blk at *; rw [hk]; exact h
theorem Blk.set {w : World} {b : Nat} {cs : Array Value} {t : TypeId} (h : Blk w b cs t) (i : Nat) (v : Value) : Blk (w.setCell ⟨b, i, none⟩ v) b (cs.setIfInBounds i v) t := heap_setCell_same w b i cs t v h
theorem Blk.far {w : World} {b z : Nat} {cs : Array Value} {t : TypeId} (h : Blk w b cs t) (hz : b ≠ z) (i : Nat) (v : Value) : Blk (w.setCell ⟨z, i, none⟩ v) b cs t := h.keep (heap_setCell_other w _ b v hz)
theorem Blk.but {w w' : World} {r b : Nat} {cs : Array Value} {t : TypeId} (h : Blk w b cs t) (hb : But r w w') (hr : b ≠ r) : Blk w' b cs t := h.keep (hb.kept b h.lt hr)
theorem Blk.on {w w' : World} {b : Nat} {cs : Array Value} {t : TypeId} (h : Blk w b cs t) (hb : Below w.heap.size w w') : Blk w' b cs t := h.keep (hb.block b h.lt)
theorem Blk.grown {w w' : World} {b : Nat} {cs : Array Value} {t : TypeId} {row : Option Nat} (h : Blk w b cs t) (hg : w.grownBy w' row) (hr : some b ≠ row) : Blk w' b cs t := h.keep (hg.block b h.lt hr)
theorem blk_alloc (w : World) (cs : Array Value) (t : TypeId) : Blk (w.alloc (.cells cs t)) w.heap.size cs t := by
  show (w.heap.push _)[_]? = _
  rw [Array.getElem?_push_size]
/-- All blocks from B on stay as they were. -/
def KeepB (B : Nat) (w w' : World) : Prop := w.heap.size ≤ w'.heap.size ∧ ∀ b, B ≤ b → b < w.heap.size → w'.heap[b]? = w.heap[b]?
theorem KeepB.refl (B : Nat) (w : World) : KeepB B w w := ⟨Nat.le_refl _, fun _ _ _ => rfl⟩
theorem KeepB.trans {B : Nat} {w w1 w2 : World} (h : KeepB B w w1) (k : KeepB B w1 w2) : KeepB B w w2 := ⟨Nat.le_trans h.1 k.1, fun b h1 h2 => by rw [k.2 b h1 (by have := h.1; omega), h.2 b h1 h2]⟩
theorem KeepB.but {B r : Nat} {w w' : World} (h : But r w w') (hr : r < B) : KeepB B w w' := ⟨h.size, fun b h1 h2 => h.kept b h2 (by omega)⟩
theorem KeepB.on {B : Nat} {w w' : World} (h : Below w.heap.size w w') : KeepB B w w' := ⟨h.size, fun b _ h2 => h.block b h2⟩
theorem KeepB.set {B z : Nat} (w : World) (i : Nat) (v : Value) (hz : z < B) : KeepB B w (w.setCell ⟨z, i, none⟩ v) := ⟨by simp [World.setCell], fun b h1 _ => heap_setCell_other w _ b v (by show b ≠ z; omega)⟩
theorem own_keep {w w' : World} {B B' : Nat} {e : TypeId} {size n : Nat} {v : Value} {xs : List Value} (h : w.ownsRow B e size v n xs) (hk : KeepB B' w w') (hB : B' ≤ B) : w'.ownsRow B e size v n xs := by
  refine ⟨h.1, ?_⟩
  rcases h.2 with hn | ⟨g, cap, cur, rfl, h1, hgg, rest⟩
  · exact .inl hn
  · exact .inr ⟨g, cap, cur, rfl, h1, by rw [hk.2 g (by omega) (Array.getElem?_eq_some_iff.1 hgg).1]; exact hgg, rest⟩
/-- All that was there is kept but the blocks of S. -/
structure Kp (S : Nat → Prop) (w w' : World) : Prop where
  low : Below 0 w w'
  kept : ∀ k, k < w.heap.size → ¬ S k → w'.heap[k]? = w.heap[k]?
theorem Kp.size {S : Nat → Prop} {w w' : World} (h : Kp S w w') : w.heap.size ≤ w'.heap.size := h.low.size
theorem Kp.refl (S : Nat → Prop) (w : World) : Kp S w w := ⟨Below.refl _ _, fun _ _ _ => rfl⟩
theorem Kp.trans {S : Nat → Prop} {w w1 w2 : World} (h : Kp S w w1) (k : Kp S w1 w2) : Kp S w w2 :=
  ⟨h.low.trans k.low, fun b hb hs => by rw [k.kept b (by have := h.size; omega) hs, h.kept b hb hs]⟩
theorem Kp.mono {S S' : Nat → Prop} {w w1 : World} (h : Kp S w w1) (hs : ∀ k, k < w.heap.size → S k → S' k) : Kp S' w w1 := ⟨h.low, fun b hb hn => h.kept b hb (fun e => hn (hs b hb e))⟩
theorem Kp.of_below {S : Nat → Prop} {w w1 : World} (h : Below w.heap.size w w1) : Kp S w w1 := ⟨h.mono (Nat.zero_le _), fun b hb _ => h.block b hb⟩
theorem Kp.below {S : Nat → Prop} {w w1 : World} {B : Nat} (h : Kp S w w1) (hB : B ≤ w.heap.size) (hs : ∀ k, k < B → ¬ S k) : Below B w w1 :=
  ⟨h.low.os, h.low.tape, h.low.output, h.low.size, fun k hk => h.kept k (by omega) (hs k hk)⟩
theorem Kp.on {S : Nat → Prop} {w w1 w2 : World} (h : Kp S w w1) (k : Below w1.heap.size w1 w2) : Kp S w w2 := h.trans (Kp.of_below k)
theorem Kp.set {S : Nat → Prop} {w w1 : World} (h : Kp S w w1) {b : Nat} (o : Nat) (v : Value) (hs : b < w.heap.size → S b) : Kp S w (w1.setCell ⟨b, o, none⟩ v) :=
  ⟨h.low.setCell (p := ⟨b, o, none⟩) (Nat.zero_le _) v, fun k hk hn => by rw [Below.heap_setCell _ _ _ _ (fun e => by simp at e; subst e; exact hn (hs hk))]; exact h.kept k hk hn⟩
theorem Kp.drew {S : Nat → Prop} {w w1 : World} (h : Kp S w w1) : Kp S w w1.drew := ⟨h.low.drew, h.kept⟩
theorem Kp.alloc {S : Nat → Prop} {w w1 : World} (h : Kp S w w1) (o : Obj) : Kp S w (w1.alloc o) := h.on ((Below.refl _ _).alloc (Nat.le_refl _) o)
theorem Kp.grown {S : Nat → Prop} {w w1 w2 : World} {row : Option Nat} (h : Kp S w w1) (hg : w1.grownBy w2 row) (hr : ∀ k, row = some k → k < w.heap.size → S k) : Kp S w w2 :=
  ⟨h.low.grown hg (Nat.zero_le _) (fun _ _ => Nat.zero_le _), fun k hk hn => by rw [hg.block k (by have := h.size; omega) (fun e => hn (hr k e.symm hk))]; exact h.kept k hk hn⟩
theorem Kp.cell {S : Nat → Prop} {w w1 : World} (h : Kp S w w1) {b : Nat} (o : Nat) (hb : b < w.heap.size) (hs : ¬ S b) : w1.cell? ⟨b, o, none⟩ = w.cell? ⟨b, o, none⟩ := by
  simp only [World.cell?, h.kept b hb hs]
theorem Blk.kp {S : Nat → Prop} {w w1 : World} {b : Nat} {cs : Array Value} {t : TypeId} (h : Blk w b cs t) (hf : Kp S w w1) (hs : ¬ S b) : Blk w1 b cs t := h.keep (hf.kept b h.lt hs)
theorem Blk.there {w : World} {b : Nat} {cs : Array Value} {t : TypeId} (h : Blk w b cs t) (o n : Nat) (hn : o + n ≤ cs.size) : w.there b o n := fun j hj => by
  refine ⟨?_, h.frozen _⟩
  rw [h.cell, Array.getElem?_eq_getElem (by omega)]
  rfl
def putA : Array Value → Nat → List Value → Array Value
  | cs, _, [] => cs
  | cs, o, v :: r => putA (cs.setIfInBounds o v) (o + 1) r
theorem Blk.cells {b : Nat} {t : TypeId} : ∀ (vs : List Value) (o : Nat) (w : World) (cs : Array Value), Blk w b cs t → Blk (w.setCells b o vs) b (putA cs o vs) t
  | [], _, _, _, h => h
  | v :: r, o, _, _, h => Blk.cells r (o + 1) _ _ (h.set o v)
theorem below_cells {B b : Nat} {a : World} (hb : B ≤ b) : ∀ (vs : List Value) (o : Nat) (w : World), Below B a w → Below B a (w.setCells b o vs)
  | [], _, _, h => h
  | v :: r, o, w, h => below_cells hb r (o + 1) _ (h.setCell (p := ⟨b, o, none⟩) hb v)
theorem keep_cells {B b : Nat} (hb : b < B) : ∀ (vs : List Value) (o : Nat) (w : World), KeepB B w (w.setCells b o vs)
  | [], _, w => KeepB.refl _ _
  | v :: r, o, w => (KeepB.set w o v hb).trans (keep_cells hb r (o + 1) _)
theorem cell_ne {w : World} {b o o' : Nat} {v : Value} (h : o ≠ o') : (w.setCell ⟨b, o, none⟩ v).cell? ⟨b, o', none⟩ = w.cell? ⟨b, o', none⟩ := by
  rw [World.cell?_setCell_other]
  intro e
  injection e with _ e
  exact h e
theorem cell_eq {w : World} {b o : Nat} {v u : Value} (h : w.cell? ⟨b, o, none⟩ = some u) : (w.setCell ⟨b, o, none⟩ v).cell? ⟨b, o, none⟩ = some v := by
  simp [World.cell?_setCell_same, h]
theorem Blk.drew {w : World} {b : Nat} {cs : Array Value} {t : TypeId} (h : Blk w b cs t) : Blk w.drew b cs t := h
theorem But.cells {r : Nat} {w : World} : ∀ (vs : List Value) (o : Nat) (w1 : World), But r w w1 → But r w (w1.setCells r o vs)
  | [], _, _, h => h
  | v :: vs, o, _, h => But.cells vs (o + 1) _ (h.set o v)
theorem Kp.of_but {r : Nat} {S : Nat → Prop} {w w1 : World} (h : But r w w1) (hS : S r) : Kp S w w1 := ⟨h.below.mono (Nat.zero_le _), fun k hk hn => h.kept k hk (fun e => by subst e; exact hn hS)⟩
/-- A whole struct is stored into a place of a block that is known as a whole. -/
theorem wpList_store_blk {P : Program} {ops : Array Oper} {rest : List Oper} {op : Oper} {a : Act} {W : World} {Q : Exit → Act → World → Prop} (hgd : op.guard = none) (ty : TypeId) (x y : Operand) (ho : op.op = .store ty x y)
    (b o : Nat) (cells : Array Value) (hx : a.eval x = .pointer (some ⟨b, o, none⟩)) (hy : a.eval y = .agg cells) (cs : Array Value) (T : TypeId) (hb : Blk W b cs T) (hn : o + cells.size ≤ cs.size)
    (hi : (P.info? ty).map (·.size) = some cells.size) (h1 : cells.all (·.oneCell') = true)
    (h : ∀ W', Blk W' b (putA cs o cells.toList) T → But b W W' → wpList P ops Q rest (a.put op.dst undef) W') : wpList P ops Q (op :: rest) a W :=
  wpList_store_mid hgd ty x y ho b o cells hx hy (hb.there o cells.size hn) hi h1 (h _ (Blk.cells _ _ _ _ hb) (But.cells _ _ _ (But.refl _ _)))
/-- A whole struct is read out of a place of a block that is known as a whole. -/
theorem wpList_load_blk {P : Program} {ops : Array Oper} {rest : List Oper} {op : Oper} {a : Act} {W : World} {Q : Exit → Act → World → Prop} (hgd : op.guard = none) (ty : TypeId) (x : Operand) (ho : op.op = .load ty x)
    (b o : Nat) (hx : a.eval x = .pointer (some ⟨b, o, none⟩)) (cs : Array Value) (T : TypeId) (hb : Blk W b cs T) (l : List Value) (hr : ∀ j v, l[j]? = some v → cs[o + j]? = some v) (d : TypeDesc)
    (hu : P.underlying ty = some d) (hd : d.isRow = true) (hi : (P.info? ty).map (·.size) = some l.length)
    (h : wpList P ops Q rest (a.put op.dst (.agg l.toArray)) W) : wpList P ops Q (op :: rest) a W :=
  wpList_load_mid hgd ty x ho b o hx l d (fun j v hv => by rw [hb.cell]; exact hr j v hv) hu hd hi h
end Go.Proofs.YtkoejkpjkcejcabDoor
