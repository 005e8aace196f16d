/-
  The document's Total of rows.
-/
import Derived.Test.YtfonalmgdjboeaaDoorGrAi
import Derived.Test.YtfonalmgdjboeaaDoorQRef2
import Derived.BigQuiet
namespace Go.Proofs.YtfonalmgdjboeaaDoor
open Go.RowKit
set_option linter.unusedVariables false

/-- A column of rows. -/
structure Col (w : World) (rb ro N kk : Nat) (vs : List V3) : Prop where
  lt : rb < w.heap.size
  at_ : ∀ j (h : j < vs.length), ∃ g o c, w.cell? ⟨rb, ro + j, none⟩ = some (.slice (some ⟨g, o, none⟩) N c) ∧ g < w.heap.size ∧ w.rangeAt g (o + kk * 3) [.int .i64 vs[j].1, .int .i64 vs[j].2.1, .string vs[j].2.2]
theorem Col.on {w w' : World} {rb ro N kk : Nat} {vs : List V3} (h : Col w rb ro N kk vs) (hb : Below w.heap.size w w') : Col w' rb ro N kk vs := by
  refine ⟨by have := h.lt; have := hb.size; omega, fun j hj => ?_⟩
  obtain ⟨g, o, c, h1, h2, h3⟩ := h.at_ j hj
  exact ⟨g, o, c, by rw [hb.cell (p := ⟨rb, _, none⟩) h.lt]; exact h1, by have := hb.size; omega, fun j v hv => by rw [hb.cell (p := ⟨g, _, none⟩) h2]; exact h3 j v hv⟩
theorem colV_len (i : Nat) (rs : List (List V3)) : (colV i rs).length = rs.length := by simp [colV]
theorem col_of {w : World} {p : Option Addr} {rws : List (List V3)} {N kk : Nat} (hr : RowsAt w p rws) (hn : ∀ r ∈ rws, r.length = N) (hk : kk < N) : rws.length = 0 ∨ ∃ rb ro, p = some ⟨rb, ro, none⟩ ∧ Col w rb ro N kk (colV kk rws) := by
  rcases hr with h | ⟨rb, ro, e, hl, hr⟩
  · exact .inl h
  refine .inr ⟨rb, ro, e, hl, fun j hj => ?_⟩
  rw [colV_len] at hj
  obtain ⟨q, c, h1, h2, h3⟩ := hr j hj
  have hln := hn _ (List.getElem_mem hj)
  rw [hln] at h1
  obtain ⟨g, o, rfl, hg, hv⟩ := h2.resolve_left (by omega)
  refine ⟨g, o, c, h1, hg, ?_⟩
  have hkr : kk < rws[j].length := by omega
  obtain ⟨c0, c1, c2⟩ := hv kk hkr
  have hcv : (colV kk rws)[j]'(by rw [colV_len]; exact hj) = rws[j][kk] := by
    simp only [colV, List.getElem_map]
    rw [List.getD_eq_getElem?_getD, List.getElem?_eq_getElem hkr]; rfl
  rw [hcv]
  intro i v hi
  match i, hi with
  | 0, hi => simp at hi; subst hi; exact c0
  | 1, hi => simp at hi; subst hi; exact c1
  | 2, hi => simp at hi; subst hi; exact c2
  | i + 3, hi => simp at hi
/-- What is gathered so far. -/
structure TtSt (w : World) (q : Option Addr) (n c : Nat) (vs : List V3) (W : World) : Prop where
  old : Below w.heap.size w W
  own : W.ownsRow w.heap.size 26 3 (.slice q n c) n (vcells vs)
theorem TtSt.on {w W W' : World} {q : Option Addr} {n c : Nat} {vs : List V3} (h : TtSt w q n c vs W) (hb : Below W.heap.size W W') : TtSt w q n c vs W' := ⟨h.old.trans (hb.mono h.old.size), lown_below h.own hb⟩
theorem TtSt.push {w W W2 : World} {q q' : Option Addr} {n c c' : Nat} {vs us : List V3} (h : TtSt w q n c vs W) (ho : W2.ownsRow w.heap.size 26 3 (.slice q' (n + 1) c') (n + 1) (vcells us)) (hg : W.grownBy W2 (Value.slice q n c).ownBlock) : TtSt w q' (n + 1) c' us W2 :=
  ⟨h.old.trans ((Below.refl _ W).grown hg h.old.size (fun k hk => (h.own.lt k hk).1)), ho⟩
theorem tot_at {xs : List ByteArray} {rws : List (List V3)} {k : Nat} (h : k < xs.length) : (totV xs rws).take (k + 1) = (totV xs rws).take k ++ [(tot1 xs[k].data.toList (colV k rws) (rws.length : Int)).1] ∧ fstE (((totL xs rws).map Prod.snd).drop k) = if (tot1 xs[k].data.toList (colV k rws) (rws.length : Int)).2 ≠ 0 then (tot1 xs[k].data.toList (colV k rws) (rws.length : Int)).2 else fstE (((totL xs rws).map Prod.snd).drop (k + 1)) := by
  have hL : (totL xs rws).length = xs.length := by simp [totL]
  have hxd : xs.getD k ⟨#[]⟩ = xs[k] := by rw [List.getD_eq_getElem?_getD, List.getElem?_eq_getElem h]; rfl
  have hk : (totL xs rws)[k]'(by rw [hL]; exact h) = tot1 xs[k].data.toList (colV k rws) (rws.length : Int) := by
    simp only [totL, List.getElem_map, List.getElem_range, hxd]
  refine ⟨?_, ?_⟩
  · rw [List.take_succ_eq_append_getElem (by simp [totV, hL]; exact h)]
    simp only [totV, List.getElem_map, hk]
  · rw [fstE_at (by simp [hL]; exact h)]
    simp only [List.getElem_map, hk]
set_option maxHeartbeats 8000000 in
set_option maxRecDepth 20000 in
theorem total_gen (ap : Option Addr) (ac : Nat) (xs : List ByteArray) (rp : Option Addr) (rc : Nat) (rws : List (List V3)) (w : World) (ha : AgsW w ap xs) (hr : RowsAt w rp rws) (hx : xs.length ≤ 6) (hrl : rws.length ≤ 60) (hln : ∀ r ∈ rws, r.length = xs.length) (hag : ∀ x ∈ xs, isAg x.data.toList = true) (hsz : ∀ r ∈ rws, SizedV r)
    (hok : ∀ i (h : i < xs.length), xs[i].data.toList = wLeast ∨ xs[i].data.toList = wMost → ∃ t, ∀ v ∈ colV i rws, okT t v)
    (PST : Ending → World → Prop) (hpg : totE xs rws = 0 → ∀ q c W, ValsAt W q (totV xs rws) → Below w.heap.size w W → PST (.returned (.tuple #[.slice q xs.length c, .int .i64 0])) W) (hpb : ∀ E, totE xs rws = E → E ≠ 0 → ∀ W, Below w.heap.size w W → PST (.returned (.tuple #[.slice none 0 0, .int .i64 E])) W) :
    Calls Tryd.prog 11 #[.slice ap xs.length ac, .slice rp rws.length rc] w PST := by
  have hVL : (totV xs rws).length = xs.length := by simp [totV, totL]
  obtain ⟨N, hN⟩ : ∃ N, xs.length = N := ⟨_, rfl⟩
  obtain ⟨R, hR⟩ : ∃ R, rws.length = R := ⟨_, rfl⟩
  have HN : Hid (xs.length = N) := hN
  have HR : Hid (rws.length = R) := hR
  have HVL : Hid ((totV xs rws).length = N) := (show Hid _ from hVL.trans hN)
  have HAG : Aside (AgsW w ap xs) := ha
  have HCOL : Aside (∀ kk, kk < N → rws.length = 0 ∨ ∃ rb ro, rp = some ⟨rb, ro, none⟩ ∧ Col w rb ro N kk (colV kk rws)) := fun kk hk => col_of hr (fun r hr => by rw [hln r hr, hN]) hk
  have HIS : Aside (∀ x ∈ xs, isAg x.data.toList = true) := hag
  have HOK : Aside (∀ i (h : i < xs.length), xs[i].data.toList = wLeast ∨ xs[i].data.toList = wMost → ∃ t, ∀ v ∈ colV i rws, okT t v) := hok
  have HIN : Aside (∀ kk, kk < N → ∀ v ∈ colV kk rws, inB v.2.1) := fun kk hk v hv => by
    obtain ⟨r, hr, rfl⟩ := List.mem_map.1 hv
    have hkr : kk < r.length := by rw [hln r hr, hN]; exact hk
    rw [List.getD_eq_getElem?_getD, List.getElem?_eq_getElem hkr]
    exact (hsz r hr _ (List.getElem_mem hkr)).2
  rw [hN] at hx hpg ⊢
  have HPG := (show Aside (totE xs rws = 0 → ∀ q c W, ValsAt W q (totV xs rws) → Below w.heap.size w W → PST (.returned (.tuple #[.slice q N c, .int .i64 0])) W) from hpg)
  have HPB := (show Aside (∀ E, totE xs rws = E → E ≠ 0 → ∀ W, Below w.heap.size w W → PST (.returned (.tuple #[.slice none 0 0, .int .i64 E])) W) from hpb)
  clear hpg hpb
  rw [hR] at hrl ⊢
  have H0 : Aside (TtSt w none 0 0 ((totV xs rws).take 0) w) := ⟨Below.refl _ _, World.ownsRow_nil _ _ _ _⟩
  have HF0 : Hid (fstE (((totL xs rws).map Prod.snd).drop 0) = totE xs rws) := rfl
  clear ha hr hln hag hsz hok hN hR hVL
  go_enter Tryd.func11, Tryd.ntmps11
  go_wp2
  go_loopg [6, 7] N (fun gg s6 s7 wr => ∃ (kk : Nat) (q6 : Option Addr) (c6 : Nat), kk ≤ N ∧ N - kk ≤ gg ∧ s6 = .slice q6 kk c6 ∧ s7 = .int .i64 kk ∧ Aside (TtSt w q6 kk c6 ((totV xs rws).take kk) wr) ∧ Hid (fstE (((totL xs rws).map Prod.snd).drop kk) = totE xs rws))
  case atStart => exact ⟨0, none, 0, Nat.zero_le _, by omega, rfl, rfl, H0, HF0⟩
  case round =>
    obtain ⟨kk, q6, c6, hkk, hg, rfl, rfl, SR, HFR⟩ := hrel
    clear H0 HF0
    by_cases hlt : kk < N
    · have hltz : (kk : Int) < (N : Int) := by omega
      have h0z : (0 : Int) ≤ (kk : Int) := by omega
      have hkx : kk < xs.length := by rw [HN.out]; exact hlt
      obtain ⟨ab, ao, rfl, hal, hagc⟩ := HAG.out.resolve_left (by omega)
      obtain ⟨op, nm, vt, vn, vs', gp, gn, gc, pos, name, hr⟩ := hagc kk hkx
      have x0 : w.cell? ⟨ab, ao + kk * 9, none⟩ = some (.string xs[kk]) := hr 0 _ rfl
      have HIk := HIN.out kk hlt
      have HCk := HCOL.out kk hlt
      have hisk := HIS.out _ (List.getElem_mem hkx)
      have hokk := HOK.out kk hkx
      obtain ⟨htk, hfe⟩ := tot_at (rws := rws) hkx
      have hfr := HFR.out
      rw [hfe, HR.out] at hfr
      rw [HR.out] at htk HCk
      have hvl : (colV kk rws).length = R := by rw [colV_len]; exact HR.out
      have htl : ((totV xs rws).take kk).length = kk := by rw [List.length_take, HVL.out]; omega
      clear hr hagc hfe HFR
      generalize xs[kk] = x at *
      generalize colV kk rws = vs at *
      have HTK := (show Hid _ from htk)
      have HFE := (show Hid _ from hfr)
      have HVS : Hid (vs.length = R) := hvl
      have HTL : Hid (((totV xs rws).take kk).length = kk) := htl
      have HCK : Aside (R = 0 ∨ ∃ rb ro, rp = some ⟨rb, ro, none⟩ ∧ Col w rb ro N kk vs) := HCk
      have HIK : Aside (∀ v ∈ vs, inB v.2.1) := HIk
      clear htk hfr hvl htl HCk HIk
      have hx4 := isAg_four hisk
      have hxw : x = ⟨#[99, 111, 117, 110, 116]⟩ ∨ x = ⟨#[115, 117, 109]⟩ ∨ x = ⟨#[108, 101, 97, 115, 116]⟩ ∨ x = ⟨#[109, 111, 115, 116]⟩ := by
        rcases hx4 with h | h | h | h
        · exact .inl (byte_eq h)
        · exact .inr (.inl (byte_eq h))
        · exact .inr (.inr (.inl (byte_eq h)))
        · exact .inr (.inr (.inr (byte_eq h)))
      clear hisk hx4
      have xr : wr.cell? ⟨ab, ao + kk * 9, none⟩ = some (.string x) := by rw [SR.out.old.cell (p := ⟨ab, _, none⟩) hal]; exact x0
      clear x0
      rcases hxw with rfl | rfl | rfl | rfl
      · have hnx : (totV xs rws).take (kk + 1) = (totV xs rws).take kk ++ [(1, (R : Int), ⟨#[]⟩)] ∧ fstE (((totL xs rws).map Prod.snd).drop (kk + 1)) = totE xs rws := ⟨HTK.out, by simpa [tot1, wCount] using HFE.out⟩
        have HNX := (show Hid _ from hnx)
        clear hnx hokk HIK HCK HTK HFE
        go_wp2_with (refine wpList_append_val rfl _ _ rfl w.heap.size (.slice q6 kk c6) kk ((totV xs rws).take kk) rfl (lown_below SR.out.own (alB wr _)) wr.heap.size 1 1 (R : Int) ⟨#[]⟩ rfl (news1 rfl _) (by omega) (by have := SR.out.old.size; simp; omega) ?_; intro q' c' W3 o1 g1)
        have SN : Aside (TtSt w q' (kk + 1) c' ((totV xs rws).take (kk + 1)) W3) := by
          rw [HNX.out.1]
          exact (SR.out.on (alB wr _)).push o1 g1
        clear SR o1 g1
        go_wp2
        go_roundg (N - (kk + 1))
        case measure => omega
        case rel => exact ⟨kk + 1, q', c', by omega, by omega, rfl, by go_num, SN, HNX.out.2⟩
      · have hS1 : (vs.map (·.2.1)).sum = ((vs.take R).map (·.2.1)).sum := by rw [List.take_of_length_le (by rw [HVS.out]; exact Nat.le_refl _)]
        have HSU : Hid ((-9223372036854775808 ≤ ((vs.take R).map (·.2.1)).sum ∧ ((vs.take R).map (·.2.1)).sum ≤ 9223372036854775807 → (totV xs rws).take (kk + 1) = (totV xs rws).take kk ++ [(1, ((vs.take R).map (·.2.1)).sum, ⟨#[]⟩)] ∧ fstE (((totL xs rws).map Prod.snd).drop (kk + 1)) = totE xs rws) ∧ (¬ (-9223372036854775808 ≤ ((vs.take R).map (·.2.1)).sum ∧ ((vs.take R).map (·.2.1)).sum ≤ 9223372036854775807) → totE xs rws = 9)) := by
          have h1 := HTK.out
          have h2 := HFE.out
          rw [show tot1 [115, 117, 109] vs (R : Int) = if -9223372036854775808 ≤ (vs.map (·.2.1)).sum ∧ (vs.map (·.2.1)).sum ≤ 9223372036854775807 then ((1, (vs.map (·.2.1)).sum, ⟨#[]⟩), 0) else ((1, 0, ⟨#[]⟩), 9) by rw [tot1, if_neg (by decide), if_pos (by decide)]] at h1 h2
          rw [hS1] at h1 h2
          refine (show Hid _ from ⟨fun h => ?_, fun h => ?_⟩)
          · rw [if_pos h] at h1 h2
            exact ⟨h1, by simpa using h2⟩
          · rw [if_neg h] at h2
            simpa using h2.symm
        clear hS1 hokk HTK HFE
        have BWR : Aside (Below w.heap.size w wr) := SR.out.old
        generalize wr = WR at *
        have HB0 : Hid (-(((0 : Nat) : Int) * 2147483648) ≤ (0 : Int) ∧ (0 : Int) ≤ ((0 : Nat) : Int) * 2147483648 ∧ -(((0 : Nat) : Int) * 4294967296) ≤ (0 : Int) ∧ (0 : Int) ≤ ((0 : Nat) : Int) * 4294967296 ∧ (0 : Int) * 4294967296 + 0 = ((vs.take 0).map (·.2.1)).sum) := (show Hid _ from ⟨by simp, by simp, by simp, by simp, by simp⟩)
        go_wp2
        go_loopg [8, 9, 10] R (fun gg s8 s9 s10 wz => ∃ (jj : Nat) (hi lo : Int), jj ≤ R ∧ R - jj ≤ gg ∧ s8 = .int .i64 hi ∧ s9 = .int .i64 lo ∧ s10 = .int .i64 jj ∧ Hid (-((jj : Int) * 2147483648) ≤ hi ∧ hi ≤ (jj : Int) * 2147483648 ∧ -((jj : Int) * 4294967296) ≤ lo ∧ lo ≤ (jj : Int) * 4294967296 ∧ hi * 4294967296 + lo = ((vs.take jj).map (·.2.1)).sum) ∧ Aside (Below WR.heap.size WR wz))
        case atStart => exact ⟨0, 0, 0, Nat.zero_le _, by omega, rfl, rfl, rfl, HB0, (show Aside _ from Below.refl _ _)⟩
        case round =>
          obtain ⟨jj, hi, lo, hjj, hgj, rfl, rfl, rfl, HB, BZ⟩ := hrel
          clear HB0
          by_cases hltj : jj < R
          · have hjz : (jj : Int) < (R : Int) := by omega
            have hj0 : (0 : Int) ≤ (jj : Int) := by omega
            obtain ⟨rb, ro, rfl, hc⟩ := HCK.out.resolve_left (by omega)
            have hjv : jj < vs.length := by rw [HVS.out]; exact hltj
            have hcw := (hc.on BWR.out).on BZ.out
            obtain ⟨g, o, c, y1, y2, y3⟩ := hcw.at_ jj hjv
            have y4 : wr.cell? ⟨g, o + kk * 3 + 1, none⟩ = some (.int .i64 vs[jj].2.1) := y3 1 _ rfl
            have hin := HIK.out _ (List.getElem_mem hjv)
            have hts : ((vs.take (jj + 1)).map (·.2.1)).sum = ((vs.take jj).map (·.2.1)).sum + vs[jj].2.1 := by rw [List.take_succ_eq_append_getElem hjv, List.map_append, List.sum_append]; simp only [List.map_cons, List.map_nil, List.sum_cons, List.sum_nil, Int.add_zero]
            obtain ⟨b1, b2, b3, b4, b5⟩ := HB.out
            clear hc hcw y2 y3 HB
            generalize vs[jj].2.1 = x at *
            unfold inB at hin
            have q1 := Int.mul_tdiv_add_tmod x 4294967296
            have q2 : -4294967296 < x.tmod 4294967296 ∧ x.tmod 4294967296 < 4294967296 := by
              have := Int.tmod_lt_of_pos x (show (0 : Int) < 4294967296 by decide)
              have := Int.lt_tmod_of_pos x (show (0 : Int) < 4294967296 by decide)
              omega
            have q3 : -2147483648 ≤ x.tdiv 4294967296 ∧ x.tdiv 4294967296 ≤ 2147483648 := by omega
            have hn2 : (-(((jj + 1 : Nat) : Int) * 2147483648) ≤ hi + x.tdiv 4294967296 ∧ hi + x.tdiv 4294967296 ≤ ((jj + 1 : Nat) : Int) * 2147483648 ∧ -(((jj + 1 : Nat) : Int) * 4294967296) ≤ lo + x.tmod 4294967296 ∧ lo + x.tmod 4294967296 ≤ ((jj + 1 : Nat) : Int) * 4294967296 ∧ (hi + x.tdiv 4294967296) * 4294967296 + (lo + x.tmod 4294967296) = ((vs.take (jj + 1)).map (·.2.1)).sum) := by rw [hts]; omega
            have HN2 := (show Hid _ from hn2)
            have z1 : -9223372036854775808 ≤ hi + x.tdiv 4294967296 ∧ hi + x.tdiv 4294967296 ≤ 9223372036854775807 := by omega
            have z2 : -9223372036854775808 ≤ lo + x.tmod 4294967296 ∧ lo + x.tmod 4294967296 ≤ 9223372036854775807 := by omega
            clear hts b5 q1 hn2
            go_wp2
            go_roundg (R - (jj + 1))
            case measure => omega
            case rel => exact ⟨jj + 1, hi + x.tdiv 4294967296, lo + x.tmod 4294967296, by omega, by omega, by go_num, by go_num, by go_num, HN2, BZ⟩
          · have hjz : ¬ (jj : Int) < (R : Int) := by omega
            obtain rfl : jj = R := by omega
            obtain ⟨b1, b2, b3, b4, b5⟩ := HB.out
            have m1 := Int.mul_tdiv_add_tmod lo 4294967296
            have m2 : -4294967296 < lo.tmod 4294967296 ∧ lo.tmod 4294967296 < 4294967296 := by
              have := Int.tmod_lt_of_pos lo (show (0 : Int) < 4294967296 by decide)
              have := Int.lt_tmod_of_pos lo (show (0 : Int) < 4294967296 by decide)
              omega
            have hSS := HSU.out
            rw [← b5] at hSS
            have BZW : Aside (Below w.heap.size w wr) := BWR.out.trans (BZ.out.mono BWR.out.size)
            have SZ : Aside (TtSt w q6 kk c6 ((totV xs rws).take kk) wr) := SR.out.on BZ.out
            clear HB HSU SR BZ BWR HCK HIK b5
            have m3 : -61 ≤ lo.tdiv 4294967296 ∧ lo.tdiv 4294967296 ≤ 61 := by omega
            have hcs : ∃ (d : Int), (d = 0 ∧ 0 ≤ lo.tmod 4294967296) ∨ (d = 1 ∧ lo.tmod 4294967296 < 0) := by
              by_cases h : lo.tmod 4294967296 < 0
              · exact ⟨1, .inr ⟨rfl, h⟩⟩
              · exact ⟨0, .inl ⟨rfl, by omega⟩⟩
            obtain ⟨d, hd⟩ := hcs
            by_cases hov : hi + lo.tdiv 4294967296 - d < -2147483648 ∨ 2147483647 < hi + lo.tdiv 4294967296 - d
            · have h9 : totE xs rws = 9 := hSS.2 (by rcases hd with ⟨rfl, hd⟩ | ⟨rfl, hd⟩ <;> omega)
              have H9 := (show Hid _ from h9)
              clear hSS h9 m1
              rcases hd with ⟨rfl, hd⟩ | ⟨rfl, hd⟩
              · have hnn : ¬ lo.tmod 4294967296 < 0 := by omega
                rcases hov with hov | hov
                · have hov2 : hi + lo.tdiv 4294967296 < -2147483648 := by omega
                  go_wp2
                  exact HPB.out 9 H9.out (by decide) _ BZW.out
                · have hov2 : 2147483647 < hi + lo.tdiv 4294967296 := by omega
                  have hov3 : ¬ hi + lo.tdiv 4294967296 < -2147483648 := by omega
                  go_wp2
                  exact HPB.out 9 H9.out (by decide) _ BZW.out
              · rcases hov with hov | hov
                · go_wp2
                  exact HPB.out 9 H9.out (by decide) _ BZW.out
                · have hov3 : ¬ hi + lo.tdiv 4294967296 - 1 < -2147483648 := by omega
                  go_wp2
                  exact HPB.out 9 H9.out (by decide) _ BZW.out
            · have hov1 : ¬ hi + lo.tdiv 4294967296 - d < -2147483648 := fun h => hov (.inl h)
              have hov2 : ¬ 2147483647 < hi + lo.tdiv 4294967296 - d := fun h => hov (.inr h)
              have hnx := hSS.1 (by rcases hd with ⟨rfl, hd⟩ | ⟨rfl, hd⟩ <;> omega)
              clear hSS hov
              rcases hd with ⟨rfl, hd⟩ | ⟨rfl, hd⟩
              · have hnn : ¬ lo.tmod 4294967296 < 0 := by omega
                rw [Int.sub_zero] at hov1 hov2
                rw [show hi * 4294967296 + lo = (hi + lo.tdiv 4294967296) * 4294967296 + lo.tmod 4294967296 by omega] at hnx
                have HNX := (show Hid _ from hnx)
                clear hnx m1
                go_wp2_with (refine wpList_append_val rfl _ _ rfl w.heap.size (.slice q6 kk c6) kk ((totV xs rws).take kk) rfl (lown_below SZ.out.own (alB wr _)) wr.heap.size 1 1 ((hi + lo.tdiv 4294967296) * 4294967296 + lo.tmod 4294967296) ⟨#[]⟩ rfl (news1 rfl _) (by omega) (by have := SZ.out.old.size; simp; omega) ?_; intro q' c' W3 o1 g1)
                have SN : Aside (TtSt w q' (kk + 1) c' ((totV xs rws).take (kk + 1)) W3) := by
                  rw [HNX.out.1]
                  exact (SZ.out.on (alB wr _)).push o1 g1
                clear SZ o1 g1
                go_wp2
                go_roundg (N - (kk + 1))
                case measure => omega
                case rel => exact ⟨kk + 1, q', c', by omega, by omega, rfl, by go_num, SN, HNX.out.2⟩
              · rw [show hi * 4294967296 + lo = (hi + lo.tdiv 4294967296 - 1) * 4294967296 + (lo.tmod 4294967296 + 4294967296) by omega] at hnx
                have HNX := (show Hid _ from hnx)
                clear hnx m1
                go_wp2_with (refine wpList_append_val rfl _ _ rfl w.heap.size (.slice q6 kk c6) kk ((totV xs rws).take kk) rfl (lown_below SZ.out.own (alB wr _)) wr.heap.size 1 1 ((hi + lo.tdiv 4294967296 - 1) * 4294967296 + (lo.tmod 4294967296 + 4294967296)) ⟨#[]⟩ rfl (news1 rfl _) (by omega) (by have := SZ.out.old.size; simp; omega) ?_; intro q' c' W3 o1 g1)
                have SN : Aside (TtSt w q' (kk + 1) c' ((totV xs rws).take (kk + 1)) W3) := by
                  rw [HNX.out.1]
                  exact (SZ.out.on (alB wr _)).push o1 g1
                clear SZ o1 g1
                go_wp2
                go_roundg (N - (kk + 1))
                case measure => omega
                case rel => exact ⟨kk + 1, q', c', by omega, by omega, rfl, by go_num, SN, HNX.out.2⟩
      · by_cases hR0 : R = 0
        · have h5 : totE xs rws = 5 := by
            have h2 := HFE.out
            have hv0 : vs = [] := List.length_eq_zero_iff.1 (by rw [HVS.out]; exact hR0)
            rw [show tot1 [108, 101, 97, 115, 116] vs (R : Int) = (noV, 5) by rw [tot1, if_neg (by decide), if_neg (by decide), if_pos hv0]] at h2
            simpa using h2.symm
          have H5 := (show Hid _ from h5)
          clear h5 hokk HTK HFE HIK HCK
          subst hR0
          go_wp2
          exact HPB.out 5 H5.out (by decide) _ SR.out.old
        · have hRz : ¬ (R : Int) = 0 := by omega
          have hR1 : (0 : Int) < (R : Int) := by omega
          have hv0 : vs ≠ [] := fun e => hR0 (by rw [← HVS.out, e]; rfl)
          have hvt : vs.take R = vs := List.take_of_length_le (by rw [HVS.out]; exact Nat.le_refl _)
          have hnx : (totV xs rws).take (kk + 1) = (totV xs rws).take kk ++ [bsL wLeast (vs.take R)] ∧ fstE (((totL xs rws).map Prod.snd).drop (kk + 1)) = totE xs rws := by
            have h1 := HTK.out
            have h2 := HFE.out
            rw [show tot1 [108, 101, 97, 115, 116] vs (R : Int) = (bsL wLeast vs, 0) by rw [tot1, if_neg (by decide), if_neg (by decide), if_neg hv0]; rfl] at h1 h2
            rw [hvt]
            exact ⟨h1, by simpa using h2⟩
          obtain ⟨ty, hty⟩ := hokk (.inl rfl)
          have HOV : Aside (∀ v ∈ vs, okT ty v) := hty
          obtain ⟨rb, ro, rfl, hc⟩ := HCK.out.resolve_left hR0
          have HC : Aside (Col wr rb ro N kk vs) := hc.on SR.out.old
          have h0v : 0 < vs.length := by rw [HVS.out]; omega
          obtain ⟨g, o, c, y1, y2, y3⟩ := HC.out.at_ 0 h0v
          rw [Nat.add_zero] at y1
          have hRb : ((R : Int) == 0) = false := by simp; omega
          have hb1 : bsL wLeast (vs.take 1) = vs[0] := by
            cases vs with
            | nil => exact absurd rfl hv0
            | cons a r => rfl
          have HNX := (show Hid _ from hnx)
          have HB1 := (show Hid _ from hb1)
          clear hnx hb1 hvt hv0 hokk hty hc HTK HFE HIK HCK y2
          generalize vs[0] = v at *
          clear h0v
          obtain ⟨vt, vn, vz⟩ := v
          simp only at y3
          generalize wr = WR at *
          go_wp2_with (first
            | (refine wpList_load_mid rfl 26 _ rfl g (o + kk * 3) rfl _ _ y3 Tryd.underlying26 rfl size_valB ?_)
            | (refine wpList_store_blk rfl 26 _ _ rfl WR.heap.size 0 #[.int .i64 vt, .int .i64 vn, .string vz] rfl rfl _ _ (blk_alloc WR _ _) (by simp) size_valB (one_v3 _ _ _) ?_; intro W1 P1 K1))
          have PV : Aside (Blk W1 WR.heap.size #[.int .i64 vt, .int .i64 vn, .string vz] 26 ∧ Below WR.heap.size WR W1) := ⟨by simpa only [putA, List.setIfInBounds_toArray, List.set_cons_zero, List.set_cons_succ, Nat.reduceAdd] using P1, (alB WR _).trans (K1.below.mono (by simp))⟩
          clear P1 K1 y1 y3
          go_wp2
          go_loopg [15] R (fun gg s15 wz => ∃ (jj : Nat) (bt bn : Int) (bz : ByteArray), 1 ≤ jj ∧ jj ≤ R ∧ R - jj ≤ gg ∧ s15 = .int .i64 jj ∧ Hid (bsL wLeast (vs.take jj) = (bt, bn, bz)) ∧ Aside (Blk wz WR.heap.size #[.int .i64 bt, .int .i64 bn, .string bz] 26 ∧ Below WR.heap.size WR wz))
          case atStart => exact ⟨1, vt, vn, vz, Nat.le_refl _, by omega, by omega, rfl, HB1, PV⟩
          case round =>
            obtain ⟨jj, bt, bn, bz, hj1, hjj, hgj, rfl, HBJ, PZ⟩ := hrel
            clear PV HB1
            by_cases hltj : jj < R
            · have hjz : (jj : Int) < (R : Int) := by omega
              have hj0 : (0 : Int) ≤ (jj : Int) := by omega
              have hjv : jj < vs.length := by rw [HVS.out]; exact hltj
              obtain ⟨g2, o2, c2, y1, y2, y3⟩ := (HC.out.on PZ.out.2).at_ jj hjv
              have e0 : wr.cell? ⟨g2, o2 + kk * 3, none⟩ = some (.int .i64 vs[jj].1) := y3 0 _ rfl
              have e1 : wr.cell? ⟨g2, o2 + kk * 3 + 1, none⟩ = some (.int .i64 vs[jj].2.1) := y3 1 _ rfl
              have e2 : wr.cell? ⟨g2, o2 + kk * 3 + 2, none⟩ = some (.string vs[jj].2.2) := y3 2 _ rfl
              have d0 : wr.cell? ⟨WR.heap.size, 0, none⟩ = some (.int .i64 bt) := PZ.out.1.cell 0
              have d1 : wr.cell? ⟨WR.heap.size, 1, none⟩ = some (.int .i64 bn) := PZ.out.1.cell 1
              have d2 : wr.cell? ⟨WR.heap.size, 2, none⟩ = some (.string bz) := PZ.out.1.cell 2
              have hst : bsL wLeast (vs.take (jj + 1)) = if ahB wLeast vs[jj] (bt, bn, bz) then vs[jj] else (bt, bn, bz) := by
                rw [List.take_succ_eq_append_getElem hjv, bsL_snoc _ _ _ (by intro e; have := congrArg List.length e; rw [List.length_take, List.length_nil] at this; omega), HBJ.out]
              have ko : okT ty vs[jj] := HOV.out _ (List.getElem_mem hjv)
              have kb : okT ty (bt, bn, bz) := by
                have hbb := bsL_best wLeast ty _ (vs.take jj) rfl (fun v hv => HOV.out v (List.mem_of_mem_take hv))
                rw [HBJ.out] at hbb
                rcases hbb with ⟨e, _⟩ | ⟨hm, _⟩
                · have := congrArg List.length e; rw [List.length_take, List.length_nil] at this; omega
                · exact HOV.out _ (List.mem_of_mem_take hm)
              have xz : wr.cell? ⟨ab, ao + kk * 9, none⟩ = some (.string ⟨#[108, 101, 97, 115, 116]⟩) := by
                have hBW := SR.out.old.trans (PZ.out.2.mono SR.out.old.size)
                rw [PZ.out.2.cell (p := ⟨ab, _, none⟩) (by have := SR.out.old.size; show ab < _; omega)]; exact xr
              have HST := (show Hid _ from hst)
              have hg2 : g2 < wr.heap.size := y2
              clear hst HBJ
              generalize vs[jj] = v at *
              obtain ⟨vt, vn, vz⟩ := v
              simp only at e0 e1 e2 y3
              have cO : ∀ W, Calls Tryd.prog 29 #[.agg #[.int .i64 vt, .int .i64 vn, .string vz], .agg #[.int .i64 bt, .int .i64 bn, .string bz]] W fun e w' => e = .returned (.int .i64 (cmpX (vt, vn, vz) (bt, bn, bz))) ∧ Below W.heap.size W w' := fun W => order_any vt vn vz bt bn bz W (by
                obtain ⟨k1, k2⟩ := ko
                obtain ⟨l1, l2⟩ := kb
                simp only at k1 k2 l1 l2
                rw [cmpE, if_neg (fun h => h k2), if_neg (fun h => h l2), if_neg (by rw [k1, l1]; simp)])
              have HX : Hid (ahB wLeast (vt, vn, vz) (bt, bn, bz) = decide (cmpX (vt, vn, vz) (bt, bn, bz) < 0)) := by
                show _ = _
                simp [ahB, wLeast]
              generalize cmpX (vt, vn, vz) (bt, bn, bz) = X at *
              clear ko kb
              go_wp2
              go_region_with (go_at_call 29; refine (cO _).mono ?_; rintro e w2 ⟨rfl, B2⟩; have B3 : Below wr.heap.size wr w2 := (Below.drew (Below.refl _ wr)).trans B2)
              all_goals
                have P2 : Blk w2 WR.heap.size #[.int .i64 bt, .int .i64 bn, .string bz] 26 := PZ.out.1.on B3
                have BW : Below WR.heap.size WR w2 := PZ.out.2.trans (B3.mono PZ.out.2.size)
                have y1' : w2.cell? ⟨rb, ro + jj, none⟩ = some (.slice (some ⟨g2, o2, none⟩) N c2) := by rw [B3.cell (p := ⟨rb, _, none⟩) ((HC.out.on PZ.out.2).lt)]; exact y1
                have y3' : w2.rangeAt g2 (o2 + kk * 3) [.int .i64 vt, .int .i64 vn, .string vz] := fun j v hv => by rw [B3.cell (p := ⟨g2, _, none⟩) hg2]; exact y3 j v hv
                have xz' : w2.cell? ⟨ab, ao + kk * 9, none⟩ = some (.string ⟨#[108, 101, 97, 115, 116]⟩) := by
                  rw [B3.cell (p := ⟨ab, _, none⟩) (by have := SR.out.old.size; have := PZ.out.2.size; show ab < _; omega)]; exact xz
                have HP2 : Aside (Blk w2 WR.heap.size #[.int .i64 bt, .int .i64 bn, .string bz] 26 ∧ Below WR.heap.size WR w2) := ⟨P2, BW⟩
                clear P2 BW B3 B2 PZ y1 y3 xz e0 e1 e2 d0 d1 d2 cO
                by_cases hcm : X < 0
                · have hnb : bsL wLeast (vs.take (jj + 1)) = (vt, vn, vz) := by rw [HST.out, if_pos (by rw [HX.out]; exact decide_eq_true hcm)]
                  have HNB := (show Hid _ from hnb)
                  clear hnb HST HX
                  go_wp2_with (first
                    | (refine wpList_load_mid rfl 26 _ rfl g2 (o2 + kk * 3) rfl _ _ y3' Tryd.underlying26 rfl size_valB ?_)
                    | (refine wpList_store_blk rfl 26 _ _ rfl WR.heap.size 0 #[.int .i64 vt, .int .i64 vn, .string vz] rfl rfl _ _ HP2.out.1 (by simp) size_valB (one_v3 _ _ _) ?_; intro W3 P3 K3))
                  have PN : Aside (Blk W3 WR.heap.size #[.int .i64 vt, .int .i64 vn, .string vz] 26 ∧ Below WR.heap.size WR W3) := ⟨by simpa only [putA, List.setIfInBounds_toArray, List.set_cons_zero, List.set_cons_succ, Nat.reduceAdd] using P3, HP2.out.2.trans (K3.below.mono (by have := HP2.out.1.lt; omega))⟩
                  clear P3 K3 HP2 y1' y3' xz'
                  go_wp2
                  go_roundg (R - (jj + 1))
                  case measure => omega
                  case rel => exact ⟨jj + 1, vt, vn, vz, by omega, by omega, by omega, by go_num, HNB, PN⟩
                · have hnb : bsL wLeast (vs.take (jj + 1)) = (bt, bn, bz) := by rw [HST.out, if_neg (by rw [HX.out]; simpa using hcm)]
                  have HNB := (show Hid _ from hnb)
                  clear hnb HST HX
                  go_wp2
                  go_roundg (R - (jj + 1))
                  case measure => omega
                  case rel => exact ⟨jj + 1, bt, bn, bz, by omega, by omega, by omega, by go_num, HNB, HP2⟩
            · have hjz : ¬ (jj : Int) < (R : Int) := by omega
              obtain rfl : jj = R := by omega
              have hnx := HNX.out
              rw [HBJ.out] at hnx
              have HNY := (show Hid _ from hnx)
              have SZ : Aside (TtSt w q6 kk c6 ((totV xs rws).take kk) wr) := SR.out.on PZ.out.2
              clear hnx HNX HBJ HC HOV SR
              go_wp2_with (first
                | (refine wpList_load_blk rfl 26 _ rfl WR.heap.size 0 rfl _ _ PZ.out.1 [.int .i64 bt, .int .i64 bn, .string bz] (fun j v hv => by simpa using hv) _ Tryd.underlying26 rfl size_valB ?_)
                | (refine wpList_append_val rfl _ _ rfl w.heap.size (.slice q6 kk c6) kk ((totV xs rws).take kk) rfl (lown_below SZ.out.own (alB wr _)) wr.heap.size 1 bt bn bz rfl (news1 rfl _) (by omega) (by have := SZ.out.old.size; simp; omega) ?_; intro q' c' W3 o1 g1))
              have SN : Aside (TtSt w q' (kk + 1) c' ((totV xs rws).take (kk + 1)) W3) := by
                rw [HNY.out.1]
                exact (SZ.out.on (alB wr _)).push o1 g1
              clear SZ o1 g1 PZ
              go_wp2
              go_roundg (N - (kk + 1))
              case measure => omega
              case rel => exact ⟨kk + 1, q', c', by omega, by omega, rfl, by go_num, SN, HNY.out.2⟩
      · by_cases hR0 : R = 0
        · have h5 : totE xs rws = 5 := by
            have h2 := HFE.out
            have hv0 : vs = [] := List.length_eq_zero_iff.1 (by rw [HVS.out]; exact hR0)
            rw [show tot1 [109, 111, 115, 116] vs (R : Int) = (noV, 5) by rw [tot1, if_neg (by decide), if_neg (by decide), if_pos hv0]] at h2
            simpa using h2.symm
          have H5 := (show Hid _ from h5)
          clear h5 hokk HTK HFE HIK HCK
          subst hR0
          go_wp2
          exact HPB.out 5 H5.out (by decide) _ SR.out.old
        · have hRz : ¬ (R : Int) = 0 := by omega
          have hR1 : (0 : Int) < (R : Int) := by omega
          have hv0 : vs ≠ [] := fun e => hR0 (by rw [← HVS.out, e]; rfl)
          have hvt : vs.take R = vs := List.take_of_length_le (by rw [HVS.out]; exact Nat.le_refl _)
          have hnx : (totV xs rws).take (kk + 1) = (totV xs rws).take kk ++ [bsL wMost (vs.take R)] ∧ fstE (((totL xs rws).map Prod.snd).drop (kk + 1)) = totE xs rws := by
            have h1 := HTK.out
            have h2 := HFE.out
            rw [show tot1 [109, 111, 115, 116] vs (R : Int) = (bsL wMost vs, 0) by rw [tot1, if_neg (by decide), if_neg (by decide), if_neg hv0]; rfl] at h1 h2
            rw [hvt]
            exact ⟨h1, by simpa using h2⟩
          obtain ⟨ty, hty⟩ := hokk (.inr rfl)
          have HOV : Aside (∀ v ∈ vs, okT ty v) := hty
          obtain ⟨rb, ro, rfl, hc⟩ := HCK.out.resolve_left hR0
          have HC : Aside (Col wr rb ro N kk vs) := hc.on SR.out.old
          have h0v : 0 < vs.length := by rw [HVS.out]; omega
          obtain ⟨g, o, c, y1, y2, y3⟩ := HC.out.at_ 0 h0v
          rw [Nat.add_zero] at y1
          have hRb : ((R : Int) == 0) = false := by simp; omega
          have hb1 : bsL wMost (vs.take 1) = vs[0] := by
            cases vs with
            | nil => exact absurd rfl hv0
            | cons a r => rfl
          have HNX := (show Hid _ from hnx)
          have HB1 := (show Hid _ from hb1)
          clear hnx hb1 hvt hv0 hokk hty hc HTK HFE HIK HCK y2
          generalize vs[0] = v at *
          clear h0v
          obtain ⟨vt, vn, vz⟩ := v
          simp only at y3
          generalize wr = WR at *
          go_wp2_with (first
            | (refine wpList_load_mid rfl 26 _ rfl g (o + kk * 3) rfl _ _ y3 Tryd.underlying26 rfl size_valB ?_)
            | (refine wpList_store_blk rfl 26 _ _ rfl WR.heap.size 0 #[.int .i64 vt, .int .i64 vn, .string vz] rfl rfl _ _ (blk_alloc WR _ _) (by simp) size_valB (one_v3 _ _ _) ?_; intro W1 P1 K1))
          have PV : Aside (Blk W1 WR.heap.size #[.int .i64 vt, .int .i64 vn, .string vz] 26 ∧ Below WR.heap.size WR W1) := ⟨by simpa only [putA, List.setIfInBounds_toArray, List.set_cons_zero, List.set_cons_succ, Nat.reduceAdd] using P1, (alB WR _).trans (K1.below.mono (by simp))⟩
          clear P1 K1 y1 y3
          go_wp2
          go_loopg [15] R (fun gg s15 wz => ∃ (jj : Nat) (bt bn : Int) (bz : ByteArray), 1 ≤ jj ∧ jj ≤ R ∧ R - jj ≤ gg ∧ s15 = .int .i64 jj ∧ Hid (bsL wMost (vs.take jj) = (bt, bn, bz)) ∧ Aside (Blk wz WR.heap.size #[.int .i64 bt, .int .i64 bn, .string bz] 26 ∧ Below WR.heap.size WR wz))
          case atStart => exact ⟨1, vt, vn, vz, Nat.le_refl _, by omega, by omega, rfl, HB1, PV⟩
          case round =>
            obtain ⟨jj, bt, bn, bz, hj1, hjj, hgj, rfl, HBJ, PZ⟩ := hrel
            clear PV HB1
            by_cases hltj : jj < R
            · have hjz : (jj : Int) < (R : Int) := by omega
              have hj0 : (0 : Int) ≤ (jj : Int) := by omega
              have hjv : jj < vs.length := by rw [HVS.out]; exact hltj
              obtain ⟨g2, o2, c2, y1, y2, y3⟩ := (HC.out.on PZ.out.2).at_ jj hjv
              have e0 : wr.cell? ⟨g2, o2 + kk * 3, none⟩ = some (.int .i64 vs[jj].1) := y3 0 _ rfl
              have e1 : wr.cell? ⟨g2, o2 + kk * 3 + 1, none⟩ = some (.int .i64 vs[jj].2.1) := y3 1 _ rfl
              have e2 : wr.cell? ⟨g2, o2 + kk * 3 + 2, none⟩ = some (.string vs[jj].2.2) := y3 2 _ rfl
              have d0 : wr.cell? ⟨WR.heap.size, 0, none⟩ = some (.int .i64 bt) := PZ.out.1.cell 0
              have d1 : wr.cell? ⟨WR.heap.size, 1, none⟩ = some (.int .i64 bn) := PZ.out.1.cell 1
              have d2 : wr.cell? ⟨WR.heap.size, 2, none⟩ = some (.string bz) := PZ.out.1.cell 2
              have hst : bsL wMost (vs.take (jj + 1)) = if ahB wMost vs[jj] (bt, bn, bz) then vs[jj] else (bt, bn, bz) := by
                rw [List.take_succ_eq_append_getElem hjv, bsL_snoc _ _ _ (by intro e; have := congrArg List.length e; rw [List.length_take, List.length_nil] at this; omega), HBJ.out]
              have ko : okT ty vs[jj] := HOV.out _ (List.getElem_mem hjv)
              have kb : okT ty (bt, bn, bz) := by
                have hbb := bsL_best wMost ty _ (vs.take jj) rfl (fun v hv => HOV.out v (List.mem_of_mem_take hv))
                rw [HBJ.out] at hbb
                rcases hbb with ⟨e, _⟩ | ⟨hm, _⟩
                · have := congrArg List.length e; rw [List.length_take, List.length_nil] at this; omega
                · exact HOV.out _ (List.mem_of_mem_take hm)
              have xz : wr.cell? ⟨ab, ao + kk * 9, none⟩ = some (.string ⟨#[109, 111, 115, 116]⟩) := by
                have hBW := SR.out.old.trans (PZ.out.2.mono SR.out.old.size)
                rw [PZ.out.2.cell (p := ⟨ab, _, none⟩) (by have := SR.out.old.size; show ab < _; omega)]; exact xr
              have HST := (show Hid _ from hst)
              have hg2 : g2 < wr.heap.size := y2
              clear hst HBJ
              generalize vs[jj] = v at *
              obtain ⟨vt, vn, vz⟩ := v
              simp only at e0 e1 e2 y3
              have cO : ∀ W, Calls Tryd.prog 29 #[.agg #[.int .i64 vt, .int .i64 vn, .string vz], .agg #[.int .i64 bt, .int .i64 bn, .string bz]] W fun e w' => e = .returned (.int .i64 (cmpX (vt, vn, vz) (bt, bn, bz))) ∧ Below W.heap.size W w' := fun W => order_any vt vn vz bt bn bz W (by
                obtain ⟨k1, k2⟩ := ko
                obtain ⟨l1, l2⟩ := kb
                simp only at k1 k2 l1 l2
                rw [cmpE, if_neg (fun h => h k2), if_neg (fun h => h l2), if_neg (by rw [k1, l1]; simp)])
              have HX : Hid (ahB wMost (vt, vn, vz) (bt, bn, bz) = decide (0 < cmpX (vt, vn, vz) (bt, bn, bz))) := by
                show _ = _
                simp [ahB, wLeast, wMost]
              generalize cmpX (vt, vn, vz) (bt, bn, bz) = X at *
              clear ko kb
              go_wp2
              go_region_with (go_at_call 29; refine (cO _).mono ?_; rintro e w2 ⟨rfl, B2⟩; have B3 : Below wr.heap.size wr w2 := (Below.drew (Below.refl _ wr)).trans B2)
              all_goals
                have P2 : Blk w2 WR.heap.size #[.int .i64 bt, .int .i64 bn, .string bz] 26 := PZ.out.1.on B3
                have BW : Below WR.heap.size WR w2 := PZ.out.2.trans (B3.mono PZ.out.2.size)
                have y1' : w2.cell? ⟨rb, ro + jj, none⟩ = some (.slice (some ⟨g2, o2, none⟩) N c2) := by rw [B3.cell (p := ⟨rb, _, none⟩) ((HC.out.on PZ.out.2).lt)]; exact y1
                have y3' : w2.rangeAt g2 (o2 + kk * 3) [.int .i64 vt, .int .i64 vn, .string vz] := fun j v hv => by rw [B3.cell (p := ⟨g2, _, none⟩) hg2]; exact y3 j v hv
                have xz' : w2.cell? ⟨ab, ao + kk * 9, none⟩ = some (.string ⟨#[109, 111, 115, 116]⟩) := by
                  rw [B3.cell (p := ⟨ab, _, none⟩) (by have := SR.out.old.size; have := PZ.out.2.size; show ab < _; omega)]; exact xz
                have HP2 : Aside (Blk w2 WR.heap.size #[.int .i64 bt, .int .i64 bn, .string bz] 26 ∧ Below WR.heap.size WR w2) := ⟨P2, BW⟩
                clear P2 BW B3 B2 PZ y1 y3 xz e0 e1 e2 d0 d1 d2 cO
                by_cases hcm : 0 < X
                · have hnb : bsL wMost (vs.take (jj + 1)) = (vt, vn, vz) := by rw [HST.out, if_pos (by rw [HX.out]; exact decide_eq_true hcm)]
                  have HNB := (show Hid _ from hnb)
                  clear hnb HST HX
                  go_wp2_with (first
                    | (refine wpList_load_mid rfl 26 _ rfl g2 (o2 + kk * 3) rfl _ _ y3' Tryd.underlying26 rfl size_valB ?_)
                    | (refine wpList_store_blk rfl 26 _ _ rfl WR.heap.size 0 #[.int .i64 vt, .int .i64 vn, .string vz] rfl rfl _ _ HP2.out.1 (by simp) size_valB (one_v3 _ _ _) ?_; intro W3 P3 K3))
                  have PN : Aside (Blk W3 WR.heap.size #[.int .i64 vt, .int .i64 vn, .string vz] 26 ∧ Below WR.heap.size WR W3) := ⟨by simpa only [putA, List.setIfInBounds_toArray, List.set_cons_zero, List.set_cons_succ, Nat.reduceAdd] using P3, HP2.out.2.trans (K3.below.mono (by have := HP2.out.1.lt; omega))⟩
                  clear P3 K3 HP2 y1' y3' xz'
                  go_wp2
                  go_roundg (R - (jj + 1))
                  case measure => omega
                  case rel => exact ⟨jj + 1, vt, vn, vz, by omega, by omega, by omega, by go_num, HNB, PN⟩
                · have hnb : bsL wMost (vs.take (jj + 1)) = (bt, bn, bz) := by rw [HST.out, if_neg (by rw [HX.out]; simpa using hcm)]
                  have HNB := (show Hid _ from hnb)
                  clear hnb HST HX
                  go_wp2
                  go_roundg (R - (jj + 1))
                  case measure => omega
                  case rel => exact ⟨jj + 1, bt, bn, bz, by omega, by omega, by omega, by go_num, HNB, HP2⟩
            · have hjz : ¬ (jj : Int) < (R : Int) := by omega
              obtain rfl : jj = R := by omega
              have hnx := HNX.out
              rw [HBJ.out] at hnx
              have HNY := (show Hid _ from hnx)
              have SZ : Aside (TtSt w q6 kk c6 ((totV xs rws).take kk) wr) := SR.out.on PZ.out.2
              clear hnx HNX HBJ HC HOV SR
              go_wp2_with (first
                | (refine wpList_load_blk rfl 26 _ rfl WR.heap.size 0 rfl _ _ PZ.out.1 [.int .i64 bt, .int .i64 bn, .string bz] (fun j v hv => by simpa using hv) _ Tryd.underlying26 rfl size_valB ?_)
                | (refine wpList_append_val rfl _ _ rfl w.heap.size (.slice q6 kk c6) kk ((totV xs rws).take kk) rfl (lown_below SZ.out.own (alB wr _)) wr.heap.size 1 bt bn bz rfl (news1 rfl _) (by omega) (by have := SZ.out.old.size; simp; omega) ?_; intro q' c' W3 o1 g1))
              have SN : Aside (TtSt w q' (kk + 1) c' ((totV xs rws).take (kk + 1)) W3) := by
                rw [HNY.out.1]
                exact (SZ.out.on (alB wr _)).push o1 g1
              clear SZ o1 g1 PZ
              go_wp2
              go_roundg (N - (kk + 1))
              case measure => omega
              case rel => exact ⟨kk + 1, q', c', by omega, by omega, rfl, by go_num, SN, HNY.out.2⟩
    · have hltz : ¬ (kk : Int) < (N : Int) := by omega
      obtain rfl : kk = N := by omega
      have hz : totE xs rws = 0 := by
        rw [← HFR.out, List.drop_eq_nil_of_le (by rw [List.length_map]; simp [totL, HN.out])]; rfl
      have hfull : (totV xs rws).take kk = totV xs rws := List.take_of_length_le (by rw [HVL.out]; exact Nat.le_refl _)
      have hVA : ValsAt wr q6 (totV xs rws) := by
        have := SR.out.own
        rw [hfull] at this
        exact ownVals HVL.out this
      have HPO : Aside (totE xs rws = 0 ∧ ValsAt wr q6 (totV xs rws) ∧ Below w.heap.size w wr) := ⟨hz, hVA, SR.out.old⟩
      clear hz hfull hVA SR HFR
      go_wp2
      exact HPG.out HPO.out.1 _ _ _ HPO.out.2.1 HPO.out.2.2
end Go.Proofs.YtfonalmgdjboeaaDoor
