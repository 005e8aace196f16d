/-
  AggTells, walked.
-/
import Derived.Test.YtfonalmgdjboeaaDoorGrAh
import Derived.Test.YtfonalmgdjboeaaDoorGrAj
import Derived.Test.YtfonalmgdjboeaaDoorGrAi
import Derived.Deep.CutBlock
import Derived.Deep.DeepCutAuto
namespace Go.Proofs.YtfonalmgdjboeaaDoor
open Go.RowKit
set_option linter.unusedVariables false

/-- How far it is looked what is wrong with aggregates. -/
def NwR (xs : List ByteArray) (ts : List Int) (kk : Nat) (e E : Int) : Prop := (e = 0 ∧ fstE ((nwL xs ts).drop kk) = E) ∨ (e ≠ 0 ∧ e = E)
/-- How far it is looked what is wrong with a row. -/
def AdR (xs : List ByteArray) (ts : List Int) (r : List V3) (jj : Nat) (e E : Int) : Prop := (e = 0 ∧ fstE ((List.zipWith ckPt (nwP xs ts) r).drop jj) = E) ∨ (e ≠ 0 ∧ e = E)
def ck1 (x : ByteArray) (t : Int) (v : V3) : Int := if x.data.toList = wCount then 0 else if chk v.1 v.2.1 v.2.2.data.toList ≠ 0 then chk v.1 v.2.1 v.2.2.data.toList else if v.1 ≠ t then 8 else 0
theorem ad_at {xs : List ByteArray} {ts : List Int} {r : List V3} (hE : nwE xs ts = 0) {k : Nat} (h1 : k < xs.length) (h2 : k < ts.length) (h3 : k < r.length) : fstE ((List.zipWith ckPt (nwP xs ts) r).drop k) = if ck1 xs[k] ts[k] r[k] ≠ 0 then ck1 xs[k] ts[k] r[k] else fstE ((List.zipWith ckPt (nwP xs ts) r).drop (k + 1)) := by
  have hpl : k < (nwP xs ts).length := by simp [nwP]; omega
  rw [fstE_at (by rw [List.length_zipWith]; omega)]
  have : (List.zipWith ckPt (nwP xs ts) r)[k]'(by rw [List.length_zipWith]; omega) = ck1 xs[k] ts[k] r[k] := by
    simp only [List.getElem_zipWith, nwP, npP]
    rw [if_neg (fun e => e ((nw_at hE).2 k h1 h2))]
    unfold ckPt ck1 Pt.wh
    by_cases hc : xs[k].data.toList = wCount
    · simp [hc]
    · simp [hc]
  rw [this]
theorem str_t {x : ByteArray} {l : List UInt8} (h : x.data.toList = l) : (x.toList == l) = true := by rw [Lib.toList_data]; simpa using h
theorem str_f {x : ByteArray} {l : List UInt8} (h : x.data.toList ≠ l) : (x.toList == l) = false := by rw [Lib.toList_data]; simpa using h
/-- What New says of what is wrong, with what is told of it. -/
theorem new_told {w : World} {ap : Option Addr} {ac : Nat} {xs : List ByteArray} {tp : Option Addr} {tc : Nat} {ts : List Int} {rp : Option Addr} {rws : List (List V3)} (h : AnyE w ap xs tp ts rp rws) (E : Int) (hE : nwE xs ts = E) (h0 : E ≠ 0) (W : World) (hW : Below w.heap.size w W) :
    Calls Tryd.prog 6 #[.slice ap xs.length ac, .slice tp ts.length tc] W fun e w' => e = .returned (.tuple #[.pointer none, .iface 53 (.int .i64 E)]) ∧ Aside (Below w.heap.size w w') :=
  (new_bad ap ac xs tp tc ts W (h.env.on hW) (h.ags.on hW) (h.tys.on hW) h.xl h.tl E hE h0).mono fun e w' hh => ⟨hh.1, hW.trans (hh.2.out.mono hW.size)⟩
theorem err_told {w : World} (het : EtAt w) (E : Int) (h0 : E ≠ 0) (W : World) (hW : Below w.heap.size w W) :
    Calls Tryd.prog 7 #[.iface 53 (.int .i64 E), .int .i64 E] W fun e w' => e = .returned (.bool true) ∧ Aside (Below w.heap.size w w') := by
  have := told_any E W (het.on hW)
  rw [errV, if_neg h0] at this
  exact this.mono fun e w' hh => ⟨hh.1, hW.trans (hh.2.mono hW.size)⟩
set_option maxHeartbeats 8000000 in
set_option maxRecDepth 20000 in
theorem tells_walk (ap : Option Addr) (ac : Nat) (xs : List ByteArray) (tp : Option Addr) (tc : Nat) (ts : List Int) (rp : Option Addr) (rc : Nat) (rws : List (List V3)) (cut : Int) (w : World) (ha : AnyE w ap xs tp ts rp rws) :
    Calls Tryd.prog 3 #[.slice ap xs.length ac, .slice tp ts.length tc, .slice rp rws.length rc, .int .i64 cut] w fun e w' => e = .returned (.bool true) ∧ Aside (Below w.heap.size w w') := by
  have HA : Aside (AnyE w ap xs tp ts rp rws) := ha
  have hxl : (xs.length : Int) ≤ 9223372036854775807 := by have := ha.xl; unfold maxLen at this; omega
  have htl : (ts.length : Int) ≤ 9223372036854775807 := by have := ha.tl; unfold maxLen at this; omega
  have hrl : (rws.length : Int) ≤ 9223372036854775807 := by have := ha.rl; unfold maxLen at this; omega
  obtain ⟨N, hN⟩ : ∃ N, xs.length = N := ⟨_, rfl⟩
  obtain ⟨T, hT⟩ : ∃ T, ts.length = T := ⟨_, rfl⟩
  obtain ⟨RN, hRN⟩ : ∃ RN, rws.length = RN := ⟨_, rfl⟩
  have HN : Hid (xs.length = N) := hN
  have HT : Hid (ts.length = T) := hT
  have HRN : Hid (rws.length = RN) := hRN
  rw [hN] at hxl ⊢
  rw [hT] at htl ⊢
  rw [hRN] at hrl ⊢
  obtain ⟨E, hE⟩ : ∃ E, nwE xs ts = E := ⟨_, rfl⟩
  have HEE : Hid (nwE xs ts = E) := hE
  obtain ⟨Z, hZ⟩ : ∃ Z : Int, (if T ≠ N then 3 else if 6 < N then 4 else 0) = Z := ⟨_, rfl⟩
  have HZ : Hid ((if T ≠ N then (3 : Int) else if 6 < N then 4 else 0) = Z) := hZ
  have HZT : Hid (Z = 0 → T = N) := fun h => by
    by_cases e : T = N
    · exact e
    · rw [if_pos e] at hZ; omega
  have HST0 : Hid (NwR xs ts 0 Z E) := by
    unfold nwE at hE
    rw [hN, hT] at hE
    by_cases e : T = N
    · rw [if_neg (fun h => h e)] at hE hZ
      by_cases h6 : 6 < N
      · rw [if_pos h6] at hE hZ
        exact (show Hid _ from .inr ⟨by omega, by omega⟩)
      · rw [if_neg h6] at hE hZ
        exact (show Hid _ from .inl ⟨hZ.symm, hE⟩)
    · rw [if_pos e] at hE hZ
      exact (show Hid _ from .inr ⟨by omega, by omega⟩)
  clear ha hN hT hRN hE hZ
  go_enter Tryd.func3, Tryd.ntmps3
  go_upto_if 27 with fail
  go_cut [9] (fun s9 wx => s9 = .int .i64 Z ∧ w = wx)
  case first => as_aux_lemma =>
    by_cases hTN : T = N
    · have qTN : ((T : Int) != (N : Int)) = false := by simp; omega
      by_cases h6 : (6 : Int) < (N : Int)
      · have hz : Z = 4 := by rw [← HZ.out, if_neg (fun h => h hTN), if_pos (by omega)]
        subst hz
        clear hTN
        go_wp2
        go_meet
        case rel => exact ⟨rfl, rfl⟩
      · have hz : Z = 0 := by rw [← HZ.out, if_neg (fun h => h hTN), if_neg (by omega)]
        subst hz
        clear hTN
        go_wp2
        go_meet
        case rel => exact ⟨rfl, rfl⟩
    · have qTN : ((T : Int) != (N : Int)) = true := by simp; omega
      have hz : Z = 3 := by rw [← HZ.out, if_pos hTN]
      subst hz
      clear hTN
      go_wp2
      go_meet
      case rel => exact ⟨rfl, rfl⟩
  case rest =>
    rename World => wa
    obtain ⟨rfl, hwa⟩ := hcut
    subst hwa
    clear HZ
    go_upto_block 0 with fail
    go_cut [9, 10, 11] (fun s9 _ _ wx => s9 = .int .i64 E ∧ w = wx)
    case first => as_aux_lemma =>
      go_wp2_with fail
      go_loopg [9, 10] N (fun gg s9 s10 wr => ∃ (kk : Nat) (e : Int), kk ≤ N ∧ N - kk ≤ gg ∧ s9 = .int .i64 e ∧ s10 = .int .i64 kk ∧ Hid (NwR xs ts kk e E) ∧ Hid (e = 0 → T = N) ∧ w = wr)
      case atStart => exact ⟨0, Z, Nat.zero_le _, by omega, rfl, rfl, HST0, HZT, rfl⟩
      case round =>
        obtain ⟨kk, e, hkk, hg, rfl, rfl, HST, HTN, rfl⟩ := hrel
        clear HST0 HZT
        by_cases he : e = 0
        · subst he
          have hTN : T = N := HTN.out rfl
          subst hTN
          clear HTN
          by_cases hlt : kk < T
          · have hltz : (kk : Int) < (T : Int) := by omega
            have h0z : (0 : Int) ≤ (kk : Int) := by omega
            have hkx : kk < xs.length := by rw [HN.out]; exact hlt
            have hkt : kk < ts.length := by rw [HT.out]; exact hlt
            obtain ⟨ab, ao, rfl, hal, hagc⟩ := HA.out.ags.resolve_left (by omega)
            obtain ⟨tb, to_, rfl, htb, htg⟩ := HA.out.tys.resolve_left (by omega)
            obtain ⟨op, nm, vt, vn, vs', gp, gn, gc, pos, name, hr⟩ := hagc kk hkx
            have x0 : w.cell? ⟨ab, ao + kk * 9, none⟩ = some (.string xs[kk]) := hr 0 _ rfl
            have t0 := htg kk hkt
            have hfe : fstE ((nwL xs ts).drop kk) = E := by
              rcases HST.out with h | h
              · exact h.2
              · exact absurd rfl h.1
            rw [nwL_at hkx hkt] at hfe
            have HFE := (show Hid _ from hfe)
            clear hr hagc htg hfe HST
            generalize xs[kk] = x at *
            generalize ts[kk] = t at *
            have nxt : ∀ k, npE x.data.toList t = k → Hid (NwR xs ts (kk + 1) k E) := fun k hk => by
              have h := HFE.out
              rw [hk] at h
              by_cases h0 : k = 0
              · rw [if_neg (fun h => h h0)] at h; exact (show Hid _ from .inl ⟨h0, h⟩)
              · rw [if_pos h0] at h; exact (show Hid _ from .inr ⟨h0, h⟩)
            have HNXT := (show Aside (∀ k, npE x.data.toList t = k → Hid (NwR xs ts (kk + 1) k E)) from nxt)
            clear HFE nxt
            by_cases hag : isAg x.data.toList = true
            · have hxw : x = ⟨#[99, 111, 117, 110, 116]⟩ ∨ x = ⟨#[115, 117, 109]⟩ ∨ x = ⟨#[108, 101, 97, 115, 116]⟩ ∨ x = ⟨#[109, 111, 115, 116]⟩ := by
                rcases isAg_four hag with h | h | h | h
                · exact .inl (byte_eq h)
                · exact .inr (.inl (byte_eq h))
                · exact .inr (.inr (.inl (byte_eq h)))
                · exact .inr (.inr (.inr (byte_eq h)))
              clear hag
              rcases hxw with rfl | rfl | rfl | rfl
              · have HQ := HNXT.out 0 (by simp [npE, isAg, wCount])
                clear HNXT
                go_wp2
                go_roundg (T - (kk + 1))
                case measure => omega
                case rel => exact ⟨kk + 1, 0, by omega, by omega, rfl, by go_num, HQ, (show Hid _ from fun _ => by trivial), rfl⟩
              · by_cases h1 : t < 1
                · have HQ := HNXT.out 1 (by simp [npE, isAg, wCount, wSum]; omega)
                  clear HNXT
                  go_wp2
                  go_roundg (T - (kk + 1))
                  case measure => omega
                  case rel => exact ⟨kk + 1, 1, by omega, by omega, rfl, by go_num, HQ, (show Hid _ from fun _ => by trivial), rfl⟩
                · by_cases h3 : 3 < t
                  · have HQ := HNXT.out 1 (by simp [npE, isAg, wCount, wSum]; omega)
                    clear HNXT
                    go_wp2
                    go_roundg (T - (kk + 1))
                    case measure => omega
                    case rel => exact ⟨kk + 1, 1, by omega, by omega, rfl, by go_num, HQ, (show Hid _ from fun _ => by trivial), rfl⟩
                  · by_cases he1 : t = 1
                    · subst he1
                      have HQ := HNXT.out 0 (by simp [npE, isAg, wCount, wSum])
                      clear HNXT
                      go_wp2
                      go_roundg (T - (kk + 1))
                      case measure => omega
                      case rel => exact ⟨kk + 1, 0, by omega, by omega, rfl, by go_num, HQ, (show Hid _ from fun _ => by trivial), rfl⟩
                    · have heb : (t != 1) = true := by simpa using he1
                      have HQ := HNXT.out 8 (by simp [npE, isAg, wCount, wSum]; omega)
                      clear HNXT
                      go_wp2
                      go_roundg (T - (kk + 1))
                      case measure => omega
                      case rel => exact ⟨kk + 1, 8, by omega, by omega, rfl, by go_num, HQ, (show Hid _ from fun _ => by trivial), rfl⟩
              · by_cases h1 : t < 1
                · have HQ := HNXT.out 1 (by simp [npE, isAg, wCount, wSum]; omega)
                  clear HNXT
                  go_wp2
                  go_roundg (T - (kk + 1))
                  case measure => omega
                  case rel => exact ⟨kk + 1, 1, by omega, by omega, rfl, by go_num, HQ, (show Hid _ from fun _ => by trivial), rfl⟩
                · by_cases h3 : 3 < t
                  · have HQ := HNXT.out 1 (by simp [npE, isAg, wCount, wSum]; omega)
                    clear HNXT
                    go_wp2
                    go_roundg (T - (kk + 1))
                    case measure => omega
                    case rel => exact ⟨kk + 1, 1, by omega, by omega, rfl, by go_num, HQ, (show Hid _ from fun _ => by trivial), rfl⟩
                  · have HQ := HNXT.out 0 (by simp [npE, isAg, wCount, wSum]; omega)
                    clear HNXT
                    go_wp2
                    go_roundg (T - (kk + 1))
                    case measure => omega
                    case rel => exact ⟨kk + 1, 0, by omega, by omega, rfl, by go_num, HQ, (show Hid _ from fun _ => by trivial), rfl⟩
              · by_cases h1 : t < 1
                · have HQ := HNXT.out 1 (by simp [npE, isAg, wCount, wSum]; omega)
                  clear HNXT
                  go_wp2
                  go_roundg (T - (kk + 1))
                  case measure => omega
                  case rel => exact ⟨kk + 1, 1, by omega, by omega, rfl, by go_num, HQ, (show Hid _ from fun _ => by trivial), rfl⟩
                · by_cases h3 : 3 < t
                  · have HQ := HNXT.out 1 (by simp [npE, isAg, wCount, wSum]; omega)
                    clear HNXT
                    go_wp2
                    go_roundg (T - (kk + 1))
                    case measure => omega
                    case rel => exact ⟨kk + 1, 1, by omega, by omega, rfl, by go_num, HQ, (show Hid _ from fun _ => by trivial), rfl⟩
                  · have HQ := HNXT.out 0 (by simp [npE, isAg, wCount, wSum]; omega)
                    clear HNXT
                    go_wp2
                    go_roundg (T - (kk + 1))
                    case measure => omega
                    case rel => exact ⟨kk + 1, 0, by omega, by omega, rfl, by go_num, HQ, (show Hid _ from fun _ => by trivial), rfl⟩
            · have haf : isAg x.data.toList = false := by simpa using hag
              have k1 := str_f (x := x) (l := [99, 111, 117, 110, 116]) (fun h => hag (by rw [h]; decide))
              have k2 := str_f (x := x) (l := [115, 117, 109]) (fun h => hag (by rw [h]; decide))
              have k3 := str_f (x := x) (l := [108, 101, 97, 115, 116]) (fun h => hag (by rw [h]; decide))
              have k4 := str_f (x := x) (l := [109, 111, 115, 116]) (fun h => hag (by rw [h]; decide))
              clear hag
              have HQ := HNXT.out 2 (by rw [npE, if_pos haf])
              clear HNXT haf
              go_wp2
              go_roundg (T - (kk + 1))
              case measure => omega
              case rel => exact ⟨kk + 1, 2, by omega, by omega, rfl, by go_num, HQ, (show Hid _ from fun _ => by trivial), rfl⟩
          · have hltz : ¬ (kk : Int) < (T : Int) := by omega
            have hE0 : E = 0 := by
              rcases HST.out with h | h
              · rw [← h.2, List.drop_eq_nil_of_le (by simp [nwL, HN.out, HT.out]; omega)]; rfl
              · exact absurd rfl h.1
            subst hE0
            clear HST
            go_wp2
            go_meet
            case rel => exact ⟨rfl, rfl⟩
        · have hE1 : e = E := by
            rcases HST.out with h | h
            · exact absurd h.1 he
            · exact h.2
          subst hE1
          have heb : (e == 0) = false := by simpa using he
          clear HST HTN
          by_cases hlt : (kk : Int) < (N : Int)
          · go_wp2
            go_meet
            case rel => exact ⟨rfl, rfl⟩
          · go_wp2
            go_meet
            case rel => exact ⟨rfl, rfl⟩
    case rest =>
      rename World => wb
      obtain ⟨rfl, hwb⟩ := hcut
      subst hwb
      clear HST0 HZT
      by_cases hE0 : E = 0
      · skip
        subst hE0
        have hTN : T = N := by
          have := (nw_at HEE.out).1
          rw [HN.out, HT.out] at this
          exact this
        subst hTN
        have hT6 : T ≤ 6 := by
          have h := HEE.out
          unfold nwE at h
          rw [HN.out, HT.out, if_neg (fun e => e rfl)] at h
          by_cases h6 : 6 < T
          · rw [if_pos h6] at h; omega
          · omega
        have c1 := new_c ap ac xs tp tc ts w HA.out.env HA.out.ags HA.out.tys HA.out.xl HA.out.tl HEE.out
        rw [HN.out, HT.out] at c1
        have C2 : Aside (∀ W, Below w.heap.size w W → Calls Tryd.prog 7 #[.nilIface, .int .i64 0] W fun e w' => e = .returned (.bool true) ∧ Below W.heap.size W w') := fun W hW => told_any 0 W (HA.out.et.on hW)
        have c3 := fun W (hW : Below w.heap.size w W) => new_c ap ac xs tp tc ts W (HA.out.env.on hW) (HA.out.ags.on hW) (HA.out.tys.on hW) HA.out.xl HA.out.tl HEE.out
        rw [HN.out, HT.out] at c3
        have C3 := (show Aside _ from c3)
        clear c3
        go_wp2_with fail
        refine c1.mono ?_
        rintro e W1 ⟨a, av, rfl, A1, L1, B1⟩
        have c2 := C2.out _ B1
        clear c1 C2
        go_wp2_with fail
        refine c2.mono ?_
        rintro e W2 ⟨rfl, B2⟩
        have B12 : Below w.heap.size w W2 := B1.trans (B2.mono B1.size)
        have c3 := C3.out _ B12
        clear c2 C3
        go_wp2_with fail
        refine c3.mono ?_
        rintro e W3 ⟨b, bv, rfl, A3, L3, B3⟩
        obtain ⟨A, V, rfl, rfl, HTL⟩ := tl_start (rws := rws) cut A1 L1 B1 B2 A3 L3 B3
        clear c3 A1 L1 B1 B2 A3 L3 B3 B12
        obtain ⟨M, hM⟩ : ∃ M, min RN 60 = M := ⟨_, rfl⟩
        have hM60 : M ≤ 60 := by omega
        have hMT : M ≤ RN := by omega
        have HMX : Hid (∀ k : Nat, k < M ↔ k < RN ∧ k < 60) := fun k => by omega
        clear hM
        generalize W3.heap.size = B at *
        go_upto_block 2 with fail
        go_cut [9, 14, 16, 17, 18, 19] (fun _ _ s16 _ _ _ wx => ∃ (q : Option Addr) (n c kk : Nat), kk ≤ 60 ∧ s16 = .slice q n c ∧ Aside (TlSt w rws (nwP xs ts) A V B cut [] q n c kk wx))
        case first => as_aux_lemma =>
          go_wp2_with fail
          go_loopg [16, 17] M (fun gg s16 s17 wr => ∃ (kk : Nat) (q : Option Addr) (n c : Nat), kk ≤ M ∧ M - kk ≤ gg ∧ s16 = .slice q n c ∧ s17 = .int .i64 kk ∧ Aside (TlSt w rws (nwP xs ts) A V B cut [] q n c kk wr))
          case atStart => exact ⟨0, none, 0, 0, Nat.zero_le _, by omega, rfl, rfl, HTL⟩
          case round =>
            obtain ⟨ii, q, n, c, hii, hgi, rfl, rfl, SR⟩ := hrel
            clear HTL
            have hdec := HMX.out ii
            by_cases hlt : ii < M
            · obtain ⟨h1, h2⟩ := hdec.1 hlt
              have hltz : (ii : Int) < (RN : Int) := by omega
              have h60z : (ii : Int) < 60 := by omega
              have hi0 : (0 : Int) ≤ (ii : Int) := by omega
              have hir : ii < rws.length := by rw [HRN.out]; exact h1
              obtain ⟨rb, ro, rfl, hrb, hrw⟩ := HA.out.rows.resolve_left (by omega)
              obtain ⟨rq, rcc, r0, r1, r2⟩ := hrw ii hir
              have HRV : Aside (RowV w (.slice rq rws[ii].length rcc) rws[ii]) := (show Aside _ from ⟨rq, rcc, rfl, r1, r2⟩)
              have x0 : wr.cell? ⟨rb, ro + ii, none⟩ = some (.slice rq rws[ii].length rcc) := by rw [SR.out.below.cell (p := ⟨rb, _, none⟩) hrb]; exact r0
              have HSZ : Aside (SizedV rws[ii] ∧ rws[ii].length ≤ maxLen) := HA.out.sz _ (List.getElem_mem hir)
              have HMEM : Aside (rws[ii] ∈ rws) := List.getElem_mem hir
              have hLm : (rws[ii].length : Int) ≤ 9223372036854775807 := by have := HSZ.out.2; unfold maxLen at this; omega
              clear hrw r0 r1 r2 hdec
              generalize rws[ii] = r at *
              obtain ⟨L, hL⟩ : ∃ L, r.length = L := ⟨_, rfl⟩
              have HL : Hid (r.length = L) := hL
              rw [hL] at HRV x0 hLm
              clear hL
              obtain ⟨E, hE⟩ : ∃ E, adE (nwP xs ts) r = E := ⟨_, rfl⟩
              have HAE : Hid (adE (nwP xs ts) r = E) := hE
              clear hE
              have BWR : Aside (Below w.heap.size w wr) := SR.out.below
              obtain ⟨Y, hY⟩ : ∃ Y : Int, (if L ≠ T then 3 else 0) = Y := ⟨_, rfl⟩
              have HY : Hid ((if L ≠ T then 3 else 0) = Y) := hY
              have HYL : Hid (Y = 0 → L = T) := fun h => by
                by_cases e : L = T
                · exact e
                · rw [if_pos e] at hY; omega
              have HSTY : Hid (AdR xs ts r 0 Y E) := by
                have h := HAE.out
                have hpl : (nwP xs ts).length = T := by simp [nwP, HN.out, HT.out]
                rw [adE, HL.out, hpl] at h
                by_cases e : L = T
                · rw [if_neg (fun h => h e)] at h hY
                  exact (show Hid _ from .inl ⟨hY.symm, h⟩)
                · rw [if_pos e] at h hY
                  exact (show Hid _ from .inr ⟨by omega, by omega⟩)
              clear hY
              go_upto_if 127 with fail
              go_cut [9] from 109 to 183 (fun s9 wx => s9 = .int .i64 Y ∧ wr = wx)
              case first => as_aux_lemma =>
                by_cases hLN : L = T
                · have qLN : ((L : Int) != (T : Int)) = false := by simp; omega
                  have hy : Y = 0 := by rw [← HY.out, if_neg (fun h => h hLN)]
                  subst hy
                  clear hLN
                  go_wp2
                  go_meet
                  case rel => exact ⟨rfl, rfl⟩
                · have qLN : ((L : Int) != (T : Int)) = true := by simp; omega
                  have hy : Y = 3 := by rw [← HY.out, if_pos hLN]
                  subst hy
                  clear hLN
                  go_wp2
                  go_meet
                  case rel => exact ⟨rfl, rfl⟩
              case rest =>
                rename World => wb
                obtain ⟨rfl, hwb⟩ := hcut
                subst hwb
                clear HY x0
                go_upto_block 4 with fail
                go_cut [9, 19] from 109 to 183 (fun s9 _ wx => s9 = .int .i64 E ∧ Aside (Below wr.heap.size wr wx))
                case first => as_aux_lemma =>
                  go_wp2_with fail
                  go_loopg [9, 19] L (fun gg s9 s19 wz => ∃ (jj : Nat) (e : Int), jj ≤ L ∧ L - jj ≤ gg ∧ s9 = .int .i64 e ∧ s19 = .int .i64 jj ∧ Hid (AdR xs ts r jj e E) ∧ Hid (e = 0 → L = T) ∧ Aside (Below wr.heap.size wr wz))
                  case atStart => exact ⟨0, Y, Nat.zero_le _, by omega, rfl, rfl, HSTY, HYL, (show Aside _ from Below.refl _ _)⟩
                  case round =>
                    rename World => wx
                    obtain ⟨jj, e, hjj, hgj, rfl, rfl, HST, HYR, BZ⟩ := hrel
                    clear HSTY HYL
                    by_cases he : e = 0
                    · subst he
                      have hLT : L = T := HYR.out rfl
                      by_cases hltj : jj < L
                      · have hjz : (jj : Int) < (L : Int) := by omega
                        have hj0 : (0 : Int) ≤ (jj : Int) := by omega
                        have hjT : (jj : Int) < (T : Int) := by omega
                        have hjx : jj < xs.length := by rw [HN.out]; omega
                        have hjt : jj < ts.length := by rw [HT.out]; omega
                        have hjr : jj < r.length := by rw [HL.out]; exact hltj
                        obtain ⟨ab, ao, rfl, hal, hagc⟩ := HA.out.ags.resolve_left (by omega)
                        obtain ⟨tb, to_, rfl, htb, htg⟩ := HA.out.tys.resolve_left (by omega)
                        obtain ⟨op, nm, vt, vn, vs', gp, gn, gc, pos, name, hr⟩ := hagc jj hjx
                        have BWZ : Aside (Below w.heap.size w wx) := BWR.out.trans (BZ.out.mono BWR.out.size)
                        have x1 : wx.cell? ⟨ab, ao + jj * 9, none⟩ = some (.string xs[jj]) := by rw [BWZ.out.cell (p := ⟨ab, _, none⟩) hal]; exact hr 0 _ rfl
                        have t1 : wx.cell? ⟨tb, to_ + jj, none⟩ = some (.int .i64 ts[jj]) := by rw [BWZ.out.cell (p := ⟨tb, _, none⟩) htb]; exact htg jj hjt
                        obtain ⟨rq0, rc0, eq0, rv1, rv2⟩ := HRV.out
                        injection eq0 with eq1 eq2 eq3
                        subst eq1 eq3
                        clear eq2
                        obtain ⟨g, o, rfl, hgl, hgc⟩ := (rv1.on BWZ.out).resolve_left (by rw [HL.out]; omega)
                        obtain ⟨v0, v1, v2⟩ := hgc jj hjr
                        have hfe : fstE ((List.zipWith ckPt (nwP xs ts) r).drop jj) = E := by
                          rcases HST.out with h | h
                          · exact h.2
                          · exact absurd rfl h.1
                        rw [ad_at HEE.out hjx hjt hjr] at hfe
                        have hvs := (HSZ.out.1 _ (List.getElem_mem hjr)).1
                        have HFE := (show Hid _ from hfe)
                        clear hr hagc htg hgc hfe HST rv1 rv2
                        generalize xs[jj] = x at *
                        generalize ts[jj] = t at *
                        generalize r[jj] = y at *
                        obtain ⟨yt, yn, ys⟩ := y
                        simp only at v0 v1 v2 hvs
                        have y3 : wx.rangeAt g (o + jj * 3) [.int .i64 yt, .int .i64 yn, .string ys] := by
                          intro i v hi
                          match i, hi with
                          | 0, hi => simp at hi; subst hi; exact v0
                          | 1, hi => simp at hi; subst hi; exact v1
                          | 2, hi => simp at hi; subst hi; exact v2
                          | i + 3, hi => simp at hi
                        have nxt : ∀ k, ck1 x t (yt, yn, ys) = k → Hid (AdR xs ts r (jj + 1) k E) := fun k hk => by
                          have h := HFE.out
                          rw [hk] at h
                          by_cases h0 : k = 0
                          · rw [if_neg (fun h => h h0)] at h; exact (show Hid _ from .inl ⟨h0, h⟩)
                          · rw [if_pos h0] at h; exact (show Hid _ from .inr ⟨h0, h⟩)
                        clear HFE hLT hjx hjt hjr
                        by_cases hco : x.data.toList = wCount
                        · have HQ := nxt 0 (by rw [ck1, if_pos hco])
                          have k1 := str_t (x := x) (l := [99, 111, 117, 110, 116]) hco
                          clear nxt v0 v1 v2 y3 hco
                          go_wp2
                          go_roundg (L - (jj + 1))
                          case measure => omega
                          case rel => exact ⟨jj + 1, 0, by omega, by omega, rfl, by go_num, HQ, (show Hid _ from fun _ => HYR.out trivial), BZ⟩
                        · skip
                          have k1 := str_f (x := x) (l := [99, 111, 117, 110, 116]) hco
                          obtain ⟨C, hC⟩ : ∃ C, chk yt yn ys.data.toList = C := ⟨_, rfl⟩
                          have cV := refVal_any yt yn ys wx hvs
                          have htx : tb < wx.heap.size := by have := BWZ.out.size; omega
                          rw [hC] at cV
                          have nxt2 : ∀ k, (if C ≠ 0 then C else if yt ≠ t then 8 else 0) = k → Hid (AdR xs ts r (jj + 1) k E) := fun k hk => nxt k (by rw [ck1, if_neg hco, hC]; exact hk)
                          have HNX := (show Aside (∀ k, (if C ≠ 0 then C else if yt ≠ t then 8 else 0) = k → Hid (AdR xs ts r (jj + 1) k E)) from nxt2)
                          clear nxt nxt2 hC hco v1 v2 hvs
                          go_wp2_with (refine wpList_load_mid rfl 26 _ rfl g (o + jj * 3) rfl _ _ y3 Tryd.underlying26 rfl size_valB ?_)
                          refine cV.mono ?_
                          rintro e' X1 ⟨rfl, B5⟩
                          have u0 : X1.cell? ⟨g, o + jj * 3, none⟩ = some (.int .i64 yt) := by rw [B5.cell (p := ⟨g, _, none⟩) hgl]; exact v0
                          have u1 : X1.cell? ⟨tb, to_ + jj, none⟩ = some (.int .i64 t) := by rw [B5.cell (p := ⟨tb, _, none⟩) htx]; exact t1
                          have BZ1 : Aside (Below wr.heap.size wr X1) := BZ.out.trans (B5.mono BZ.out.size)
                          clear cV y3 v0 t1 x1 B5 BZ BWZ
                          by_cases hc0 : C = 0
                          · subst hc0
                            by_cases hyt : yt = t
                            · subst hyt
                              have HQ := HNX.out 0 (by simp)
                              have qy : (yt != yt) = false := by simp
                              clear HNX
                              go_wp2
                              go_quiet (fail)
                              go_wp2
                              go_roundg (L - (jj + 1))
                              case measure => omega
                              case rel => exact ⟨jj + 1, 0, by omega, by omega, rfl, by go_num, HQ, (show Hid _ from fun _ => HYR.out trivial), (show Aside _ from below_drewN BZ1.out _)⟩
                            · have qy : (yt != t) = true := by simpa using hyt
                              have HQ := HNX.out 8 (by simp [hyt])
                              clear HNX
                              go_wp2
                              go_quiet (fail)
                              go_wp2
                              go_roundg (L - (jj + 1))
                              case measure => omega
                              case rel => exact ⟨jj + 1, 8, by omega, by omega, rfl, by go_num, HQ, (show Hid _ from fun h => absurd h (by decide)), (show Aside _ from below_drewN BZ1.out _)⟩
                          · have qc : (C == 0) = false := by simpa using hc0
                            have HQ := HNX.out C (by simp [hc0])
                            clear HNX
                            go_wp2
                            go_quiet (fail)
                            go_wp2
                            go_roundg (L - (jj + 1))
                            case measure => omega
                            case rel => exact ⟨jj + 1, C, by omega, by omega, rfl, by go_num, HQ, (show Hid _ from fun h => absurd h hc0), (show Aside _ from below_drewN BZ1.out _)⟩
                      · have hjz : ¬ (jj : Int) < (L : Int) := by omega
                        have hE0 : E = 0 := by
                          rcases HST.out with h | h
                          · rw [← h.2, List.drop_eq_nil_of_le (by rw [List.length_zipWith, HL.out]; omega)]; rfl
                          · exact absurd rfl h.1
                        subst hE0
                        clear HST hLT
                        go_wp2
                        go_meet
                        case rel => exact ⟨rfl, BZ⟩
                    · have hE1 : e = E := by
                        rcases HST.out with h | h
                        · exact absurd h.1 he
                        · exact h.2
                      subst hE1
                      have heb : (e == 0) = false := by simpa using he
                      clear HST HYR
                      by_cases hjz : (jj : Int) < (L : Int)
                      · go_wp2
                        go_meet
                        case rel => exact ⟨rfl, BZ⟩
                      · go_wp2
                        go_meet
                        case rel => exact ⟨rfl, BZ⟩
                case rest =>
                  rename World => wc
                  obtain ⟨rfl, BZ⟩ := hcut
                  clear HSTY HYL
                  have SZ : Aside (TlSt w rws (nwP xs ts) A V B cut [] q n c ii wc) := SR.out.on BZ.out
                  clear SR BZ BWR
                  go_upto_if 165 with fail
                  go_cut [14] from 109 to 183 (fun s14 wx => s14 = .bool true ∧ Aside (TlSt w rws (nwP xs ts) A V B cut (if E = 0 then [r] else []) q n c (ii + 1) wx))
                  case first => as_aux_lemma =>
                    by_cases hic : (ii : Int) < cut
                    · skip
                      have d1 := tl_add SZ.out h2 r HMEM.out rq rcc (by rw [HL.out]; exact HRV.out) HSZ.out.1 HSZ.out.2 0 (.inl ⟨hic, rfl⟩)
                      rw [HL.out, HAE.out] at d1
                      have D2 : Aside (∀ W, Below w.heap.size w W → Calls Tryd.prog 7 #[errV E, .int .i64 E] W fun e w' => e = .returned (.bool true) ∧ Below W.heap.size W w') := fun W hW => told_any E W (HA.out.et.on hW)
                      clear HAE HSZ HRV SZ
                      generalize errV E = EV at *
                      go_wp2_with fail
                      refine d1.mono ?_
                      rintro e' W5 ⟨rfl, S5⟩
                      have d2 := D2.out _ S5.out.below
                      clear d1 D2
                      go_wp2_with fail
                      refine d2.mono ?_
                      rintro e' W6 ⟨rfl, B6⟩
                      clear d2
                      go_wp2
                      go_meet
                      case rel => exact ⟨rfl, (show Aside _ from S5.out.on B6)⟩
                    · skip
                      have d1 := tl_add SZ.out h2 r HMEM.out rq rcc (by rw [HL.out]; exact HRV.out) HSZ.out.1 HSZ.out.2 1 (.inr ⟨hic, rfl⟩)
                      rw [HL.out, HAE.out] at d1
                      have D2 : Aside (∀ W, Below w.heap.size w W → Calls Tryd.prog 7 #[errV E, .int .i64 E] W fun e w' => e = .returned (.bool true) ∧ Below W.heap.size W w') := fun W hW => told_any E W (HA.out.et.on hW)
                      clear HAE HSZ HRV SZ
                      generalize errV E = EV at *
                      go_wp2_with fail
                      refine d1.mono ?_
                      rintro e' W5 ⟨rfl, S5⟩
                      have d2 := D2.out _ S5.out.below
                      clear d1 D2
                      go_wp2_with fail
                      refine d2.mono ?_
                      rintro e' W6 ⟨rfl, B6⟩
                      clear d2
                      go_wp2
                      go_meet
                      case rel => exact ⟨rfl, (show Aside _ from S5.out.on B6)⟩
                  case rest =>
                    rename World => wd
                    obtain ⟨rfl, S6⟩ := hcut
                    clear SZ HAE HSZ HMEM
                    by_cases hE0 : E = 0
                    · subst hE0
                      obtain ⟨cs, o1, o2, o3, o4⟩ := tl_own (r := r) (show TlSt w rws (nwP xs ts) A V B cut [r] q n c (ii + 1) wd from S6.out)
                      have O4 := (show Aside _ from o4 _ HRV.out)
                      have O1 := (show Aside _ from o1)
                      clear S6 o1 o4
                      go_wp2_with (refine wpList_append_row rfl _ _ rfl B (.slice q n c) n cs rfl (lown_below O1.out (alB wd _)) wd.heap.size 1 rq L rcc rfl (news1 rfl _) (by omega) (by simp; omega) ?_; intro q' c' W7 p1 g1)
                      have S7 : Aside (TlSt w rws (nwP xs ts) A V B cut [] q' (n + 1) c' (ii + 1) W7) := O4.out _ (alB wd _) _ _ _ p1 g1
                      clear O4 O1 p1 g1
                      go_wp2
                      go_roundg (M - (ii + 1))
                      case measure => omega
                      case rel => exact ⟨ii + 1, q', n + 1, c', by omega, by omega, rfl, by go_num, S7⟩
                    · have hEb : (E == 0) = false := by simpa using hE0
                      have S7 : Aside (TlSt w rws (nwP xs ts) A V B cut [] q n c (ii + 1) wd) := by
                        have := S6.out
                        rw [if_neg hE0] at this
                        exact (show Aside _ from this)
                      clear S6
                      go_wp2
                      go_roundg (M - (ii + 1))
                      case measure => omega
                      case rel => exact ⟨ii + 1, q, n, c, by omega, by omega, rfl, by go_num, S7⟩
            · clear hdec
              have hn60 : ii ≤ 60 := by omega
              by_cases hr : ii < RN
              · have hltz : (ii : Int) < (RN : Int) := by omega
                have h60z : ¬ (ii : Int) < 60 := fun h => hlt ((HMX.out ii).2 ⟨hr, by omega⟩)
                go_wp2
                go_meet
                case rel => exact ⟨q, n, c, ii, hn60, rfl, SR⟩
              · have hltz : ¬ (ii : Int) < (RN : Int) := by omega
                go_wp2
                go_meet
                case rel => exact ⟨q, n, c, ii, hn60, rfl, SR⟩
        case rest => as_aux_lemma =>
          rename World => wc
          obtain ⟨q, n, c, kk, hk60, rfl, SR⟩ := hcut
          clear HTL HMX
          obtain ⟨gs, hgn, cJ⟩ := tl_join SR.out hk60
          have hn60 : n ≤ 60 ∨ 60 < n := by omega
          clear SR hn60
          go_wp2_with fail
          refine cJ.mono ?_
          rintro e X1 ⟨rfl, J1⟩
          clear cJ
          have hVL : (totV xs gs).length = T := by simp [totV, totL, HN.out]
          by_cases hT0 : totE xs gs = 0
          · have c2 := tl_total HA.out HEE.out J1.out ac c (fun e W => ∃ q' c', e = .returned (.tuple #[.slice q' xs.length c', .int .i64 0]) ∧ Aside (ValsAt W q' (totV xs gs)) ∧ Aside (JnSt w rws (nwP xs ts) (A 0) (V 0) q gs W)) (fun _ q' c' W' h1 h2 => ⟨q', c', rfl, (show Aside _ from h1), (show Aside _ from J1.out.on h2)⟩) (fun E h h0 => absurd (h.symm.trans hT0) h0)
            rw [HN.out, hgn] at c2
            clear J1
            go_wp2_with fail
            refine c2.mono ?_
            rintro e X2 ⟨q2, d2, rfl, V2, J2⟩
            have c3 := (tl_result HEE.out J2.out).1 hT0
            rw [HN.out] at c3
            clear c2
            go_wp2_with fail
            refine c3.mono ?_
            rintro e X3 ⟨⟨q3, d3, rfl, V3⟩, K3⟩
            have c4 := told_any 0 X3 (HA.out.et.on (J2.out.on K3.out).old)
            rw [show errV 0 = Value.nilIface from rfl] at c4
            clear c3
            go_wp2_with fail
            refine c4.mono ?_
            rintro e X4 ⟨rfl, K4⟩
            have c5 := valsEq_c q3 q2 d3 d2 (totV xs gs) X4 (by rw [hVL]; omega) (V3.out.on K4) ((V2.out.on K3.out).on K4)
            rw [hVL] at c5
            clear c4 V2 V3
            go_wp2_with fail
            refine c5.mono ?_
            rintro e X5 ⟨rfl, K5⟩
            clear c5
            have J5 : Aside (JnSt w rws (nwP xs ts) (A 0) (V 0) q gs X5) := ((J2.out.on K3.out).on K4).on K5.out
            have c6 := count_c (A 0) (V 0) _ gs X5 J5.out.acc
            rw [hgn] at c6
            clear J2 K3 K4 K5
            go_wp2_with (go_at_call 14; refine c6.mono ?_; rintro e w6 ⟨rfl, h6⟩; subst h6)
            go_ret
            exact ⟨rfl, (show Aside _ from J5.out.old)⟩
          · obtain ⟨E, hE⟩ : ∃ E, totE xs gs = E := ⟨_, rfl⟩
            have hE0 : E ≠ 0 := fun h => hT0 (hE.trans h)
            have c2 := tl_total HA.out HEE.out J1.out ac c (fun e W => e = .returned (.tuple #[.slice none 0 0, .int .i64 E]) ∧ Aside (JnSt w rws (nwP xs ts) (A 0) (V 0) q gs W)) (fun h => absurd h hT0) (fun E' h h0 W' h2 => by
              obtain rfl : E = E' := hE.symm.trans h
              exact ⟨rfl, (show Aside _ from J1.out.on h2)⟩)
            rw [HN.out, hgn] at c2
            clear J1 hT0
            go_wp2_with fail
            refine c2.mono ?_
            rintro e X2 ⟨rfl, J2⟩
            have c3 := (tl_result HEE.out J2.out).2 E hE hE0
            clear c2
            go_wp2_with fail
            refine c3.mono ?_
            rintro e X3 ⟨rfl, K3⟩
            have c4 := told_any E X3 (HA.out.et.on (J2.out.on K3.out).old)
            rw [errV, if_neg hE0] at c4
            clear c3
            go_wp2_with fail
            refine c4.mono ?_
            rintro e X4 ⟨rfl, K4⟩
            have c5 := valsEq_c none none 0 0 [] X4 (Nat.zero_le _) (.inl rfl) (.inl rfl)
            rw [show ([] : List V3).length = 0 from rfl] at c5
            clear c4
            go_wp2_with fail
            refine c5.mono ?_
            rintro e X5 ⟨rfl, K5⟩
            clear c5
            have J5 : Aside (JnSt w rws (nwP xs ts) (A 0) (V 0) q gs X5) := ((J2.out.on K3.out).on K4).on K5.out
            have c6 := count_c (A 0) (V 0) _ gs X5 J5.out.acc
            rw [hgn] at c6
            clear J2 K3 K4 K5
            go_wp2_with (go_at_call 14; refine c6.mono ?_; rintro e w6 ⟨rfl, h6⟩; subst h6)
            go_ret
            exact ⟨rfl, (show Aside _ from J5.out.old)⟩
      · skip
        have n1 := fun W hW => new_told (ac := ac) (tc := tc) HA.out E HEE.out hE0 W hW
        have n2 := fun W hW => err_told HA.out.et E hE0 W hW
        rw [HN.out, HT.out] at n1
        have hEz : ¬ E = 0 := hE0
        have hEb : (E != 0) = true := by simpa using hEz
        have BWW : Aside (Below w.heap.size w w) := (show Aside _ from Below.refl _ _)
        clear HEE
        go_wp2_with fail
        refine (n1 _ BWW.out).mono ?_
        rintro e W1 ⟨rfl, B1⟩
        clear n1
        go_wp2_with fail
        refine (n2 _ B1.out).mono ?_
        rintro e W2 ⟨rfl, B2⟩
        clear n2
        go_wp2
        go_ret
        exact ⟨rfl, B2⟩
end Go.Proofs.YtfonalmgdjboeaaDoor
