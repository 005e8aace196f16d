/-
  What quoteAhead and tokenAhead of package lex say of any text.
-/
import Derived.Test.YtomakklbfjkdpaaGreatDoorLex3
namespace Go.Proofs.YtomakklbfjkdpaaGreatDoor
open Go.RowKit
set_option linter.unusedVariables false

/-- How far a Quote goes on, and all behind it that begins anew at once; b: is the beginning within? -/
def togN : Bool → List UInt8 → Nat
  | _, [] => 0
  | b, c :: l => if c = 39 then togN (!b) l + 1 else if b = true then togN b l + 1 else 0
theorem togN_le : ∀ (l : List UInt8) (b : Bool), togN b l ≤ l.length
  | [], b => by simp [togN]
  | c :: l, b => by
    rw [togN]
    split
    · have := togN_le l (!b); simp; omega
    · split
      · have := togN_le l b; simp; omega
      · simp
theorem tog_some : ∀ (n : Nat) (l : List UInt8) (k : Nat), l.length ≤ n → qscan l = some k → togN true l = k
  | _, [], k, _, h => by simp [qscan] at h
  | 0, _ :: _, _, hn, _ => by simp at hn
  | n + 1, c :: l, k, hn, h => by
    by_cases hc : c = 39
    · subst hc
      cases l with
      | nil => simp [qscan] at h; subst h; simp [togN]
      | cons d r =>
        by_cases hd : d = 39
        · subst hd
          rw [qscan_two, Option.map_eq_some_iff] at h
          obtain ⟨j, hj, rfl⟩ := h
          have := tog_some n r j (by simp at hn; omega) hj
          simp [togN, this]
        · rw [qscan_end _ (by simpa using hd)] at h
          cases h
          simp [togN, hd]
    · rw [qscan_ne c l hc, Option.map_eq_some_iff] at h
      obtain ⟨j, hj, rfl⟩ := h
      have := tog_some n l j (by simp at hn; omega) hj
      simp [togN, hc, this]
theorem tog_none : ∀ (n : Nat) (l : List UInt8), l.length ≤ n → qscan l = none → togN true l = l.length ∧ rd l = none
  | _, [], _, _ => by simp [togN, rd]
  | 0, _ :: _, hn, _ => by simp at hn
  | n + 1, c :: l, hn, h => by
    by_cases hc : c = 39
    · subst hc
      cases l with
      | nil => simp [qscan] at h
      | cons d r =>
        by_cases hd : d = 39
        · subst hd
          rw [qscan_two, Option.map_eq_none_iff] at h
          obtain ⟨h1, h2⟩ := tog_none n r (by simp at hn; omega) h
          exact ⟨by simp [togN, h1], by rw [rd_two, h2]; rfl⟩
        · rw [qscan_end _ (by simpa using hd)] at h
          cases h
    · rw [qscan_ne c l hc, Option.map_eq_none_iff] at h
      obtain ⟨h1, h2⟩ := tog_none n l (by simp at hn; omega) h
      exact ⟨by simp [togN, hc, h1], by rw [rd_ne c l hc, h2]; rfl⟩
theorem quo_tog (r : List UInt8) : quoTok r = if qE (r.take (togN true r)) = 0 then (togN true r + 1, 0) else (0, qE (r.take (togN true r))) := by
  rw [quoTok]
  cases h : qscan r with
  | none =>
    obtain ⟨h1, h2⟩ := tog_none _ r (Nat.le_refl _) h
    have : qE (r.take (togN true r)) = 2 := by rw [h1, List.take_length, qE, h2]
    rw [this]; rfl
  | some k => rw [tog_some _ r k (Nat.le_refl _) h]
theorem qE_cases (x : List UInt8) : qE x = 0 ∨ qE x = 2 ∨ qE x = 4 := by
  rw [qE]
  split
  · simp
  · split
    · simp
    · split <;> simp
theorem read_qE {X : ByteArray} {t : List UInt8} (h : X.data.toList = 39 :: t) : (readV X).2.2.2 = qE t := by
  have hz : X.size = t.length + 1 := by rw [Lib.size_eq, h, List.length_cons]
  have hp : 0 < X.size := by omega
  have h1 : X.data.toList ≠ [116, 114, 117, 101] := by rw [h]; intro e; injection e with e _; revert e; decide
  have h2 : X.data.toList ≠ [102, 97, 108, 115, 101] := by rw [h]; intro e; injection e with e _; revert e; decide
  have h0 : (X[0].toNat : Int) = 39 := by
    have := head_at hp
    rw [h] at this
    have : (39 : UInt8) = X[0] := Option.some.inj this
    rw [← this]; rfl
  have hd : X.data.toList.drop 1 = t := by rw [h]; rfl
  rw [qE]
  cases hr : rd t with
  | none => rw [read_rd_none h1 h2 hp h0 (by rw [hd]; exact hr)]
  | some l =>
    rw [read_rd_some h1 h2 hp h0 (by rw [hd]; exact hr)]
    simp only
    split
    · rfl
    · split <;> rfl
theorem quo1_quote (b : Bool) (p : Nat) (w : World) (hp : w.cell? ⟨p, 0, none⟩ = some (.bool b)) (hf : w.frozen? ⟨p, 0, none⟩ = false) :
    Calls Tryz.prog 95 #[.int .u8 39, .pointer (some ⟨p, 0, none⟩)] w fun e w' => e = .returned (.bool true) ∧ w' = w.setCell ⟨p, 0, none⟩ (.bool !b) := by
  go_enter Tryz.func95, Tryz.ntmps95
  go_wp2
  go_ret
  exact ⟨rfl, rfl⟩
theorem quo1_other (r : Int) (b : Bool) (p : Nat) (w : World) (hr : r ≠ 39) (hp : w.cell? ⟨p, 0, none⟩ = some (.bool b)) :
    Calls Tryz.prog 95 #[.int .u8 r, .pointer (some ⟨p, 0, none⟩)] w fun e w' => e = .returned (.bool b) ∧ w' = w := by
  have e1 : (r == 39) = false := by simpa using hr
  go_enter Tryz.func95, Tryz.ntmps95
  go_wp2
  go_ret
  exact ⟨rfl, rfl⟩
theorem tog_quote {s : ByteArray} {k : Nat} {b : Bool} (h : k < s.size) (hc : s[k] = 39) {E : Nat} (hE : E = k + togN b (s.data.toList.drop k)) : E = k + 1 + togN (!b) (s.data.toList.drop (k + 1)) := by
  rw [hE, drop_cons s k h, togN, if_pos hc]; omega
theorem tog_in {s : ByteArray} {k : Nat} (h : k < s.size) (hc : s[k] ≠ 39) {E : Nat} (hE : E = k + togN true (s.data.toList.drop k)) : E = k + 1 + togN true (s.data.toList.drop (k + 1)) := by
  rw [hE, drop_cons s k h, togN, if_neg hc, if_pos rfl]; omega
theorem tog_out {s : ByteArray} {k : Nat} (h : k < s.size) (hc : s[k] ≠ 39) {E : Nat} (hE : E = k + togN false (s.data.toList.drop k)) : E = k := by
  rw [hE, drop_cons s k h, togN, if_neg hc, if_neg (by decide)]; rfl
theorem tog_end {s : ByteArray} {k : Nat} {b : Bool} (h : s.size ≤ k) (hk : k ≤ s.size) {E : Nat} (hE : E = k + togN b (s.data.toList.drop k)) : E = s.size := by
  rw [hE, List.drop_eq_nil_of_le (by simp; omega)]; simp [togN]; omega
theorem u8_39n {c : UInt8} (h : c ≠ 39) : (c.toNat : Int) ≠ 39 := fun e => h (UInt8.toNat_inj.1 (by rw [show (39 : UInt8).toNat = 39 from rfl]; omega))
theorem cell_lt4 {w : World} {b o : Nat} {v : Value} (h : w.cell? ⟨b, o, none⟩ = some v) : b < w.heap.size := by
  rcases Nat.lt_or_ge b w.heap.size with h' | h'
  · exact h'
  · simp [World.cell?, Array.getElem?_eq_none h'] at h
set_option maxHeartbeats 4000000 in
theorem goesOn_quote (s : ByteArray) (p : Nat) (w : World) (hs : s.size ≤ maxLen) (hp : w.cell? ⟨p, 0, none⟩ = some (.bool false)) (hf : w.frozen? ⟨p, 0, none⟩ = false) :
    Calls Tryz.prog 43 #[.string s, .func (.func 95) #[] #[.pointer (some ⟨p, 0, none⟩)]] w fun e w' => e = .returned (.int .i64 (togN false s.data.toList : Nat)) ∧ Below p w w' := by
  unfold maxLen at hs
  obtain ⟨E, hE⟩ : ∃ E, togN false s.data.toList = E := ⟨_, rfl⟩
  rw [hE]
  go_enter Tryz.func43, Tryz.ntmps43
  go_wp2
  go_loopg [5, 8] s.size (fun gg _ s8 wr => ∃ (kk : Nat) (b : Bool), kk ≤ s.size ∧ s.size - kk ≤ gg ∧ s8 = .int .i64 kk ∧ Aside (Below p w wr) ∧ wr.cell? ⟨p, 0, none⟩ = some (.bool b) ∧ wr.frozen? ⟨p, 0, none⟩ = false ∧ Hid (E = kk + togN b (s.data.toList.drop kk)))
  case atStart => exact ⟨0, false, Nat.zero_le _, by omega, rfl, Below.refl _ w, hp, hf, (show Hid _ by simp [Hid, hE])⟩
  case round =>
    obtain ⟨kk, b, hkk, hg, rfl, BW, hpc, hpf, HE⟩ := hrel
    clear hp hf
    by_cases hlt : kk < s.size
    · have hltz : (kk : Int) < (s.size : Int) := by omega
      by_cases hc : s[kk] = 39
      · have HE2 : Hid (E = kk + 1 + togN (!b) (s.data.toList.drop (kk + 1))) := tog_quote hlt hc HE.out
        have hcz : (s[kk].toNat : Int) = 39 := by rw [hc]; rfl
        have cS := quo1_quote b p wr hpc hpf
        rw [← hcz] at cS
        have BW2 := BW.out.setCell (p := ⟨p, 0, none⟩) (Nat.le_refl _) (.bool !b)
        have hpc3 := World.cell?_setCell_same wr ⟨p, 0, none⟩ (.bool !b) hpc
        have hpf3 : (wr.setCell ⟨p, 0, none⟩ (.bool !b)).frozen? ⟨p, 0, none⟩ = false := by
          have : (wr.setCell ⟨p, 0, none⟩ (.bool !b)).frozen? ⟨p, 0, none⟩ = wr.frozen? ⟨p, 0, none⟩ := by simp
          rw [this]; exact hpf
        clear hc HE hcz
        go_wp2_with fail
        refine cS.mono ?_
        rintro e w' ⟨rfl, rfl⟩
        go_wp2
        go_roundg (s.size - (kk + 1))
        case measure => omega
        case rel => exact ⟨kk + 1, !b, by omega, by omega, by go_num, BW2, hpc3, hpf3, HE2⟩
      · have hcz := u8_39n hc
        have cS := quo1_other _ b p wr hcz hpc
        cases b
        · obtain rfl : kk = E := (tog_out hlt hc HE.out).symm
          clear hc HE hcz
          go_wp2_with fail
          refine cS.mono ?_
          rintro e w' ⟨rfl, hq⟩
          obtain rfl : wr = w' := hq.symm
          go_wp2
          go_ret
          exact ⟨rfl, BW.out⟩
        · have HE2 : Hid (E = kk + 1 + togN true (s.data.toList.drop (kk + 1))) := tog_in hlt hc HE.out
          clear hc HE hcz
          go_wp2_with fail
          refine cS.mono ?_
          rintro e w' ⟨rfl, hq⟩
          obtain rfl : wr = w' := hq.symm
          go_wp2
          go_roundg (s.size - (kk + 1))
          case measure => omega
          case rel => exact ⟨kk + 1, true, by omega, by omega, by go_num, BW, hpc, hpf, HE2⟩
    · have hltz : ¬ (kk : Int) < (s.size : Int) := by omega
      obtain rfl : s.size = E := (tog_end (by omega) hkk HE.out).symm
      clear HE
      go_wp2
      go_ret
      exact ⟨rfl, BW.out⟩
theorem parse_lex (s : ByteArray) (w : World) (hs : s.size ≤ 140737488355328) (henv : Env w) :
    Calls Tryz.prog 96 #[.string s] w fun e w' => (∃ (t n : Int) (x : ByteArray) (k : Int), e = .returned (.tuple #[.agg #[.int .i64 t, .int .i64 n, .string x], errV k]) ∧ Hid ((readV s).2.2.2 = k)) ∧ Below w.heap.size w w' :=
  (parse_any s w hs henv).mono fun e w' hh => ⟨⟨_, _, ⟨(readV s).2.2.1.toArray⟩, _, hh.1, rfl⟩, hh.2⟩
set_option maxHeartbeats 4000000 in
set_option maxRecDepth 20000 in
theorem quoteAhead_any (s : ByteArray) (r : List UInt8) (w : World) (henv : Env w) (hs : s.size ≤ 140737488355328) (hr : s.data.toList = 39 :: r) :
    Calls Tryz.prog 71 #[.string s] w fun e w' => (∃ (n : Nat) (k : Int), e = .returned (.tuple #[.int .i64 n, .int .i64 k]) ∧ Hid (quoTok r = (n, k))) ∧ Below w.heap.size w w' := by
  have hsz : s.size = r.length + 1 := by rw [Lib.size_eq, hr, List.length_cons]
  have hN : togN false s.data.toList = togN true r + 1 := by rw [hr, togN, if_pos rfl]; rfl
  have hle := togN_le r true
  obtain ⟨X, hX, hX1, hX2⟩ := slice_to s (togN true r + 1) (by omega)
  have HX : Hid ((readV X).2.2.2 = qE (r.take (togN true r))) := read_qE (by rw [hX1, hr, List.take_succ_cons])
  have HQ : Hid (quoTok r = if qE (r.take (togN true r)) = 0 then (togN true r + 1, 0) else (0, qE (r.take (togN true r)))) := quo_tog r
  have HC : Hid (qE (r.take (togN true r)) = 0 ∨ qE (r.take (togN true r)) = 2 ∨ qE (r.take (togN true r)) = 4) := qE_cases _
  have cG := goesOn_quote s w.heap.size (w.alloc (.cells #[.bool false] 4)) (by unfold maxLen; omega) (by simp) (by simp)
  rw [hN] at cG
  obtain ⟨N, hNN⟩ : ∃ N, togN true r + 1 = N := ⟨_, rfl⟩
  rw [hNN] at cG hX HQ
  clear hN hX1
  go_enter Tryz.func71, Tryz.ntmps71
  go_wp2_with fail
  refine cG.mono ?_
  rintro e w1 ⟨rfl, b1⟩
  have B1 : Below w.heap.size w w1 := ((Below.refl _ _).alloc (Nat.le_refl _) _).trans b1
  clear b1
  go_wp2_with fail
  refine (parse_lex X _ (by omega) (henv.on B1)).mono ?_
  rintro e w2 ⟨⟨t, n, x, k, rfl, HK⟩, b2⟩
  have B2 := B1.trans (b2.mono B1.size)
  have hk : qE (r.take (togN true r)) = k := by rw [← HX.out]; exact HK.out
  rw [hk] at HQ HC
  have hc := HC.out
  clear hk HK HX HC b2 B1
  rcases hc with rfl | rfl | rfl
  · have HQ2 : Hid (quoTok r = (N, 0)) := by have := HQ.out; rwa [if_pos rfl] at this
    rw [show errV 0 = .nilIface from rfl]
    clear HQ
    go_wp2
    go_ret2
    exact ⟨⟨N, 0, rfl, HQ2⟩, by repeat (first | exact B2 | (refine Below.alloc ?_ (by have := B2.size; simp; omega) _))⟩
  · have HQ2 : Hid (quoTok r = (0, 2)) := by have := HQ.out; rwa [if_neg (by decide)] at this
    rw [show errV 2 = .iface 29 (.int .i64 2) from rfl]
    have cI := fun W => errorsIs_any 2 4 W
    rw [show ((2 : Int) == 4) = false from rfl] at cI
    clear HQ
    go_wp2_with (go_at_call 97; refine (cI _).mono ?_; rintro e W' ⟨rfl, rfl⟩)
    go_ret2
    exact ⟨⟨0, 2, rfl, HQ2⟩, by repeat (first | exact B2 | (refine Below.alloc ?_ (by have := B2.size; simp; omega) _))⟩
  · have HQ2 : Hid (quoTok r = (0, 4)) := by have := HQ.out; rwa [if_neg (by decide)] at this
    rw [show errV 4 = .iface 29 (.int .i64 4) from rfl]
    have cI := fun W => errorsIs_any 4 4 W
    rw [show ((4 : Int) == 4) = true from rfl] at cI
    clear HQ
    go_wp2_with (go_at_call 97; refine (cI _).mono ?_; rintro e W' ⟨rfl, rfl⟩)
    go_ret2
    exact ⟨⟨0, 4, rfl, HQ2⟩, by repeat (first | exact B2 | (refine Below.alloc ?_ (by have := B2.size; simp; omega) _))⟩
set_option maxHeartbeats 4000000 in
set_option maxRecDepth 20000 in
theorem tokenAhead_any (s : ByteArray) (w : World) (henv : Env w) (hw : SG w) (hs : s.size ≤ 140737488355328) (hp : 0 < s.size) :
    Calls Tryz.prog 45 #[.string s] w fun e w' => (∃ (k : Int) (n : Nat) (h : Int), e = .returned (.tuple #[.int .i64 k, .int .i64 n, .int .i64 h]) ∧ Hid (tokAt s.data.toList = (k, n, h))) ∧ Below w.heap.size w w' := by
  have hcons : s.data.toList = s[0] :: s.data.toList.drop 1 := by have := drop_cons s 0 hp; simpa using this
  have HT : Hid (tokAt s.data.toList = if letB s[0] = true then (1, goN ldB s.data.toList, 0) else if digB s[0] = true then (2, numTok s.data.toList) else if s[0] = 39 then (3, quoTok (s.data.toList.drop 1)) else (4, sgN signsL s.data.toList, if sgN signsL s.data.toList = 0 then 2 else 0)) := by
    show _ = _
    rw [hcons, tokAt, ← hcons]
  have cL := isLetter_any s[0]
  have cD := isDigit_any s[0]
  cases hl : letB s[0]
  · rw [hl] at cL HT
    cases hd : digB s[0]
    · rw [hd] at cD HT
      by_cases hq : s[0] = 39
      · have hqz : ((s[0].toNat : Int) == 39) = true := by rw [hq]; rfl
        have cQ := quoteAhead_any s (s.data.toList.drop 1) w henv hs (by rw [← hq]; exact hcons)
        have HT2 : Hid (tokAt s.data.toList = (3, quoTok (s.data.toList.drop 1))) := by have := HT.out; rwa [if_neg (by decide), if_neg (by decide), if_pos hq] at this
        clear hl hd hq HT hcons
        go_enter Tryz.func45, Tryz.ntmps45
        go_wp2_with (first | (go_at_call 67; refine (cL _).mono ?_; rintro e w' ⟨rfl, hq1⟩; obtain rfl : w = w' := hq1.symm) | (go_at_call 69; refine (cD _).mono ?_; rintro e w' ⟨rfl, hq2⟩; obtain rfl : w = w' := hq2.symm))
        refine cQ.mono ?_
        rintro e w1 ⟨⟨n, k, rfl, HQ⟩, b1⟩
        go_wp2
        refine bodyPost_ret (v := .tuple #[.int .i64 3, .int .i64 n, .int .i64 k]) (by simp [results, Tryz.results45, go_sem]) rfl ⟨⟨3, n, k, rfl, ?_⟩, b1⟩
        show _ = _
        rw [HT2.out, HQ.out]
      · have hqz : ((s[0].toNat : Int) == 39) = false := by rw [beq_eq_false_iff_ne]; exact u8_39n hq
        have cQ := signAhead_any s w hw
        obtain ⟨n, hn⟩ : ∃ n, sgN signsL s.data.toList = n := ⟨_, rfl⟩
        obtain ⟨k, hk⟩ : ∃ k : Int, (if n = 0 then 2 else 0) = k := ⟨_, rfl⟩
        rw [hn, hk] at cQ
        have HT2 : Hid (tokAt s.data.toList = (4, n, k)) := by have := HT.out; rwa [if_neg (by decide), if_neg (by decide), if_neg hq, hn, hk] at this
        clear hl hd hq HT hcons hn hk
        go_enter Tryz.func45, Tryz.ntmps45
        go_wp2_with (first | (go_at_call 67; refine (cL _).mono ?_; rintro e w' ⟨rfl, hq1⟩; obtain rfl : w = w' := hq1.symm) | (go_at_call 69; refine (cD _).mono ?_; rintro e w' ⟨rfl, hq2⟩; obtain rfl : w = w' := hq2.symm))
        refine cQ.mono ?_
        rintro e w1 ⟨rfl, hq3⟩
        obtain rfl : w = w1 := hq3.symm
        go_wp2
        exact bodyPost_ret (v := .tuple #[.int .i64 4, .int .i64 n, .int .i64 k]) (by simp [results, Tryz.results45, go_sem]) rfl ⟨⟨4, n, k, rfl, HT2⟩, Below.refl _ _⟩
    · rw [hd] at cD HT
      have cQ := numberAhead_any s w henv hs hp hd
      obtain ⟨n, k, hn⟩ : ∃ n k, numTok s.data.toList = (n, k) := ⟨_, _, rfl⟩
      rw [hn] at cQ
      have HT2 : Hid (tokAt s.data.toList = (2, n, k)) := by have := HT.out; rwa [if_neg (by decide), if_pos rfl, hn] at this
      clear hl hd HT hcons hn
      go_enter Tryz.func45, Tryz.ntmps45
      go_wp2_with (first | (go_at_call 67; refine (cL _).mono ?_; rintro e w' ⟨rfl, hq1⟩; obtain rfl : w = w' := hq1.symm) | (go_at_call 69; refine (cD _).mono ?_; rintro e w' ⟨rfl, hq2⟩; obtain rfl : w = w' := hq2.symm))
      refine cQ.mono ?_
      rintro e w1 ⟨rfl, b1⟩
      go_wp2
      exact bodyPost_ret (v := .tuple #[.int .i64 2, .int .i64 n, .int .i64 k]) (by simp [results, Tryz.results45, go_sem]) rfl ⟨⟨2, n, k, rfl, HT2⟩, b1⟩
  · rw [hl] at cL HT
    have cG := goesOn_lod s w (by unfold maxLen; omega)
    obtain ⟨n, hn⟩ : ∃ n, goN ldB s.data.toList = n := ⟨_, rfl⟩
    rw [hn] at cG
    have HT2 : Hid (tokAt s.data.toList = (1, n, 0)) := by have := HT.out; rwa [if_pos rfl, hn] at this
    clear hl HT hcons hn
    go_enter Tryz.func45, Tryz.ntmps45
    go_wp2_with (first | (go_at_call 67; refine (cL _).mono ?_; rintro e w' ⟨rfl, hq1⟩; obtain rfl : w = w' := hq1.symm))
    refine cG.mono ?_
    rintro e w1 ⟨rfl, hq3⟩
    obtain rfl : w = w1 := hq3.symm
    go_wp2
    exact bodyPost_ret (v := .tuple #[.int .i64 1, .int .i64 n, .int .i64 0]) (by simp [results, Tryz.results45, go_sem]) rfl ⟨⟨1, n, 0, rfl, HT2⟩, Below.refl _ _⟩
end Go.Proofs.YtomakklbfjkdpaaGreatDoor
