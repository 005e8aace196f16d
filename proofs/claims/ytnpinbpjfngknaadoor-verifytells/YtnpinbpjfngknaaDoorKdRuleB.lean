/-
  The parts of package kind's Rule: how many parts a rule has, whether all are types, which type is meant; and an error as a fault.
-/
import Derived.Test.YtnpinbpjfngknaaDoorKdRule
namespace Go.Proofs.YtnpinbpjfngknaaDoor
open Go.RowKit Go.BigFrame
set_option linter.unusedVariables false

theorem rule1_any (t : Int) (w : World) : Calls Tryd.prog 65 #[.int .i64 t] w fun e w' => e = .returned (.bool (!isTy t)) ∧ w' = w := by
  by_cases h : t = 1 ∨ t = 2 ∨ t = 3
  · have hT : Hid (isTy t = true) := by show _ = _; rw [isTy]; rcases h with rfl | rfl | rfl <;> rfl
    have cT := isType_yes t w h
    rw [hT.out]
    clear h hT
    go_enter Tryd.func65, Tryd.ntmps65
    go_wp2_with fail
    refine cT.mono ?_
    rintro e w1 ⟨rfl, hq⟩
    obtain rfl : w = w1 := hq.symm
    go_wp2
    go_ret
    exact ⟨rfl, rfl⟩
  · have hT : Hid (isTy t = false) := by show _ = _; rw [isTy]; simp; omega
    have cT := isType_no t w h
    rw [hT.out]
    clear h hT
    go_enter Tryd.func65, Tryd.ntmps65
    go_wp2_with fail
    refine cT.mono ?_
    rintro e w1 ⟨rfl, hq⟩
    obtain rfl : w = w1 := hq.symm
    go_wp2
    go_ret
    exact ⟨rfl, rfl⟩
/-- Numbers one behind the other. -/
def IntsAt (w : World) (p : Option Addr) (ts : List Int) : Prop := ts.length = 0 ∨ ∃ b off, p = some ⟨b, off, none⟩ ∧ b < w.heap.size ∧ ∀ j (h : j < ts.length), w.cell? ⟨b, off + j, none⟩ = some (.int .i64 ts[j])
theorem IntsAt.on {w w' : World} {p : Option Addr} {ts : List Int} (h : IntsAt w p ts) (hb : Below w.heap.size w w') : IntsAt w' p ts := by
  rcases h with h | ⟨b, off, rfl, hlt, h⟩
  · exact .inl h
  · exact .inr ⟨b, off, rfl, by have := hb.size; omega, fun j hj => by rw [hb.cell (p := ⟨b, off + j, none⟩) hlt]; exact h j hj⟩
theorem all_snoc {ts : List Int} {k : Nat} (h : k < ts.length) : (ts.take (k + 1)).all isTy = ((ts.take k).all isTy && isTy ts[k]) := by
  rw [List.take_succ_eq_append_getElem h, List.all_append]; simp
set_option maxHeartbeats 1000000 in
set_option maxRecDepth 20000 in
theorem indexTy_any (p : Option Addr) (c : Nat) (ts : List Int) (w : World) (hl : ts.length ≤ 9223372036854775807) (hts : IntsAt w p ts) :
    Calls Tryd.prog 68 #[.slice p ts.length c, .func (.func 65) #[] #[]] w fun e w' => (∃ r : Int, e = .returned (.int .i64 r) ∧ Hid ((0 ≤ r ∧ ts.all isTy = false) ∨ (r = -1 ∧ ts.all isTy = true))) ∧ w' = w := by
  have HT : Aside (IntsAt w p ts) := hts
  obtain ⟨B, hB⟩ : ∃ B, ts.all isTy = B := ⟨_, rfl⟩
  have HB : Hid (ts.all isTy = B) := hB
  rw [hB]
  clear hts hB
  go_enter Tryd.func68, Tryd.ntmps68
  go_wp2
  go_loopg [5, 8] ts.length (fun gg _ s8 wr => ∃ kk : Nat, kk ≤ ts.length ∧ ts.length - kk ≤ gg ∧ s8 = .int .i64 kk ∧ wr = w ∧ Hid ((ts.take kk).all isTy = true))
  case atStart => exact ⟨0, Nat.zero_le _, by omega, rfl, rfl, by show _ = _; simp⟩
  case round =>
    obtain ⟨kk, hkk, hg, rfl, hwr, HE⟩ := hrel
    obtain rfl : w = wr := hwr.symm
    by_cases hlt : kk < ts.length
    · have hltz : (kk : Int) < (ts.length : Int) := by omega
      have h0z : (0 : Int) ≤ (kk : Int) := by omega
      rcases HT.out with h | ⟨b, off, rfl, hbl, hc⟩
      · exact absurd h (by omega)
      have ck := hc kk hlt
      have cT := rule1_any ts[kk] w
      have HS : Hid ((ts.take (kk + 1)).all isTy = ((ts.take kk).all isTy && isTy ts[kk])) := all_snoc hlt
      have HD : Hid (isTy ts[kk] = false → B = false) := fun h => by
        rw [← HB.out, List.all_eq_false]; exact ⟨ts[kk], List.getElem_mem hlt, by simp [h]⟩
      clear hc HT HB
      generalize ts[kk] = y at *
      generalize isTy y = Q at *
      cases Q
      · go_wp2_with fail
        refine cT.mono ?_
        rintro e w1 ⟨rfl, hq⟩
        obtain rfl : w = w1 := hq.symm
        go_wp2
        go_ret
        have hBf := HD.out (by simp)
        subst hBf
        exact ⟨⟨_, rfl, by first | exact .inl ⟨by omega, rfl⟩ | (show _; simp; omega)⟩, rfl⟩
      · go_wp2_with fail
        refine cT.mono ?_
        rintro e w1 ⟨rfl, hq⟩
        obtain rfl : w = w1 := hq.symm
        have HE2 : Hid ((ts.take (kk + 1)).all isTy = true) := by show _ = _; rw [HS.out, HE.out]; rfl
        clear HS HD HE
        go_wp2
        go_roundg (ts.length - (kk + 1))
        case measure => omega
        case rel => exact ⟨kk + 1, by omega, by omega, by go_num, rfl, HE2⟩
    · have hltz : ¬ (kk : Int) < (ts.length : Int) := by omega
      have HA : Hid (B = true) := by
        show _ = _
        have h := HE.out
        rw [← HB.out]
        rwa [List.take_of_length_le (by omega)] at h
      clear HE HT HB
      go_wp2
      go_ret
      exact ⟨⟨_, rfl, .inr ⟨rfl, HA.out⟩⟩, rfl⟩
set_option maxRecDepth 20000 in
theorem containsTy_any (p : Option Addr) (c : Nat) (ts : List Int) (w : World) (hl : ts.length ≤ 9223372036854775807) (hts : IntsAt w p ts) :
    Calls Tryd.prog 64 #[.slice p ts.length c, .func (.func 65) #[] #[]] w fun e w' => e = .returned (.bool (!(ts.all isTy))) ∧ w' = w := by
  have cI := indexTy_any p c ts w hl hts
  generalize ts.all isTy = B at *
  clear hts
  go_enter Tryd.func64, Tryd.ntmps64
  go_wp2_with fail
  refine cI.mono ?_
  rintro e w1 ⟨⟨r, rfl, hr⟩, hq⟩
  obtain rfl : w = w1 := hq.symm
  rcases hr.out with ⟨h1, h2⟩ | ⟨h1, h2⟩
  · go_wp2
    go_ret
    exact ⟨ret_bool (by simp [h2]), rfl⟩
  · subst h1
    go_wp2
    go_ret
    exact ⟨ret_bool (by simp [h2]), rfl⟩
set_option maxHeartbeats 1000000 in
set_option maxRecDepth 20000 in
theorem meant_any (t last : Int) (pa : Addr) (w : World) (hc : w.cell? pa = some (.int .i64 last)) :
    Calls Tryd.prog 66 #[.int .i64 t, .pointer (some pa)] w fun e w' => e = .returned (.int .i64 (kdMeant last t)) ∧ w' = w := by
  by_cases h : t = -1
  · have hm : kdMeant last t = last := if_pos h
    rw [hm]
    subst h
    clear hm
    go_enter Tryd.func66, Tryd.ntmps66
    go_wp2
    go_ret
    exact ⟨rfl, rfl⟩
  · have hm : kdMeant last t = t := if_neg h
    rw [hm]
    have hz : (t == -1) = false := by simpa using h
    clear hm h
    go_enter Tryd.func66, Tryd.ntmps66
    go_wp2
    go_ret
    exact ⟨rfl, rfl⟩
set_option maxHeartbeats 1000000 in
set_option maxRecDepth 20000 in
theorem count_any (S : ByteArray) (a0 a1 a2 ty : Int) (w : World) (C : Nat) (hC : kdCnt (S.data.toList, a0, a1, a2, ty) = C) :
    Calls Tryd.prog 63 #[.agg #[.string S, .int .i64 a0, .int .i64 a1, .int .i64 a2, .int .i64 ty]] w fun e w' => e = .returned (.int .i64 (C : Nat)) ∧ w' = w.alloc (.cells #[.string S, .int .i64 a0, .int .i64 a1, .int .i64 a2, .int .i64 ty] 125) := by
  rw [kdCnt] at hC
  simp only at hC
  by_cases h0 : a0 = 0
  · rw [if_pos h0] at hC
    subst hC
    have q0 : (a0 != 0) = false := by simpa using h0
    clear h0
    go_enter Tryd.func63, Tryd.ntmps63
    go_wp2
    refine wp_loop_rounds 1 ?_
    rw [rounds_succ]
    go_wp2
    go_ret
    exact ⟨rfl, rfl⟩
  · rw [if_neg h0] at hC
    have q0 : (a0 != 0) = true := by simpa using h0
    clear h0
    by_cases h1 : a1 = 0
    · rw [if_pos h1] at hC
      subst hC
      have q1 : (a1 != 0) = false := by simpa using h1
      clear h1
      go_enter Tryd.func63, Tryd.ntmps63
      go_wp2
      refine wp_loop_rounds 2 ?_
      rw [rounds_succ]
      go_wp2
      rw [rounds_succ]
      go_wp2
      go_ret
      exact ⟨rfl, rfl⟩
    · rw [if_neg h1] at hC
      have q1 : (a1 != 0) = true := by simpa using h1
      clear h1
      by_cases h2 : a2 = 0
      · rw [if_pos h2] at hC
        subst hC
        have q2 : (a2 != 0) = false := by simpa using h2
        clear h2
        go_enter Tryd.func63, Tryd.ntmps63
        go_wp2
        refine wp_loop_rounds 3 ?_
        rw [rounds_succ]
        go_wp2
        rw [rounds_succ]
        go_wp2
        rw [rounds_succ]
        go_wp2
        go_ret
        exact ⟨rfl, rfl⟩
      · rw [if_neg h2] at hC
        subst hC
        have q2 : (a2 != 0) = true := by simpa using h2
        clear h2
        go_enter Tryd.func63, Tryd.ntmps63
        go_wp2
        refine wp_loop_rounds 4 ?_
        rw [rounds_succ]
        go_wp2
        rw [rounds_succ]
        go_wp2
        rw [rounds_succ]
        go_wp2
        rw [rounds_succ]
        go_wp2
        go_ret
        exact ⟨rfl, rfl⟩
end Go.Proofs.YtnpinbpjfngknaaDoor
