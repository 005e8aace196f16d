/-
  KdRuleB, KdFault, in one text.
-/
import Derived.Test.YticdcnbeemkapaaGreatDoorGrAh
namespace Go.Proofs.YticdcnbeemkapaaGreatDoor
open Go.RowKit Go.BigFrame
set_option linter.unusedVariables false

theorem rule1_any (t : Int) (w : World) : Calls Tryz.prog 63 #[.int .i64 t] w fun e w' => e = .returned (.bool (!isTy t)) ∧ w' = w := by
  by_cases h : t = 1 ∨ t = 2 ∨ t = 3
  · have hT : Hid (isTy t = true) := by show _ = _; rw [isTy]; rcases h with rfl | rfl | rfl <;> rfl
    have cT := isType_yes t w h
    rw [hT.out]
    clear h hT
    go_enter Tryz.func63, Tryz.ntmps63
    go_wp2_with fail
    refine cT.mono ?_
    rintro e w1 ⟨rfl, hq⟩
    obtain rfl : w = w1 := hq.symm
    go_wp2
    go_ret
    exact ⟨rfl, rfl⟩
  · have hT : Hid (isTy t = false) := by show _ = _; rw [isTy]; simp; omega
    have cT := isType_no t w h
    rw [hT.out]
    clear h hT
    go_enter Tryz.func63, Tryz.ntmps63
    go_wp2_with fail
    refine cT.mono ?_
    rintro e w1 ⟨rfl, hq⟩
    obtain rfl : w = w1 := hq.symm
    go_wp2
    go_ret
    exact ⟨rfl, rfl⟩
/-- Numbers one behind the other. -/
def IntsAt (w : World) (p : Option Addr) (ts : List Int) : Prop := ts.length = 0 ∨ ∃ b off, p = some ⟨b, off, none⟩ ∧ b < w.heap.size ∧ ∀ j (h : j < ts.length), w.cell? ⟨b, off + j, none⟩ = some (.int .i64 ts[j])
theorem IntsAt.on {w w' : World} {p : Option Addr} {ts : List Int} (h : IntsAt w p ts) (hb : Below w.heap.size w w') : IntsAt w' p ts := by
  rcases h with h | ⟨b, off, rfl, hlt, h⟩
  · exact .inl h
  · exact .inr ⟨b, off, rfl, by have := hb.size; omega, fun j hj => by rw [hb.cell (p := ⟨b, off + j, none⟩) hlt]; exact h j hj⟩
theorem all_snoc {ts : List Int} {k : Nat} (h : k < ts.length) : (ts.take (k + 1)).all isTy = ((ts.take k).all isTy && isTy ts[k]) := by
  rw [List.take_succ_eq_append_getElem h, List.all_append]; simp
set_option maxHeartbeats 1000000 in
set_option maxRecDepth 20000 in
theorem indexTy_any (p : Option Addr) (c : Nat) (ts : List Int) (w : World) (hl : ts.length ≤ 9223372036854775807) (hts : IntsAt w p ts) :
    Calls Tryz.prog 98 #[.slice p ts.length c, .func (.func 63) #[] #[]] w fun e w' => (∃ r : Int, e = .returned (.int .i64 r) ∧ Hid ((0 ≤ r ∧ ts.all isTy = false) ∨ (r = -1 ∧ ts.all isTy = true))) ∧ w' = w := by
  have HT : Aside (IntsAt w p ts) := hts
  obtain ⟨B, hB⟩ : ∃ B, ts.all isTy = B := ⟨_, rfl⟩
  have HB : Hid (ts.all isTy = B) := hB
  rw [hB]
  clear hts hB
  go_enter Tryz.func98, Tryz.ntmps98
  go_wp2
  go_loopg [5, 8] ts.length (fun gg _ s8 wr => ∃ kk : Nat, kk ≤ ts.length ∧ ts.length - kk ≤ gg ∧ s8 = .int .i64 kk ∧ wr = w ∧ Hid ((ts.take kk).all isTy = true))
  case atStart => exact ⟨0, Nat.zero_le _, by omega, rfl, rfl, by show _ = _; simp⟩
  case round =>
    obtain ⟨kk, hkk, hg, rfl, hwr, HE⟩ := hrel
    obtain rfl : w = wr := hwr.symm
    by_cases hlt : kk < ts.length
    · have hltz : (kk : Int) < (ts.length : Int) := by omega
      have h0z : (0 : Int) ≤ (kk : Int) := by omega
      rcases HT.out with h | ⟨b, off, rfl, hbl, hc⟩
      · exact absurd h (by omega)
      have ck := hc kk hlt
      have cT := rule1_any ts[kk] w
      have HS : Hid ((ts.take (kk + 1)).all isTy = ((ts.take kk).all isTy && isTy ts[kk])) := all_snoc hlt
      have HD : Hid (isTy ts[kk] = false → B = false) := fun h => by
        rw [← HB.out, List.all_eq_false]; exact ⟨ts[kk], List.getElem_mem hlt, by simp [h]⟩
      clear hc HT HB
      generalize ts[kk] = y at *
      generalize isTy y = Q at *
      cases Q
      · go_wp2_with fail
        refine cT.mono ?_
        rintro e w1 ⟨rfl, hq⟩
        obtain rfl : w = w1 := hq.symm
        go_wp2
        go_ret
        have hBf := HD.out (by simp)
        subst hBf
        exact ⟨⟨_, rfl, by first | exact .inl ⟨by omega, rfl⟩ | (show _; simp; omega)⟩, rfl⟩
      · go_wp2_with fail
        refine cT.mono ?_
        rintro e w1 ⟨rfl, hq⟩
        obtain rfl : w = w1 := hq.symm
        have HE2 : Hid ((ts.take (kk + 1)).all isTy = true) := by show _ = _; rw [HS.out, HE.out]; rfl
        clear HS HD HE
        go_wp2
        go_roundg (ts.length - (kk + 1))
        case measure => omega
        case rel => exact ⟨kk + 1, by omega, by omega, by go_num, rfl, HE2⟩
    · have hltz : ¬ (kk : Int) < (ts.length : Int) := by omega
      have HA : Hid (B = true) := by
        show _ = _
        have h := HE.out
        rw [← HB.out]
        rwa [List.take_of_length_le (by omega)] at h
      clear HE HT HB
      go_wp2
      go_ret
      exact ⟨⟨_, rfl, .inr ⟨rfl, HA.out⟩⟩, rfl⟩
set_option maxRecDepth 20000 in
theorem containsTy_any (p : Option Addr) (c : Nat) (ts : List Int) (w : World) (hl : ts.length ≤ 9223372036854775807) (hts : IntsAt w p ts) :
    Calls Tryz.prog 62 #[.slice p ts.length c, .func (.func 63) #[] #[]] w fun e w' => e = .returned (.bool (!(ts.all isTy))) ∧ w' = w := by
  have cI := indexTy_any p c ts w hl hts
  generalize ts.all isTy = B at *
  clear hts
  go_enter Tryz.func62, Tryz.ntmps62
  go_wp2_with fail
  refine cI.mono ?_
  rintro e w1 ⟨⟨r, rfl, hr⟩, hq⟩
  obtain rfl : w = w1 := hq.symm
  rcases hr.out with ⟨h1, h2⟩ | ⟨h1, h2⟩
  · go_wp2
    go_ret
    exact ⟨ret_bool (by simp [h2]), rfl⟩
  · subst h1
    go_wp2
    go_ret
    exact ⟨ret_bool (by simp [h2]), rfl⟩
set_option maxHeartbeats 1000000 in
set_option maxRecDepth 20000 in
theorem meant_any (t last : Int) (pa : Addr) (w : World) (hc : w.cell? pa = some (.int .i64 last)) :
    Calls Tryz.prog 66 #[.int .i64 t, .pointer (some pa)] w fun e w' => e = .returned (.int .i64 (kdMeant last t)) ∧ w' = w := by
  by_cases h : t = -1
  · have hm : kdMeant last t = last := if_pos h
    rw [hm]
    subst h
    clear hm
    go_enter Tryz.func66, Tryz.ntmps66
    go_wp2
    go_ret
    exact ⟨rfl, rfl⟩
  · have hm : kdMeant last t = t := if_neg h
    rw [hm]
    have hz : (t == -1) = false := by simpa using h
    clear hm h
    go_enter Tryz.func66, Tryz.ntmps66
    go_wp2
    go_ret
    exact ⟨rfl, rfl⟩
set_option maxHeartbeats 1000000 in
set_option maxRecDepth 20000 in
theorem count_any (S : ByteArray) (a0 a1 a2 ty : Int) (w : World) (C : Nat) (hC : kdCnt (S.data.toList, a0, a1, a2, ty) = C) :
    Calls Tryz.prog 65 #[.agg #[.string S, .int .i64 a0, .int .i64 a1, .int .i64 a2, .int .i64 ty]] w fun e w' => e = .returned (.int .i64 (C : Nat)) ∧ w' = w.alloc (.cells #[.string S, .int .i64 a0, .int .i64 a1, .int .i64 a2, .int .i64 ty] 131) := by
  rw [kdCnt] at hC
  simp only at hC
  by_cases h0 : a0 = 0
  · rw [if_pos h0] at hC
    subst hC
    have q0 : (a0 != 0) = false := by simpa using h0
    clear h0
    go_enter Tryz.func65, Tryz.ntmps65
    go_wp2
    refine wp_loop_rounds 1 ?_
    rw [rounds_succ]
    go_wp2
    go_ret
    exact ⟨rfl, rfl⟩
  · rw [if_neg h0] at hC
    have q0 : (a0 != 0) = true := by simpa using h0
    clear h0
    by_cases h1 : a1 = 0
    · rw [if_pos h1] at hC
      subst hC
      have q1 : (a1 != 0) = false := by simpa using h1
      clear h1
      go_enter Tryz.func65, Tryz.ntmps65
      go_wp2
      refine wp_loop_rounds 2 ?_
      rw [rounds_succ]
      go_wp2
      rw [rounds_succ]
      go_wp2
      go_ret
      exact ⟨rfl, rfl⟩
    · rw [if_neg h1] at hC
      have q1 : (a1 != 0) = true := by simpa using h1
      clear h1
      by_cases h2 : a2 = 0
      · rw [if_pos h2] at hC
        subst hC
        have q2 : (a2 != 0) = false := by simpa using h2
        clear h2
        go_enter Tryz.func65, Tryz.ntmps65
        go_wp2
        refine wp_loop_rounds 3 ?_
        rw [rounds_succ]
        go_wp2
        rw [rounds_succ]
        go_wp2
        rw [rounds_succ]
        go_wp2
        go_ret
        exact ⟨rfl, rfl⟩
      · rw [if_neg h2] at hC
        subst hC
        have q2 : (a2 != 0) = true := by simpa using h2
        clear h2
        go_enter Tryz.func65, Tryz.ntmps65
        go_wp2
        refine wp_loop_rounds 4 ?_
        rw [rounds_succ]
        go_wp2
        rw [rounds_succ]
        go_wp2
        rw [rounds_succ]
        go_wp2
        rw [rounds_succ]
        go_wp2
        go_ret
        exact ⟨rfl, rfl⟩
end Go.Proofs.YticdcnbeemkapaaGreatDoor
namespace Go.Proofs.YticdcnbeemkapaaGreatDoor
open Go.RowKit Go.BigFrame
set_option linter.unusedVariables false

set_option maxHeartbeats 4000000 in
set_option maxRecDepth 20000 in
theorem faultOf_any (k pos : Int) (w : World) (henv : KEnv w) :
    Calls Tryz.prog 11 #[.iface 42 (.int .i64 k), .int .i64 pos] w fun e w' => e = .returned (.agg #[.int .i64 k, .int .i64 pos]) ∧ Below w.heap.size w w' := by
  have b1 : Below w.heap.size w ((w.alloc (.cells #[.int .i64 0, .int .i64 0] 46)).alloc (.cells #[.int .i64 0] 42)) := ((Below.refl _ w).alloc (Nat.le_refl _) _).alloc (by simp) _
  have hgA := (henv.on b1).et
  have htA : ((w.alloc (.cells #[.int .i64 0, .int .i64 0] 46)).alloc (.cells #[.int .i64 0] 42)).cell? ⟨w.heap.size + 1, 0, none⟩ = some (.int .i64 0) := by rw [World.cell?_alloc_at _ _ _ _ (by simp)]; rfl
  have hfA : ((w.alloc (.cells #[.int .i64 0, .int .i64 0] 46)).alloc (.cells #[.int .i64 0] 42)).frozen? ⟨w.heap.size + 1, 0, none⟩ = false := by rw [World.frozen?_alloc_at _ _ _ _ (by simp)]
  have cA : Calls Tryz.prog 27 #[.iface 42 (.int .i64 k), .iface 75 (.pointer (some ⟨w.heap.size + 1, 0, none⟩))] ((w.alloc (.cells #[.int .i64 0, .int .i64 0] 46)).alloc (.cells #[.int .i64 0] 42)) fun e w2 => e = .returned (.bool true) ∧ w2.cell? ⟨w.heap.size + 1, 0, none⟩ = some (.int .i64 k) ∧ w2.cell? ⟨w.heap.size, 0, none⟩ = some (.int .i64 0) ∧ w2.cell? ⟨w.heap.size, 1, none⟩ = some (.int .i64 0) ∧ (∀ o, w2.frozen? ⟨w.heap.size, o, none⟩ = false) ∧ w.heap.size + 1 < w2.heap.size ∧ Below w.heap.size w w2 := by
    refine (as_hit k ⟨w.heap.size + 1, 0, none⟩ (.int .i64 0) _ hgA htA hfA).mono ?_
    rintro e w2 ⟨rfl, rfl⟩
    generalize hW : ((w.alloc (.cells #[.int .i64 0, .int .i64 0] 46)).alloc (.cells #[.int .i64 0] 42)) = W at *
    have hz : W.heap.size = w.heap.size + 2 := by rw [← hW]; simp
    have c0 : W.cell? ⟨w.heap.size, 0, none⟩ = some (.int .i64 0) := by rw [← hW, World.cell?_alloc_lt _ _ _ (by simp), World.cell?_alloc_at _ _ _ _ rfl]; rfl
    have c1 : W.cell? ⟨w.heap.size, 1, none⟩ = some (.int .i64 0) := by rw [← hW, World.cell?_alloc_lt _ _ _ (by simp), World.cell?_alloc_at _ _ _ _ rfl]; rfl
    have cf : ∀ o, W.frozen? ⟨w.heap.size, o, none⟩ = false := fun o => by rw [← hW, World.frozen?_alloc_old _ _ _ (by simp), World.frozen?_alloc_at _ _ _ _ rfl]
    clear hW
    have B4 : ∀ o1 o2 o3 o4, Below W.heap.size W ((((W.alloc o1).alloc o2).alloc o3).alloc o4) := fun o1 o2 o3 o4 => ((((Below.refl _ W).alloc (Nat.le_refl _) o1).alloc (by simp) o2).alloc (by simp; omega) o3).alloc (by simp; omega) o4
    generalize hV : ((((W.alloc (.cells #[.pointer (some ⟨w.heap.size + 1, 0, none⟩)] 75)).alloc _).alloc _).alloc _) = V
    have BV : Below W.heap.size W V := by rw [← hV]; exact B4 _ _ _ _
    have hzV := BV.size
    have e0 : V.cell? ⟨w.heap.size + 1, 0, none⟩ = some (.int .i64 0) := by rw [BV.cell (p := ⟨w.heap.size + 1, 0, none⟩) (by show w.heap.size + 1 < _; omega)]; exact htA
    have hne : (⟨w.heap.size + 1, 0, none⟩ : Addr).block ≠ w.heap.size := by simp
    refine ⟨rfl, World.cell?_setCell_same V _ _ e0, ?_, ?_, ?_, ?_, ?_⟩
    · rw [World.cell?_setCell_other _ _ _ _ (by simp), BV.cell (p := ⟨w.heap.size, 0, none⟩) (by show w.heap.size < _; omega)]; exact c0
    · rw [World.cell?_setCell_other _ _ _ _ (by simp), BV.cell (p := ⟨w.heap.size, 1, none⟩) (by show w.heap.size < _; omega)]; exact c1
    · intro o
      have h : V.frozen? ⟨w.heap.size, o, none⟩ = false := by rw [BV.frozen (p := ⟨w.heap.size, o, none⟩) (by show w.heap.size < _; omega)]; exact cf o
      simpa using h
    · simp [World.setCell]; omega
    · exact (b1.trans (BV.mono (by omega))).setCell (p := ⟨w.heap.size + 1, 0, none⟩) (by simp) _
  clear hgA htA hfA henv
  go_enter Tryz.func11, Tryz.ntmps11
  go_wp2_with fail
  refine cA.mono ?_
  rintro e w2 ⟨rfl, c0, c1, c2, cf, hl, b2⟩
  have hl0 : w.heap.size < w2.heap.size := by omega
  clear cA b1
  go_wp2
  refine bodyPost_ret (v := .agg #[.int .i64 k, .int .i64 pos]) (by simp [results, Tryz.results11, go_sem, World.cell?_setCell_other, World.cell?_setCell_same, c1, c2]) rfl ⟨rfl, ?_⟩
  exact (b2.setCell (p := ⟨w.heap.size, 0, none⟩) (Nat.le_refl _) _).setCell (p := ⟨w.heap.size, 1, none⟩) (Nat.le_refl _) _
end Go.Proofs.YticdcnbeemkapaaGreatDoor
