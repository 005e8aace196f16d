/-
  The document's ShowRow, TypeName and ShowSchema (package sluiceref1), at any values and columns.
-/
import Derived.Test.YtggabncpedcmdaaGreatDoorRefRow2
import Derived.Test.YtggabncpedcmdaaGreatDoorRef3
namespace Go.Proofs.YtggabncpedcmdaaGreatDoor
open Go.RowKit
set_option linter.unusedVariables false

theorem rowT_snoc : ∀ (rs : List (Int × Int × ByteArray)) (r : Int × Int × ByteArray), rowT (rs ++ [r]) = if rs = [] then shown r.1 r.2.1 r.2.2.data.toList else rowT rs ++ 44 :: shown r.1 r.2.1 r.2.2.data.toList
  | [], r => by rw [if_pos rfl, List.nil_append, rowT_one]
  | [a], r => by rw [if_neg (by simp), List.cons_append, List.nil_append, rowT_cons, rowT_one, rowT_one]
  | a :: b :: rs, r => by
    have ih := rowT_snoc (b :: rs) r
    rw [if_neg (by simp)] at ih ⊢
    rw [List.cons_append] at ih
    rw [List.cons_append, List.cons_append, rowT_cons, rowT_cons, ih]
    simp
theorem rowT_len {rs : List (Int × Int × ByteArray)} (h6 : rs.length ≤ 6) (h : ∀ r ∈ rs, chk r.1 r.2.1 r.2.2.data.toList = 0) (hsz : Sized rs) : (rowT rs).length ≤ 606 := by
  have := join_len [44] (rs.map fun r => shown r.1 r.2.1 r.2.2.data.toList) (fun l hl => by
    obtain ⟨r, hr, rfl⟩ := List.mem_map.1 hl
    exact shown_len (h r hr) (hsz r hr).2) rfl
  rw [rowT]
  simp at this
  omega
theorem showRow_full (p : Option Addr) (n c : Nat) (w : World) (hn : 6 < n) :
    Calls Tryz.prog 21 #[.slice p n c] w fun e w' => e = .returned (.tuple #[.string ⟨#[]⟩, .int .i64 4]) ∧ w' = w := by
  have h6 : (6 : Int) < (n : Int) := by omega
  go_enter Tryz.func21, Tryz.ntmps21
  go_wp2
  go_ret2
  exact ⟨rfl, rfl⟩
theorem showRow_nil (p : Option Addr) (c : Nat) (w : World) :
    Calls Tryz.prog 21 #[.slice p 0 c] w fun e w' => e = .returned (.tuple #[.string ⟨#[]⟩, .int .i64 0]) ∧ w' = w := by
  go_enter Tryz.func21, Tryz.ntmps21
  go_wp2
  refine wp_loop_rounds 1 ?_
  rw [rounds_succ]
  go_wp2
  go_ret2
  exact ⟨rfl, rfl⟩
set_option maxHeartbeats 8000000 in
set_option maxRecDepth 20000 in
theorem showRow_loop (b off c : Nat) (rs : List (Int × Int × ByteArray)) (w : World) (h6 : ¬ 6 < rs.length) (hsz : Sized rs) (hc : ValsIn w b off rs) :
    Calls Tryz.prog 21 #[.slice (some ⟨b, off, none⟩) rs.length c] w fun e w' => (∃ X : ByteArray, e = .returned (.tuple #[.string X, .int .i64 (valsE rs)]) ∧ X.data.toList = if valsE rs = 0 then rowT rs else []) ∧ Below w.heap.size w w' := by
  have z6 : ¬ (6 : Int) < (rs.length : Int) := by omega
  obtain ⟨E, hE⟩ : ∃ E, valsE rs = E := ⟨_, rfl⟩
  rw [hE]
  go_enter Tryz.func21, Tryz.ntmps21
  go_wp2
  go_loopg [4, 5, 6, 7] rs.length (fun gg s4 s5 _ _ wr => ∃ (kk : Nat) (S : ByteArray), kk ≤ rs.length ∧ rs.length - kk ≤ gg ∧ s4 = .string S ∧ s5 = .int .i64 kk ∧ Hid (S.data.toList = rowT (rs.take kk)) ∧ S.size ≤ 606 ∧ Aside (Below w.heap.size w wr) ∧ Hid (E = valsE (rs.drop kk)) ∧ Hid (∀ r ∈ rs.take kk, chk r.1 r.2.1 r.2.2.data.toList = 0))
  case atStart => exact ⟨0, ⟨#[]⟩, Nat.zero_le _, by omega, rfl, rfl, (show Hid _ by show _ = _; rfl), by decide, Below.refl _ w, (show Hid _ by simp [Hid, hE]), (show Hid _ by simp [Hid])⟩
  case round =>
    obtain ⟨kk, S, hkk, hg, rfl, rfl, HSt, hSs, BW, HS, HA⟩ := hrel
    by_cases hlt : kk < rs.length
    · have hltz : (kk : Int) < (rs.length : Int) := by omega
      have k0 : (0 : Int) ≤ (kk : Int) := by omega
      have hri2 := (hc.on BW.out)
      obtain ⟨c0, c1, c2⟩ := hri2.2 kk hlt
      have hrl := hri2.1
      have HS2 : Hid (E = if chk rs[kk].1 rs[kk].2.1 rs[kk].2.2.data.toList ≠ 0 then chk rs[kk].1 rs[kk].2.1 rs[kk].2.2.data.toList else valsE (rs.drop (kk + 1))) := HS.out.trans (valsE_at hlt)
      obtain ⟨hs1, hn1⟩ := hsz _ (List.getElem_mem hlt)
      have HT : Hid (rs.take (kk + 1) = rs.take kk ++ [rs[kk]]) := List.take_succ_eq_append_getElem hlt
      generalize hy : rs[kk] = y at c0 c1 c2 HS2 hs1 hn1 HT
      obtain ⟨yt, yn, ys⟩ := y
      simp only at HS2 c0 c1 c2 hs1 hn1
      have cC := refVal_any yt yn ys wr hs1
      obtain ⟨ce, hce⟩ : ∃ ce, chk yt yn ys.data.toList = ce := ⟨_, rfl⟩
      have HC : Hid (chk yt yn ys.data.toList = ce) := hce
      rw [hce] at cC
      clear HS hy hce
      go_wp2_with fail
      refine cC.mono ?_
      rintro e w1 ⟨rfl, b1⟩
      obtain ⟨hc1, hf1⟩ := bcells b1
      have g0 : w1.cell? ⟨b, off + kk * 3, none⟩ = some (.int .i64 yt) := by rw [hc1 _ _ hrl]; exact c0
      have g1 : w1.cell? ⟨b, off + kk * 3 + 1, none⟩ = some (.int .i64 yn) := by rw [hc1 _ _ hrl]; exact c1
      have g2 : w1.cell? ⟨b, off + kk * 3 + 2, none⟩ = some (.string ys) := by rw [hc1 _ _ hrl]; exact c2
      have B2 := BW.out.trans (b1.mono BW.out.size)
      clear hc1 hf1 b1 cC c0 c1 c2 hri2
      by_cases hz : ce = 0
      · have hb : (ce != 0) = false := by simpa using hz
        have HS3 : Hid (E = valsE (rs.drop (kk + 1))) := by
          have := HS2.out
          rwa [HC.out, if_neg (by simpa using hz)] at this
        have HA2 : Hid (∀ r ∈ rs.take (kk + 1), chk r.1 r.2.1 r.2.2.data.toList = 0) := by
          intro r hr
          rw [HT.out] at hr
          rcases List.mem_append.1 hr with h | h
          · exact HA.out r h
          · obtain rfl := List.mem_singleton.1 h
            exact HC.out.trans hz
        have hl6 : (rs.take (kk + 1)).length ≤ 6 := by simp; omega
        have HLen : Hid ((rowT (rs.take (kk + 1))).length ≤ 606) := rowT_len hl6 HA2.out (fun r hr => hsz r (List.mem_of_mem_take hr))
        have cH := show_any yt yn ys w1 hn1 (HC.out.trans hz)
        obtain ⟨V, hV⟩ : ∃ V : ByteArray, (⟨(shown yt yn ys.data.toList).toArray⟩ : ByteArray) = V := ⟨_, rfl⟩
        have HV : Hid (shown yt yn ys.data.toList = V.data.toList) := by
          show _ = _
          rw [← hV]
        have hVs : V.size ≤ 100 := by
          have := shown_len (HC.out.trans hz) hn1
          rw [Lib.size_eq, ← HV.out]; exact this
        rw [hV] at cH
        have hk0 : (rs.take kk = []) ↔ kk = 0 := by
          constructor
          · intro h
            have := congrArg List.length h
            rw [List.length_take, List.length_nil] at this
            omega
          · rintro rfl; simp
        have HTx : Hid (rowT (rs.take (kk + 1)) = if kk = 0 then V.data.toList else S.data.toList ++ 44 :: V.data.toList) := by
          show _ = _
          rw [HT.out, rowT_snoc, HV.out, HSt.out]
          by_cases h : kk = 0
          · rw [if_pos h, if_pos (hk0.2 h)]
          · rw [if_neg h, if_neg (fun e => h (hk0.1 e))]
        have HS0 : Hid (kk = 0 → S.data.toList = []) := fun h => by
          subst h
          exact HSt.out
        clear HS2 HT HA HC hV hz hk0 hl6 HV HSt
        by_cases hkz : kk = 0
        · have hkz2 : ¬ (0 : Int) < (kk : Int) := by omega
          have HX : Hid ((S ++ V).data.toList = rowT (rs.take (kk + 1))) := by
            show _ = _
            rw [HTx.out, if_pos hkz, ByteArray.data_append, Array.toList_append, HS0.out hkz]; rfl
          have HXs : Hid ((S ++ V).size ≤ 606) := by
            show _ ≤ _
            rw [Lib.size_eq, HX.out]; exact HLen.out
          clear HTx HLen hsz HS0 hkz
          go_wp2_with fail
          refine cH.mono ?_
          rintro e w2 ⟨rfl, b2⟩
          have B3 := B2.trans (b2.mono B2.size)
          go_wp2
          go_roundg (rs.length - (kk + 1))
          case measure => omega
          case rel => exact ⟨kk + 1, _, by omega, by omega, rfl, by go_num, HX, HXs.out, B3, HS3, HA2⟩
        · have hkz2 : (0 : Int) < (kk : Int) := by omega
          have HX : Hid ((S ++ ⟨#[44]⟩ ++ V).data.toList = rowT (rs.take (kk + 1))) := by
            show _ = _
            rw [HTx.out, if_neg hkz]; simp
          have HXs : Hid ((S ++ ⟨#[44]⟩ ++ V).size ≤ 606) := by
            show _ ≤ _
            rw [Lib.size_eq, HX.out]; exact HLen.out
          clear HTx HLen hsz HS0 hkz
          go_wp2_with fail
          refine cH.mono ?_
          rintro e w2 ⟨rfl, b2⟩
          have B3 := B2.trans (b2.mono B2.size)
          go_wp2
          go_roundg (rs.length - (kk + 1))
          case measure => omega
          case rel => exact ⟨kk + 1, _, by omega, by omega, rfl, by go_num, HX, HXs.out, B3, HS3, HA2⟩
      · have hb : (ce != 0) = true := by simpa using hz
        have HS3 : E = ce := by
          have := HS2.out
          rwa [HC.out, if_pos hz] at this
        have HZ : Hid (E ≠ 0) := by rw [HS3]; exact hz
        subst HS3
        clear HS2 hz HA HC HT HSt
        go_wp2
        go_ret2
        exact ⟨⟨⟨#[]⟩, rfl, by first | rfl | rw [if_neg HZ.out]⟩, B2⟩
    · have hltz : ¬ (kk : Int) < (rs.length : Int) := by omega
      have hk : kk = rs.length := by omega
      subst hk
      have hz : E = 0 := by
        rw [HS.out, List.drop_length]; rfl
      subst hz
      have HX : Hid (S.data.toList = rowT rs) := by
        have := HSt.out
        rwa [List.take_length] at this
      clear HS HA HSt
      go_wp2
      go_ret2
      exact ⟨⟨S, rfl, by first | exact HX.out | (rw [if_pos rfl]; exact HX.out)⟩, BW.out⟩
theorem showRow_v (rv : Value) (rs : List (Int × Int × ByteArray)) (w : World) (h : IsVals w rv rs) (hsz : Sized rs) :
    Calls Tryz.prog 21 #[rv] w fun e w' => (∃ X : ByteArray, e = .returned (.tuple #[.string X, .int .i64 (rowE rs)]) ∧ X.data.toList = if rowE rs = 0 then rowT rs else []) ∧ Below w.heap.size w w' := by
  obtain ⟨p, c, rfl, hm, h⟩ := h
  by_cases h6 : 6 < rs.length
  · have he : rowE rs = 4 := by rw [rowE, if_pos h6]
    rw [he, if_neg (by decide)]
    exact (showRow_full p _ c w h6).mono fun e w' hh => ⟨⟨_, hh.1, rfl⟩, by rw [hh.2]; exact Below.refl _ _⟩
  · have he : rowE rs = valsE rs := by rw [rowE, if_neg h6]
    rw [he]
    rcases h with h0 | ⟨b, off, rfl, h⟩
    · have := List.length_eq_zero_iff.1 h0
      subst this
      exact (showRow_nil p c w).mono fun e w' hh => ⟨⟨_, hh.1, rfl⟩, by rw [hh.2]; exact Below.refl _ _⟩
    · exact showRow_loop b off c rs w h6 hsz h
theorem typeName_any (t : Int) (w : World) (h : 1 ≤ t ∧ t ≤ 3) :
    Calls Tryz.prog 59 #[.int .i64 t] w fun e w' => e = .returned (.string (wordOf t)) ∧ Below w.heap.size w w' := by
  have h3 : t = 1 ∨ t = 2 ∨ t = 3 := by omega
  rcases h3 with rfl | rfl | rfl
  all_goals
    go_enter Tryz.func59, Tryz.ntmps59
    go_wp2
    go_ret
    exact ⟨rfl, (Below.refl _ _).alloc (Nat.le_refl _) _⟩
end Go.Proofs.YtggabncpedcmdaaGreatDoor
