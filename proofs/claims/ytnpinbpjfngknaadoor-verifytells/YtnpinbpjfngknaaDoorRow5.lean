/-
  What Schema of package row says of any columns.
-/
import Derived.Test.YtnpinbpjfngknaaDoorRow4
import Derived.WalkSmall
import Derived.Deep.RegionWith
namespace Go.Proofs.YtnpinbpjfngknaaDoor
open Go.RowKit
set_option linter.unusedVariables false

theorem schema_none (p : Option Addr) (c : Nat) (w : World) :
    Calls Tryd.prog 23 #[.slice p 0 c] w fun e w' => e = .returned (errR 5) ∧ w' = w := by
  go_enter Tryd.func23, Tryd.ntmps23
  go_wp2
  go_ret
  exact ⟨rfl, rfl⟩
theorem schema_full (p : Option Addr) (n c : Nat) (w : World) (hn : 6 < n) :
    Calls Tryd.prog 23 #[.slice p n c] w fun e w' => e = .returned (errR 4) ∧ w' = w := by
  have h0 : ((n : Int) == 0) = false := by simp; omega
  have h6 : (6 : Int) < (n : Int) := by omega
  go_enter Tryd.func23, Tryd.ntmps23
  go_wp2
  go_ret
  exact ⟨rfl, rfl⟩
theorem schGo_at {zs : List (ByteArray × Int)} {k : Nat} (h : k < zs.length) : schGo (zs.take k) (zs.drop k) = if colE (zs.take k) zs[k].1.data.toList zs[k].2 ≠ 0 then colE (zs.take k) zs[k].1.data.toList zs[k].2 else schGo (zs.take (k + 1)) (zs.drop (k + 1)) := by
  rw [List.drop_eq_getElem_cons h, schGo, List.take_succ_eq_append_getElem h]
/-- Is an error nil? -/
theorem err_neq (k : Int) (W : World) : Sem.run Tryd.prog (binOp .neq 27 (errR k) .nilIface) W = .ok (.bool (k != 0)) W := by
  by_cases h : k = 0
  · subst h; kernel_rfl
  · rw [errR_n h, show (k != 0) = true by simpa using h]; kernel_rfl
theorem err_gneq (k : Int) (W : World) (j : Nat) : Sem.run Tryd.prog (eqGuard .neq 27 (.tmp j) (.const .nilIface) (errR k) .nilIface) W = .ok () W := by
  by_cases h : k = 0
  · subst h; kernel_rfl
  · rw [errR_n h]; kernel_rfl
set_option maxHeartbeats 2000000 in
theorem schema_some (b off c : Nat) (zs : List (ByteArray × Int)) (w : World) (hw : TW w) (h1 : zs.length ≠ 0) (h6 : ¬ 6 < zs.length) (hcap : zs.length ≤ c) (hl : ∀ z ∈ zs, z.1.size ≤ maxLen) (hc : ColsIn w b off zs) :
    Calls Tryd.prog 23 #[.slice (some ⟨b, off, none⟩) zs.length c] w fun e w' => e = .returned (errR (schGo [] zs)) ∧ Below w.heap.size w w' := by
  have z0 : ((zs.length : Int) == 0) = false := by rw [beq_eq_false_iff_ne]; omega
  have z6 : ¬ (6 : Int) < (zs.length : Int) := by omega
  obtain ⟨E, hE⟩ : ∃ E, schGo [] zs = E := ⟨_, rfl⟩
  rw [hE]
  go_enter Tryd.func23, Tryd.ntmps23
  go_wp2
  go_loopg [3, 4, 5, 16] zs.length (fun gg _ _ _ s8 wr => ∃ kk : Nat, kk ≤ zs.length ∧ zs.length - kk ≤ gg ∧ s8 = .int .i64 kk ∧ Aside (Below w.heap.size w wr) ∧ Hid (E = schGo (zs.take kk) (zs.drop kk)))
  case atStart => exact ⟨0, Nat.zero_le _, by omega, rfl, Below.refl _ w, (show Hid _ by simp [Hid, hE])⟩
  case round =>
    obtain ⟨kk, hkk, hg, rfl, BW, HS⟩ := hrel
    by_cases hlt : kk < zs.length
    · have hltz : (kk : Int) < (zs.length : Int) := by omega
      have hin := hc.on BW.out
      obtain ⟨c0, c1⟩ := hin.2 kk hlt
      have HS2 : Hid (E = if colE (zs.take kk) zs[kk].1.data.toList zs[kk].2 ≠ 0 then colE (zs.take kk) zs[kk].1.data.toList zs[kk].2 else schGo (zs.take (kk + 1)) (zs.drop (kk + 1))) := HS.out.trans (schGo_at hlt)
      have hsz := hl _ (List.getElem_mem hlt)
      generalize hy : zs[kk] = y at c0 c1 HS2 hsz
      obtain ⟨yn, yt⟩ := y
      have B1 := BW.out.alloc BW.out.size (.cells #[.string yn, .int .i64 yt] 33)
      have hlen : (zs.take kk).length = kk := by rw [List.length_take]; omega
      have cC := fun q => checkCol_any yn yt b off c (zs.take kk) ((wr.alloc (.cells #[.string yn, .int .i64 yt] 33)).drewN q) hsz (hw.on (below_drewN B1 q)) (by omega) ((hc.on (below_drewN B1 q)).take kk)
      rw [hlen] at cC
      simp only at HS2
      generalize hce : colE (zs.take kk) yn.data.toList yt = ce at cC HS2
      have e1 := err_neq ce
      have e2 := err_gneq ce
      have k1 : (0 : Int) ≤ (kk : Int) := by omega
      have k2 : (kk : Int) ≤ (c : Int) := by omega
      clear HS hy hin hc hl hce
      go_wp2
      go_region_with (go_at_call 26; refine (cC _).mono ?_; rintro e w' ⟨rfl, b2⟩)
      have B2 := (below_drewN B1 _).trans (b2.mono (below_drewN B1 _).size)
      by_cases hz : ce = 0
      · have hb : (ce != 0) = false := by simpa using hz
        rw [hb] at e1
        have HS3 : Hid (E = schGo (zs.take (kk + 1)) (zs.drop (kk + 1))) := by
          have := HS2.out
          rwa [if_neg (by simpa using hz)] at this
        clear HS2 hz hb
        go_wp2
        go_roundg (zs.length - (kk + 1))
        case measure => omega
        case rel => exact ⟨kk + 1, by omega, by omega, by go_num, B2, HS3⟩
      · have hb : (ce != 0) = true := by simpa using hz
        rw [hb] at e1
        have HS3 : E = ce := by
          have := HS2.out
          rwa [if_pos hz] at this
        subst HS3
        clear HS2 hz hb
        go_wp2
        go_ret
        exact ⟨rfl, B2⟩
    · have hltz : ¬ (kk : Int) < (zs.length : Int) := by omega
      have : kk = zs.length := by omega
      have hz : E = 0 := by
        rw [HS.out, this, List.drop_length]; cases zs.take zs.length <;> rfl
      subst hz
      clear HS
      go_wp2
      go_ret
      exact ⟨rfl, BW.out⟩
theorem schema_any (b off c : Nat) (zs : List (ByteArray × Int)) (w : World) (hw : TW w) (hcap : zs.length ≤ c) (hl : ∀ z ∈ zs, z.1.size ≤ maxLen) (hc : ColsIn w b off zs) :
    Calls Tryd.prog 23 #[.slice (some ⟨b, off, none⟩) zs.length c] w fun e w' => e = .returned (errR (schE zs)) ∧ Below w.heap.size w w' := by
  rw [schE]
  by_cases h1 : zs.length = 0
  · rw [if_pos h1, h1]
    exact (schema_none _ c w).mono fun e w' hh => ⟨hh.1, by rw [hh.2]; exact Below.refl _ _⟩
  · rw [if_neg h1]
    by_cases h6 : 6 < zs.length
    · rw [if_pos h6]
      exact (schema_full _ _ c w h6).mono fun e w' hh => ⟨hh.1, by rw [hh.2]; exact Below.refl _ _⟩
    · rw [if_neg h6]
      exact schema_some b off c zs w hw h1 h6 hcap hl hc
/-- Of a schema that is right the names differ: each is found where it is. -/
theorem schGo_zero : ∀ (a r : List (ByteArray × Int)), schGo a r = 0 → ∀ k (h : k < r.length), colE (a ++ r.take k) r[k].1.data.toList r[k].2 = 0
  | a, [], _, k, h => absurd h (by simp)
  | a, c :: r, h0, k, h => by
    rw [schGo] at h0
    by_cases hc : colE a c.1.data.toList c.2 = 0
    · rw [if_neg (by simpa using hc)] at h0
      cases k with
      | zero => simpa using hc
      | succ k =>
        have := schGo_zero (a ++ [c]) r h0 k (by simpa using h)
        simpa [List.append_assoc] using this
    · rw [if_pos hc] at h0
      exact absurd h0 hc
theorem colE_zero {a : List (ByteArray × Int)} {nm : List UInt8} {t : Int} (h : colE a nm t = 0) : nameB nm = true ∧ (1 ≤ t ∧ t ≤ 3) ∧ findN nm a = -1 := by
  rw [colE] at h
  split at h
  · exact absurd h (by decide)
  · rename_i h1
    split at h
    · exact absurd h (by decide)
    · rename_i h2
      split at h
      · exact absurd h (by decide)
      · rename_i h3
        refine ⟨by simpa using h1, Classical.not_not.1 h2, ?_⟩
        rcases findN_cases nm a with ⟨e, _⟩ | ⟨k, e, _⟩
        · exact e
        · rw [e] at h3; exact absurd (by omega) h3
theorem schE_zero {zs : List (ByteArray × Int)} (h : schE zs = 0) : zs.length ≠ 0 ∧ zs.length ≤ 6 ∧ ∀ k (h : k < zs.length), nameB zs[k].1.data.toList = true ∧ (1 ≤ zs[k].2 ∧ zs[k].2 ≤ 3) ∧ findN zs[k].1.data.toList zs = k := by
  rw [schE] at h
  split at h
  · exact absurd h (by decide)
  · rename_i h1
    split at h
    · exact absurd h (by decide)
    · rename_i h6
      refine ⟨h1, by omega, fun k hk => ?_⟩
      obtain ⟨e1, e2, e3⟩ := colE_zero (schGo_zero [] zs h k hk)
      refine ⟨e1, e2, findN_hit hk rfl fun j hj he => ?_⟩
      rcases findN_cases zs[k].1.data.toList ([] ++ zs.take k) with ⟨_, hn⟩ | ⟨i, ei, _⟩
      · have hj2 : j < ([] ++ zs.take k).length := by simp; omega
        have := hn j hj2
        simp only [List.nil_append, List.getElem_take] at this
        exact this he
      · rw [e3] at ei; omega
end Go.Proofs.YtnpinbpjfngknaaDoor
