/-
  The document's reach (package sluiceref2): a place gets to know what lies on the stack.
-/
import Derived.Test.YtnpinbpjfngknaaDoorVfF
namespace Go.Proofs.YtnpinbpjfngknaaDoor
open Go.RowKit
set_option linter.unusedVariables false

theorem KnAt.flag {w : World} {b : Nat} {ks : List Pl} (h : KnAt w b ks) {t : Nat} (ht : t < ks.length) (hn : ks[t] = none) : KnAt (w.setCell ⟨b, t * 2, none⟩ (.bool true)) b (ks.set t (some [])) := by
  obtain ⟨h1, h2, h3⟩ := h
  have hB : But b w (w.setCell ⟨b, t * 2, none⟩ (.bool true)) := (But.refl b w).set _ _
  refine ⟨by have := hB.size; omega, fun o => by simpa using h2 o, fun j hj => ?_⟩
  rw [List.length_set] at hj
  obtain ⟨c0, u, c1, hs⟩ := h3 j hj
  by_cases hjt : t = j
  · subst hjt
    refine ⟨?_, u, ?_, ?_⟩
    · rw [cell_eq c0]; simp
    · rw [cell_ne (by omega)]; exact c1
    · rw [hn] at hs
      simpa using hs.but hB
  · refine ⟨?_, u, ?_, ?_⟩
    · rw [cell_ne (by omega), c0]; simp [List.getElem_set_ne hjt]
    · rw [cell_ne (by omega), c1]
    · rw [List.getElem_set_ne hjt]; exact hs.but hB
theorem KnAt.putL {w : World} {b : Nat} {ks : List Pl} (h : KnAt w b ks) {t : Nat} (ht : t < ks.length) {s0 : List Int} (hn : ks[t] = some s0) {v : Value} {st : List Int} (hv : StkAt w b v st) : KnAt (w.setCell ⟨b, t * 2 + 1, none⟩ v) b (ks.set t (some st)) := by
  obtain ⟨h1, h2, h3⟩ := h
  have hB : But b w (w.setCell ⟨b, t * 2 + 1, none⟩ v) := (But.refl b w).set _ _
  refine ⟨by have := hB.size; omega, fun o => by simpa using h2 o, fun j hj => ?_⟩
  rw [List.length_set] at hj
  obtain ⟨c0, u, c1, hs⟩ := h3 j hj
  by_cases hjt : t = j
  · subst hjt
    refine ⟨?_, v, ?_, ?_⟩
    · rw [cell_ne (by omega), c0, hn]; simp
    · exact cell_eq c1
    · simpa using hv.but hB
  · refine ⟨?_, u, ?_, ?_⟩
    · rw [cell_ne (by omega), c0]; simp [List.getElem_set_ne hjt]
    · rw [cell_ne (by omega), c1]
    · rw [List.getElem_set_ne hjt]; exact hs.but hB
theorem set_same {ks : List Pl} {t : Nat} {s : List Int} (h : t < ks.length) (e : ks[t] = some s) : ks.set t (some s) = ks := by
  rw [← e]; exact List.set_getElem_self h
set_option maxHeartbeats 8000000 in
set_option maxRecDepth 20000 in
theorem reach_any (ks : List Pl) (b n kc t : Nat) (v : Value) (st : List Int) (w : World) (hn : ks.length = n) (hk : KnAt w b ks) (ht : t < n) (hn2 : n ≤ 1201) (hv : StkAt w b v st) (K : Pl) (hK : ks[t]? = some K) (B : Bool) (hB : (K.isSome = true ∧ K.getD [] ≠ st) ↔ B = false) :
    Calls Tryd.prog 15 #[.slice (some ⟨b, 0, none⟩) n kc, .int .i64 t, v] w fun e w' => e = .returned (.bool B) ∧ Aside (B = true → KnAt w' b (ks.set t (some st))) ∧ Aside (But b w w') := by
  have htl : t < ks.length := by omega
  have hg : ks[t] = K := by
    rw [List.getElem?_eq_getElem htl] at hK
    exact Option.some.inj hK
  obtain ⟨pT, cT, d0, d1, dS⟩ := hk.at t htl
  rw [hg] at d0 d1 dS
  have z0 : (0 : Int) ≤ (t : Int) := by omega
  have z1 : (t : Int) < (n : Int) := by omega
  have hbl := hk.1
  have fz := hk.2.1
  obtain ⟨pv, cv, hvv, hvr⟩ := id hv
  subst hvv
  have hv64 : st.length ≤ 64 := hvr.1.2
  cases K with
  | none =>
    have hBt : B = true := by
      cases B with
      | true => rfl
      | false => exact absurd (hB.2 rfl).1 (by simp)
    subst hBt
    simp only [Option.isSome_none] at d0
    have K1 := hk.flag htl hg
    have HB1 : But b w (w.setCell ⟨b, t * 2, none⟩ (.bool true)) := (But.refl b w).set _ _
    have S1 := hv.but HB1
    have hsz : (w.setCell ⟨b, t * 2, none⟩ (.bool true)).heap.size = w.heap.size := by simp [World.setCell]
    have b2 := alB (w.setCell ⟨b, t * 2, none⟩ (.bool true)) (.cells #[] 3)
    have OW := World.ownsRow_lit (base := (w.setCell ⟨b, t * 2, none⟩ (.bool true)).heap.size) (e := 3) (size := 1) (w.setCell ⟨b, t * 2, none⟩ (.bool true)) #[] 0 (Nat.le_refl _) (Nat.zero_le _) rfl
    rw [hsz] at OW b2
    have Q1 : Aside (KnAt (w.setCell ⟨b, t * 2, none⟩ (.bool true)) b (ks.set t (some []))) := K1
    have Q2 : Aside (But b w (w.setCell ⟨b, t * 2, none⟩ (.bool true))) := HB1
    have Q3 : Aside (Below w.heap.size (w.setCell ⟨b, t * 2, none⟩ (.bool true)) ((w.setCell ⟨b, t * 2, none⟩ (.bool true)).alloc (.cells #[] 3))) := b2
    have Q4 : Hid ((w.setCell ⟨b, t * 2, none⟩ (.bool true)).heap.size = w.heap.size) := hsz
    have S2 := S1.on (by rw [hsz]; exact b2)
    have hsz2 : w.heap.size ≤ ((w.setCell ⟨b, t * 2, none⟩ (.bool true)).alloc (.cells #[] 3)).heap.size := (HB1.alloc (by rw [hsz]; omega) _).size
    have SS : Aside (StkAt ((w.setCell ⟨b, t * 2, none⟩ (.bool true)).alloc (.cells #[] 3)) b (.slice pv st.length cv) st) := S2
    have HKS : Hid (ks.length = n) := hn
    clear hB hk hv hvr hK hn dS K1 S1 S2 HB1 b2 hsz
    go_enter Tryd.func15, Tryd.ntmps15
    go_wp2_with (at_builtin; refine wpList_append_stk rfl _ _ rfl w.heap.size b _ 0 [] rfl OW _ st rfl SS.out (by omega) hsz2 ?_)
    intro v2 w2 o2 b3 g2
    have b4 : Below (w.setCell ⟨b, t * 2, none⟩ (.bool true)).heap.size (w.setCell ⟨b, t * 2, none⟩ (.bool true)) w2 := by rw [Q4.out]; exact Q3.out.trans b3
    have K3 : KnAt w2 b (ks.set t (some [])) := Q1.out.on b4
    have S3 : StkAt w2 b v2 st := own_stk (by simp) o2 hbl (by omega)
    have K4 : Aside (KnAt (w2.setCell ⟨b, t * 2 + 1, none⟩ v2) b (ks.set t (some st))) := by
      have := K3.putL (t := t) (by rw [List.length_set]; exact htl) (s0 := []) (by simp) S3
      rw [List.set_set] at this
      exact this
    have B4 : Aside (But b w (w2.setCell ⟨b, t * 2 + 1, none⟩ v2)) := (Q2.out.trans (But.of_below' b4 (by rw [Q4.out]; omega))).set _ _
    have fz2 := K3.2.1
    have hbw2 := K3.1
    have e1 : w2.cell? ⟨b, t * 2 + 1, none⟩ = some (.slice pT 0 cT) := by
      rw [b4.cell (p := ⟨b, t * 2 + 1, none⟩) (by rw [Q4.out]; exact hbl), cell_ne (by omega)]; exact d1
    obtain ⟨p2, c2, rfl, -⟩ := S3
    clear K3 b4 b3 o2 g2 Q1 Q2 Q3 Q4 SS OW
    go_wp2
    go_ret
    exact ⟨rfl, (show Aside _ from fun _ => K4.out), B4⟩
  | some s1 =>
    simp only [Option.isSome_some, Option.getD_some] at d0 d1 dS hB
    have hBd : B = decide (s1 = st) := by
      cases B with
      | true => exact (decide_eq_true (Classical.byContradiction fun h => absurd (hB.1 ⟨trivial, h⟩) (by simp))).symm
      | false => exact (decide_eq_false (hB.2 rfl).2).symm
    have i1 := dS.ints
    have i2 := hv.ints
    have h64 : s1.length ≤ 64 := by
      obtain ⟨_, _, _, ⟨_, x1⟩, _⟩ := dS
      exact x1
    have KQ : ∀ q, Aside (KnAt (w.drewN q) b ks) := fun q => hk.on (below_drewN (Below.refl _ w) q)
    have BQ : ∀ q, Aside (But b w (w.drewN q)) := fun q => (But.refl b w).drewN q
    by_cases hl : s1.length = st.length
    · obtain ⟨m, hm⟩ : ∃ m, st.length = m := ⟨_, rfl⟩
      have hm1 : s1.length = m := by omega
      have HM : Hid (st.length = m) := hm
      have HM1 : Hid (s1.length = m) := hm1
      have HD : Hid (B = decide (s1 = st)) := hBd
      have HG : Hid (ks[t] = some s1) := hg
      have HI1 : Aside (IntsAt w pT s1) := i1
      have HI2 : Aside (IntsAt w pv st) := i2
      rw [hm1] at d1
      rw [hm]
      have hne : ((m : Int) != (m : Int)) = false := by simp
      have hm64 : m ≤ 64 := by omega
      clear hB hBd hk hv hvr hK hn dS hl hm hm1 hg i1 i2 hv64 h64
      go_enter Tryd.func15, Tryd.ntmps15
      go_wp2
      go_loopg [7] m (fun g s7 wr => ∃ k q : Nat, k ≤ m ∧ m - k ≤ g ∧ s7 = .int .i64 k ∧ wr = w.drewN q ∧ Aside (s1.take k = st.take k))
      case atStart => exact ⟨0, 0, Nat.zero_le _, by omega, rfl, rfl, (show Aside _ from rfl)⟩
      case round =>
        obtain ⟨k, q, hk, hgg, rfl, rfl, HE⟩ := hrel
        by_cases hlt : k < m
        · have hltz : (k : Int) < (m : Int) := by omega
          have k0 : (0 : Int) ≤ (k : Int) := by omega
          have e1 : k < s1.length := by rw [HM1.out]; exact hlt
          have e2 : k < st.length := by rw [HM.out]; exact hlt
          rcases HI1.out with h | ⟨b1, o1, rfl, hb1, hc1⟩
          · exact absurd h (by omega)
          rcases HI2.out with h | ⟨b2, o2, rfl, hb2, hc2⟩
          · exact absurd h (by omega)
          have g1 := hc1 k e1
          have g2 := hc2 k e2
          have HS : Hid (s1[k] = st[k] → s1.take (k + 1) = st.take (k + 1)) := fun h => by rw [List.take_succ_eq_append_getElem e1, List.take_succ_eq_append_getElem e2, HE.out, h]
          have HX : Hid (s1[k] ≠ st[k] → s1 ≠ st) := fun h => eqL_ne e1 e2 h
          clear hc1 hc2
          generalize s1[k] = x at g1 HS HX
          generalize st[k] = y at g2 HS HX
          by_cases hxy : x = y
          · have HT : Aside (s1.take (k + 1) = st.take (k + 1)) := HS.out hxy
            have hb : (x != y) = false := by simpa using hxy
            clear HS HX HE hxy
            go_wp2_with fail
            go_quiet (fail)
            go_wp2
            go_roundg (m - (k + 1))
            case measure => omega
            case rel => exact ⟨k + 1, _, by omega, by omega, by go_num, rfl, HT⟩
          · have hb : (x != y) = true := by simpa using hxy
            have hD := HD.out
            rw [decide_eq_false (HX.out hxy)] at hD
            subst hD
            clear HS HX HE hxy
            go_wp2_with fail
            go_quiet (fail)
            go_wp2
            go_ret
            exact ⟨rfl, (show Aside _ from fun h => absurd h (by decide)), by have := BQ (q + nq); simpa [World.drewN, Nat.add_assoc] using this⟩
        · have hltz : ¬ (k : Int) < (m : Int) := by omega
          have hD := HD.out
          have he : s1 = st := by
            have := HE.out
            rwa [List.take_of_length_le (by rw [HM1.out]; omega), List.take_of_length_le (by rw [HM.out]; omega)] at this
          rw [decide_eq_true he] at hD
          subst hD
          have KE : Aside (KnAt (w.drewN q) b (ks.set t (some st))) := by
            rw [← he, set_same htl HG.out]; exact KQ q
          clear HE he
          go_wp2
          go_ret
          exact ⟨rfl, KE, BQ q⟩
    · have hBf : B = false := by rw [hBd]; exact decide_eq_false fun h => hl (by rw [h])
      subst hBf
      have hne : ((s1.length : Int) != (st.length : Int)) = true := by simp; omega
      generalize s1.length = l1 at d1 hne
      clear hB hBd hk hv hvr hK hn dS hl hg i1 i2 hv64 h64
      go_enter Tryd.func15, Tryd.ntmps15
      go_wp2
      go_ret
      exact ⟨rfl, (show Aside _ from fun h => absurd h (by decide)), BQ 0⟩
end Go.Proofs.YtnpinbpjfngknaaDoor
