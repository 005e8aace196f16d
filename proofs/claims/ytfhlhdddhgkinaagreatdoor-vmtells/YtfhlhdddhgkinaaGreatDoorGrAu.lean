/-
  VmI, VfR, VfO, RefRul, RefRow1, in one text.
-/
import Derived.Test.YtfhlhdddhgkinaaGreatDoorGrAq
import Derived.Deep.QuietTactic
import Derived.BigQuiet
import Derived.Test.YtfhlhdddhgkinaaGreatDoorQVfF
import Derived.Test.YtfhlhdddhgkinaaGreatDoorQKdRuleC
import Derived.Test.YtfhlhdddhgkinaaGreatDoorGrAt
import Derived.Test.YtfhlhdddhgkinaaGreatDoorGrAg
namespace Go.Proofs.YtfhlhdddhgkinaaGreatDoor
open Go.RowKit
set_option linter.unusedVariables false

set_option maxHeartbeats 4000000 in
theorem ints_same (p q : Option Addr) (ca cb N : Nat) (ts : List Int) (w : World) (hN : ts.length = N) (hn : N ≤ 1200) (ha : IntsAt w p ts) (hb : IntsAt w q ts) :
    Calls Tryz.prog 21 #[.slice p N ca, .slice q N cb] w fun e w' => e = .returned (.bool true) ∧ Below w.heap.size w w' := by
  have HA : Aside (IntsAt w p ts) := ha
  have HB : Aside (IntsAt w q ts) := hb
  have HN : Hid (ts.length = N) := hN
  have hNz : (N : Int) ≤ 1200 := by omega
  have hq : ((N : Int) != (N : Int)) = false := by simp
  clear ha hb hN
  go_enter Tryz.func21, Tryz.ntmps21
  go_wp2
  go_loopg [5] N (fun gg s5 wr => ∃ kk : Nat, kk ≤ N ∧ N - kk ≤ gg ∧ s5 = .int .i64 kk ∧ Aside (Below w.heap.size w wr))
  case atStart => exact ⟨0, Nat.zero_le _, by omega, rfl, Below.refl _ w⟩
  case round =>
    obtain ⟨kk, hkk, hg, rfl, BW⟩ := hrel
    by_cases hlt : kk < N
    · have hltz : (kk : Int) < (N : Int) := by omega
      have k0 : (0 : Int) ≤ (kk : Int) := by omega
      have hne : ts.length ≠ 0 := by rw [HN.out]; omega
      have hk : kk < ts.length := by rw [HN.out]; exact hlt
      obtain ⟨ab, ao, rfl, hal, hac⟩ := (HA.out.on BW.out).resolve_left hne
      obtain ⟨bb, bo, rfl, hbl, hbc⟩ := (HB.out.on BW.out).resolve_left hne
      have c0 := hac kk hk
      have d0 := hbc kk hk
      generalize ts[kk] = y at c0 d0
      have hy : (y != y) = false := by simp
      clear hac hbc
      go_wp2
      go_quiet (fail)
      go_wp2
      go_roundg (N - (kk + 1))
      case measure => omega
      case rel => exact ⟨kk + 1, by omega, by omega, by go_num, by repeat (first | exact BW.out | apply below_drewN | refine Below.drew ?_)⟩
    · have hltz : ¬ (kk : Int) < (N : Int) := by omega
      go_wp2
      go_ret
      exact ⟨rfl, BW.out⟩
end Go.Proofs.YtfhlhdddhgkinaaGreatDoor
namespace Go.Proofs.YtfhlhdddhgkinaaGreatDoor
open Go.RowKit
set_option linter.unusedVariables false

theorem KnAt.flag {w : World} {b : Nat} {ks : List Pl} (h : KnAt w b ks) {t : Nat} (ht : t < ks.length) (hn : ks[t] = none) : KnAt (w.setCell ⟨b, t * 2, none⟩ (.bool true)) b (ks.set t (some [])) := by
  obtain ⟨h1, h2, h3⟩ := h
  have hB : But b w (w.setCell ⟨b, t * 2, none⟩ (.bool true)) := (But.refl b w).set _ _
  refine ⟨by have := hB.size; omega, fun o => by simpa using h2 o, fun j hj => ?_⟩
  rw [List.length_set] at hj
  obtain ⟨c0, u, c1, hs⟩ := h3 j hj
  by_cases hjt : t = j
  · subst hjt
    refine ⟨?_, u, ?_, ?_⟩
    · rw [cell_eq c0]; simp
    · rw [cell_ne (by omega)]; exact c1
    · rw [hn] at hs
      simpa using hs.but hB
  · refine ⟨?_, u, ?_, ?_⟩
    · rw [cell_ne (by omega), c0]; simp [List.getElem_set_ne hjt]
    · rw [cell_ne (by omega), c1]
    · rw [List.getElem_set_ne hjt]; exact hs.but hB
theorem KnAt.putL {w : World} {b : Nat} {ks : List Pl} (h : KnAt w b ks) {t : Nat} (ht : t < ks.length) {s0 : List Int} (hn : ks[t] = some s0) {v : Value} {st : List Int} (hv : StkAt w b v st) : KnAt (w.setCell ⟨b, t * 2 + 1, none⟩ v) b (ks.set t (some st)) := by
  obtain ⟨h1, h2, h3⟩ := h
  have hB : But b w (w.setCell ⟨b, t * 2 + 1, none⟩ v) := (But.refl b w).set _ _
  refine ⟨by have := hB.size; omega, fun o => by simpa using h2 o, fun j hj => ?_⟩
  rw [List.length_set] at hj
  obtain ⟨c0, u, c1, hs⟩ := h3 j hj
  by_cases hjt : t = j
  · subst hjt
    refine ⟨?_, v, ?_, ?_⟩
    · rw [cell_ne (by omega), c0, hn]; simp
    · exact cell_eq c1
    · simpa using hv.but hB
  · refine ⟨?_, u, ?_, ?_⟩
    · rw [cell_ne (by omega), c0]; simp [List.getElem_set_ne hjt]
    · rw [cell_ne (by omega), c1]
    · rw [List.getElem_set_ne hjt]; exact hs.but hB
theorem set_same {ks : List Pl} {t : Nat} {s : List Int} (h : t < ks.length) (e : ks[t] = some s) : ks.set t (some s) = ks := by
  rw [← e]; exact List.set_getElem_self h
set_option maxHeartbeats 8000000 in
set_option maxRecDepth 20000 in
theorem reach_any (ks : List Pl) (b n kc t : Nat) (v : Value) (st : List Int) (w : World) (hn : ks.length = n) (hk : KnAt w b ks) (ht : t < n) (hn2 : n ≤ 1201) (hv : StkAt w b v st) (K : Pl) (hK : ks[t]? = some K) (B : Bool) (hB : (K.isSome = true ∧ K.getD [] ≠ st) ↔ B = false) :
    Calls Tryz.prog 44 #[.slice (some ⟨b, 0, none⟩) n kc, .int .i64 t, v] w fun e w' => e = .returned (.bool B) ∧ Aside (B = true → KnAt w' b (ks.set t (some st))) ∧ Aside (But b w w') := by
  have htl : t < ks.length := by omega
  have hg : ks[t] = K := by
    rw [List.getElem?_eq_getElem htl] at hK
    exact Option.some.inj hK
  obtain ⟨pT, cT, d0, d1, dS⟩ := hk.at t htl
  rw [hg] at d0 d1 dS
  have z0 : (0 : Int) ≤ (t : Int) := by omega
  have z1 : (t : Int) < (n : Int) := by omega
  have hbl := hk.1
  have fz := hk.2.1
  obtain ⟨pv, cv, hvv, hvr⟩ := id hv
  subst hvv
  have hv64 : st.length ≤ 64 := hvr.1.2
  cases K with
  | none =>
    have hBt : B = true := by
      cases B with
      | true => rfl
      | false => exact absurd (hB.2 rfl).1 (by simp)
    subst hBt
    simp only [Option.isSome_none] at d0
    have K1 := hk.flag htl hg
    have HB1 : But b w (w.setCell ⟨b, t * 2, none⟩ (.bool true)) := (But.refl b w).set _ _
    have S1 := hv.but HB1
    have hsz : (w.setCell ⟨b, t * 2, none⟩ (.bool true)).heap.size = w.heap.size := by simp [World.setCell]
    have b2 := alB (w.setCell ⟨b, t * 2, none⟩ (.bool true)) (.cells #[] 3)
    have OW := World.ownsRow_lit (base := (w.setCell ⟨b, t * 2, none⟩ (.bool true)).heap.size) (e := 3) (size := 1) (w.setCell ⟨b, t * 2, none⟩ (.bool true)) #[] 0 (Nat.le_refl _) (Nat.zero_le _) rfl
    rw [hsz] at OW b2
    have Q1 : Aside (KnAt (w.setCell ⟨b, t * 2, none⟩ (.bool true)) b (ks.set t (some []))) := K1
    have Q2 : Aside (But b w (w.setCell ⟨b, t * 2, none⟩ (.bool true))) := HB1
    have Q3 : Aside (Below w.heap.size (w.setCell ⟨b, t * 2, none⟩ (.bool true)) ((w.setCell ⟨b, t * 2, none⟩ (.bool true)).alloc (.cells #[] 3))) := b2
    have Q4 : Hid ((w.setCell ⟨b, t * 2, none⟩ (.bool true)).heap.size = w.heap.size) := hsz
    have S2 := S1.on (by rw [hsz]; exact b2)
    have hsz2 : w.heap.size ≤ ((w.setCell ⟨b, t * 2, none⟩ (.bool true)).alloc (.cells #[] 3)).heap.size := (HB1.alloc (by rw [hsz]; omega) _).size
    have SS : Aside (StkAt ((w.setCell ⟨b, t * 2, none⟩ (.bool true)).alloc (.cells #[] 3)) b (.slice pv st.length cv) st) := S2
    have HKS : Hid (ks.length = n) := hn
    clear hB hk hv hvr hK hn dS K1 S1 S2 HB1 b2 hsz
    go_enter Tryz.func44, Tryz.ntmps44
    go_wp2_with (at_builtin; refine wpList_append_stk rfl _ _ rfl w.heap.size b _ 0 [] rfl OW _ st rfl SS.out (by omega) hsz2 ?_)
    intro v2 w2 o2 b3 g2
    have b4 : Below (w.setCell ⟨b, t * 2, none⟩ (.bool true)).heap.size (w.setCell ⟨b, t * 2, none⟩ (.bool true)) w2 := by rw [Q4.out]; exact Q3.out.trans b3
    have K3 : KnAt w2 b (ks.set t (some [])) := Q1.out.on b4
    have S3 : StkAt w2 b v2 st := own_stk (by simp) o2 hbl (by omega)
    have K4 : Aside (KnAt (w2.setCell ⟨b, t * 2 + 1, none⟩ v2) b (ks.set t (some st))) := by
      have := K3.putL (t := t) (by rw [List.length_set]; exact htl) (s0 := []) (by simp) S3
      rw [List.set_set] at this
      exact this
    have B4 : Aside (But b w (w2.setCell ⟨b, t * 2 + 1, none⟩ v2)) := (Q2.out.trans (But.of_below' b4 (by rw [Q4.out]; omega))).set _ _
    have fz2 := K3.2.1
    have hbw2 := K3.1
    have e1 : w2.cell? ⟨b, t * 2 + 1, none⟩ = some (.slice pT 0 cT) := by
      rw [b4.cell (p := ⟨b, t * 2 + 1, none⟩) (by rw [Q4.out]; exact hbl), cell_ne (by omega)]; exact d1
    obtain ⟨p2, c2, rfl, -⟩ := S3
    clear K3 b4 b3 o2 g2 Q1 Q2 Q3 Q4 SS OW
    go_wp2
    go_ret
    exact ⟨rfl, (show Aside _ from fun _ => K4.out), B4⟩
  | some s1 =>
    simp only [Option.isSome_some, Option.getD_some] at d0 d1 dS hB
    have hBd : B = decide (s1 = st) := by
      cases B with
      | true => exact (decide_eq_true (Classical.byContradiction fun h => absurd (hB.1 ⟨trivial, h⟩) (by simp))).symm
      | false => exact (decide_eq_false (hB.2 rfl).2).symm
    have i1 := dS.ints
    have i2 := hv.ints
    have h64 : s1.length ≤ 64 := by
      obtain ⟨_, _, _, ⟨_, x1⟩, _⟩ := dS
      exact x1
    have KQ : ∀ q, Aside (KnAt (w.drewN q) b ks) := fun q => hk.on (below_drewN (Below.refl _ w) q)
    have BQ : ∀ q, Aside (But b w (w.drewN q)) := fun q => (But.refl b w).drewN q
    by_cases hl : s1.length = st.length
    · obtain ⟨m, hm⟩ : ∃ m, st.length = m := ⟨_, rfl⟩
      have hm1 : s1.length = m := by omega
      have HM : Hid (st.length = m) := hm
      have HM1 : Hid (s1.length = m) := hm1
      have HD : Hid (B = decide (s1 = st)) := hBd
      have HG : Hid (ks[t] = some s1) := hg
      have HI1 : Aside (IntsAt w pT s1) := i1
      have HI2 : Aside (IntsAt w pv st) := i2
      rw [hm1] at d1
      rw [hm]
      have hne : ((m : Int) != (m : Int)) = false := by simp
      have hm64 : m ≤ 64 := by omega
      clear hB hBd hk hv hvr hK hn dS hl hm hm1 hg i1 i2 hv64 h64
      go_enter Tryz.func44, Tryz.ntmps44
      go_wp2
      go_loopg [7] m (fun g s7 wr => ∃ k q : Nat, k ≤ m ∧ m - k ≤ g ∧ s7 = .int .i64 k ∧ wr = w.drewN q ∧ Aside (s1.take k = st.take k))
      case atStart => exact ⟨0, 0, Nat.zero_le _, by omega, rfl, rfl, (show Aside _ from rfl)⟩
      case round =>
        obtain ⟨k, q, hk, hgg, rfl, rfl, HE⟩ := hrel
        by_cases hlt : k < m
        · have hltz : (k : Int) < (m : Int) := by omega
          have k0 : (0 : Int) ≤ (k : Int) := by omega
          have e1 : k < s1.length := by rw [HM1.out]; exact hlt
          have e2 : k < st.length := by rw [HM.out]; exact hlt
          rcases HI1.out with h | ⟨b1, o1, rfl, hb1, hc1⟩
          · exact absurd h (by omega)
          rcases HI2.out with h | ⟨b2, o2, rfl, hb2, hc2⟩
          · exact absurd h (by omega)
          have g1 := hc1 k e1
          have g2 := hc2 k e2
          have HS : Hid (s1[k] = st[k] → s1.take (k + 1) = st.take (k + 1)) := fun h => by rw [List.take_succ_eq_append_getElem e1, List.take_succ_eq_append_getElem e2, HE.out, h]
          have HX : Hid (s1[k] ≠ st[k] → s1 ≠ st) := fun h => eqL_ne e1 e2 h
          clear hc1 hc2
          generalize s1[k] = x at g1 HS HX
          generalize st[k] = y at g2 HS HX
          by_cases hxy : x = y
          · have HT : Aside (s1.take (k + 1) = st.take (k + 1)) := HS.out hxy
            have hb : (x != y) = false := by simpa using hxy
            clear HS HX HE hxy
            go_wp2_with fail
            go_quiet (fail)
            go_wp2
            go_roundg (m - (k + 1))
            case measure => omega
            case rel => exact ⟨k + 1, _, by omega, by omega, by go_num, rfl, HT⟩
          · have hb : (x != y) = true := by simpa using hxy
            have hD := HD.out
            rw [decide_eq_false (HX.out hxy)] at hD
            subst hD
            clear HS HX HE hxy
            go_wp2_with fail
            go_quiet (fail)
            go_wp2
            go_ret
            exact ⟨rfl, (show Aside _ from fun h => absurd h (by decide)), by have := BQ (q + nq); simpa [World.drewN, Nat.add_assoc] using this⟩
        · have hltz : ¬ (k : Int) < (m : Int) := by omega
          have hD := HD.out
          have he : s1 = st := by
            have := HE.out
            rwa [List.take_of_length_le (by rw [HM1.out]; omega), List.take_of_length_le (by rw [HM.out]; omega)] at this
          rw [decide_eq_true he] at hD
          subst hD
          have KE : Aside (KnAt (w.drewN q) b (ks.set t (some st))) := by
            rw [← he, set_same htl HG.out]; exact KQ q
          clear HE he
          go_wp2
          go_ret
          exact ⟨rfl, KE, BQ q⟩
    · have hBf : B = false := by rw [hBd]; exact decide_eq_false fun h => hl (by rw [h])
      subst hBf
      have hne : ((s1.length : Int) != (st.length : Int)) = true := by simp; omega
      generalize s1.length = l1 at d1 hne
      clear hB hBd hk hv hvr hK hn dS hl hg i1 i2 hv64 h64
      go_enter Tryz.func44, Tryz.ntmps44
      go_wp2
      go_ret
      exact ⟨rfl, (show Aside _ from fun h => absurd h (by decide)), BQ 0⟩
end Go.Proofs.YtfhlhdddhgkinaaGreatDoor
namespace Go.Proofs.YtfhlhdddhgkinaaGreatDoor
open Go.RowKit
set_option linter.unusedVariables false

theorem mostF_at {m : Int} {l : List Pl} {k : Nat} (h : k < l.length) : mostF m (l.drop k) = mostF (max m ((l[k].getD []).length : Int)) (l.drop (k + 1)) := by
  rw [List.drop_eq_getElem_cons h, mostF, List.foldl_cons, ← mostF]
end Go.Proofs.YtfhlhdddhgkinaaGreatDoor
namespace Go.Proofs.YtfhlhdddhgkinaaGreatDoor
open Go.RowKit Go.BigFrame
set_option linter.unusedVariables false

/-- An operation has as many parts as its rule says; what is none has no rule. -/
theorem arity_find (x : List UInt8) : (arityT x < 1 → kdFind x kdRules = none) ∧ (1 ≤ arityT x → ∃ r, kdFind x kdRules = some r ∧ (kdCnt r : Int) = arityT x) := by
  by_cases h : x ∈ kdRules.map (·.1)
  · have all : ∀ y ∈ kdRules.map (·.1), (1 ≤ arityT y) ∧ ∃ r, kdFind y kdRules = some r ∧ (kdCnt r : Int) = arityT y := by
      intro y hy
      simp only [kdRules, List.map_cons, List.map_nil, List.mem_cons, List.not_mem_nil, or_false] at hy
      rcases hy with rfl | rfl | rfl | rfl | rfl | rfl | rfl | rfl | rfl | rfl | rfl | rfl | rfl | rfl | rfl | rfl | rfl <;> exact ⟨by decide, _, rfl, by decide⟩
    obtain ⟨h1, h2⟩ := all x h
    exact ⟨fun hh => by omega, fun _ => h2⟩
  · have hn : kdFind x kdRules = none := by
      cases hf : kdFind x kdRules with
      | none => rfl
      | some r => exact absurd (List.mem_map.2 ⟨r, (kdFind_mem hf).1, (kdFind_mem hf).2⟩) h
    refine ⟨fun _ => hn, fun hh => ?_⟩
    exfalso
    simp only [kdRules, List.map_cons, List.map_nil, List.mem_cons, List.not_mem_nil, or_false, not_or] at h
    obtain ⟨n1, n2, n3, n4, n5, n6, n7, n8, n9, n10, n11, n12, n13, n14, n15, n16, n17⟩ := h
    unfold arityT at hh
    split at hh
    · omega
    · simp only [n3, n15, n16, or_self, if_false] at hh
      have hs : inSigns x = false := by
        unfold inSigns
        rw [Bool.eq_false_iff]
        intro ha
        rw [List.any_eq_true] at ha
        obtain ⟨y, hy, he⟩ := ha
        have he2 : y = x := by simpa using he
        subst he2
        simp [sgl] at hy
        rcases hy with h | h | h | h | h | h | h | h | h | h | h | h | h <;> simp_all
      rw [hs, if_neg (by simp)] at hh
      omega
theorem isTy_no {t : Int} (h : t < 1 ∨ 3 < t) : isTy t = false := by
  unfold isTy
  simp
  omega
theorem isTy_yes {t : Int} (h1 : ¬ t < 1) (h2 : ¬ 3 < t) : isTy t = true := by
  unfold isTy
  simp
  omega
theorem all_no {ts : List Int} {k : Nat} (h : k < ts.length) (ht : isTy ts[k] = false) : ts.all isTy = false := by
  rw [List.all_eq_false]
  exact ⟨ts[k], List.getElem_mem h, by simp [ht]⟩
set_option maxHeartbeats 4000000 in
set_option maxRecDepth 20000 in
theorem refRule_any (op : ByteArray) (p : Option Addr) (c N : Nat) (ts : List Int) (w : World) (hN : ts.length = N) (hl : N ≤ 9223372036854775807) (hts : IntsAt w p ts) (T E : Int) (hR : ruleP op.data.toList ts = (T, E)) :
    Calls Tryz.prog 43 #[.string op, .slice p N c] w fun e w' => e = .returned (.tuple #[.int .i64 T, .int .i64 E]) ∧ Below w.heap.size w w' := by
  have cA := refArity_any op w
  have hfind := arity_find op.data.toList
  obtain ⟨A, hA⟩ : ∃ A, arityT op.data.toList = A := ⟨_, rfl⟩
  rw [hA] at cA hfind
  by_cases h1 : A < 1
  · rw [ruleP_none (hfind.1 h1)] at hR
    obtain ⟨rfl, rfl⟩ := Prod.mk.inj hR
    clear hfind hR hA hts
    go_enter Tryz.func43, Tryz.ntmps43
    go_wp2_with fail
    refine cA.mono ?_
    rintro e w1 ⟨rfl, b1⟩
    go_wp2
    go_ret2
    exact ⟨rfl, b1⟩
  · obtain ⟨r, hf, hcnt⟩ := hfind.2 (by omega)
    have HF : Hid (kdFind op.data.toList kdRules = some r) := hf
    have HC : Hid ((kdCnt r : Int) = A) := hcnt
    have HR : Hid (ruleP op.data.toList ts = (T, E)) := hR
    have HT : Aside (IntsAt w p ts) := hts
    have HN : Hid (ts.length = N) := hN
    clear hfind hf hcnt hR hA hts hN
    go_enter Tryz.func43, Tryz.ntmps43
    go_wp2_with fail
    refine cA.mono ?_
    rintro e w1 ⟨rfl, b1⟩
    clear cA
    have HT1 : Aside (IntsAt w1 p ts) := HT.out.on b1
    go_wp2
    go_loopg [7] N (fun gg s7 wr => ∃ kk : Nat, kk ≤ N ∧ N - kk ≤ gg ∧ s7 = .int .i64 kk ∧ wr = w1 ∧ Hid ((ts.take kk).all isTy = true))
    case atStart => exact ⟨0, Nat.zero_le _, by omega, rfl, rfl, (show Hid _ from rfl)⟩
    case round =>
      obtain ⟨kk, hkk, hg, rfl, hwr, HA⟩ := hrel
      have hwr2 := hwr.symm
      clear hwr
      subst hwr2
      by_cases hlt : kk < N
      · have hltz : (kk : Int) < (N : Int) := by omega
        have h0z : (0 : Int) ≤ (kk : Int) := by omega
        have hk2 : kk < ts.length := by rw [HN.out]; exact hlt
        rcases HT1.out with h | ⟨b, off, rfl, hbl, hc⟩
        · exact absurd h (by omega)
        have e0 := hc kk hk2
        have hsn := all_snoc hk2
        have hno := fun h => all_no (ts := ts) hk2 h
        generalize ts[kk] = t at e0 hsn hno
        clear hc
        by_cases ht1 : t < 1
        · have hf := HR.out
          rw [ruleP_bad HF.out (hno (isTy_no (.inl ht1)))] at hf
          obtain ⟨rfl, rfl⟩ := Prod.mk.inj hf
          clear hf hsn hno HR HA
          go_wp2
          go_ret2
          exact ⟨rfl, b1⟩
        · by_cases ht3 : 3 < t
          · have hf := HR.out
            rw [ruleP_bad HF.out (hno (isTy_no (.inr ht3)))] at hf
            obtain ⟨rfl, rfl⟩ := Prod.mk.inj hf
            clear hf hsn hno HR HA
            go_wp2
            go_ret2
            exact ⟨rfl, b1⟩
          · have HA2 : Hid ((ts.take (kk + 1)).all isTy = true) := by
              show _ = _
              rw [hsn, HA.out, isTy_yes ht1 ht3]; rfl
            clear hsn hno HA
            go_wp2
            go_roundg (N - (kk + 1))
            case measure => omega
            case rel => exact ⟨kk + 1, by omega, by omega, by go_num, rfl, HA2⟩
      · have hltz : ¬ (kk : Int) < (N : Int) := by omega
        obtain rfl : kk = N := by omega
        have hall : ts.all isTy = true := by
          have h := HA.out
          rwa [List.take_of_length_le (by rw [HN.out]; exact Nat.le_refl _)] at h
        by_cases hlen : (kk : Int) = A
        · have hck : (kk : Int) = (kdCnt r : Int) := hlen.trans HC.out.symm
          have hkc : kk = kdCnt r := by omega
          have hlb : ((kk : Int) != A) = false := by rw [hlen]; simp
          obtain ⟨hm, he⟩ := kdFind_mem HF.out
          have hrest := ruleP_rest HF.out hall (HN.out.trans hkc)
          rw [HR.out] at hrest
          have hln : ts.length = kk := HN.out
          have HR2 : Hid (T = T) := rfl
          clear HR HF HC hall HA HR2 hg hkk
          simp only [kdRules, List.mem_cons, List.not_mem_nil, or_false] at hm
          obtain ⟨⟨ol⟩⟩ := op
          simp only at he
          subst he
          rcases hm with rfl | rfl | rfl | rfl | rfl | rfl | rfl | rfl | rfl | rfl | rfl | rfl | rfl | rfl | rfl | rfl | rfl
          · obtain rfl : kk = 2 := hkc
            match ts, hln, HT1, hrest with
            | [t0, t1], _, HT1, hrest =>
              rcases HT1.out with h | ⟨b, off, rfl, hbl, hc⟩
              · exact absurd h (by simp)
              have e0 : w1.cell? ⟨b, off, none⟩ = some (.int .i64 t0) := hc 0 (by simp)
              have e1 : w1.cell? ⟨b, off + 1, none⟩ = some (.int .i64 t1) := hc 1 (by simp)
              clear hc HT1 hln hck
              have key : ((t0 = 2 ∧ t1 = 2) ∧ T = 2 ∧ E = 0) ∨ (¬ (t0 = 2 ∧ t1 = 2) ∧ T = 0 ∧ E = 8) := by
                split at hrest
                · rename_i hB
                  obtain ⟨h1, h2⟩ := Prod.mk.inj hrest
                  exact .inl ⟨by simpa [kdAll, kdMeant] using hB, by simpa [kdMeant] using h1, h2⟩
                · rename_i hB
                  obtain ⟨h1, h2⟩ := Prod.mk.inj hrest
                  exact .inr ⟨fun hc => hB (by simp [kdAll, kdMeant, hc]), h1, h2⟩
              clear hrest
              rcases key with ⟨⟨rfl, rfl⟩, rfl, rfl⟩ | ⟨hc, rfl, rfl⟩
              · skip
                go_wp2
                go_loopg [10] 2 (fun gg s10 wr => ∃ j : Nat, j ≤ 2 ∧ 2 - j ≤ gg ∧ s10 = .int .i64 j ∧ wr = w1)
                case atStart => exact ⟨0, by decide, by decide, by rfl, rfl⟩
                case round =>
                  obtain ⟨j, hj, hg, rfl, hwr⟩ := hrel
                  have hwr2 := hwr.symm
                  clear hwr
                  subst hwr2
                  have hj3 : j = 0 ∨ j = 1 ∨ j = 2 := by omega
                  rcases hj3 with rfl | rfl | rfl
                  · go_wp2
                    go_roundg (2 - 1)
                    case measure => omega
                    case rel => exact ⟨1, by decide, by omega, by go_num, rfl⟩
                  · go_wp2
                    go_roundg (2 - 2)
                    case measure => omega
                    case rel => exact ⟨2, by decide, by omega, by go_num, rfl⟩
                  · go_wp2
                    go_ret2
                    exact ⟨rfl, b1⟩
              · by_cases h0 : t0 = 2
                · subst h0
                  have q1 : (t1 != 2) = true := by simp; intro h; exact hc ⟨rfl, h⟩
                  go_wp2
                  go_loopg [10] 2 (fun gg s10 wr => ∃ j : Nat, j ≤ 1 ∧ 2 - j ≤ gg ∧ s10 = .int .i64 j ∧ wr = w1)
                  case atStart => exact ⟨0, by decide, by decide, by rfl, rfl⟩
                  case round =>
                    obtain ⟨j, hj, hg, rfl, hwr⟩ := hrel
                    have hwr2 := hwr.symm
                    clear hwr
                    subst hwr2
                    have hj3 : j = 0 ∨ j = 1 := by omega
                    rcases hj3 with rfl | rfl
                    · go_wp2
                      go_roundg (2 - 1)
                      case measure => omega
                      case rel => exact ⟨1, by decide, by omega, by go_num, rfl⟩
                    · go_wp2
                      go_ret2
                      exact ⟨rfl, b1⟩
                · have q0 : (t0 != 2) = true := by simpa using h0
                  go_wp2
                  go_loopg [10] 2 (fun gg s10 wr => ∃ j : Nat, j ≤ 0 ∧ 2 - j ≤ gg ∧ s10 = .int .i64 j ∧ wr = w1)
                  case atStart => exact ⟨0, by decide, by decide, by rfl, rfl⟩
                  case round =>
                    obtain ⟨j, hj, hg, rfl, hwr⟩ := hrel
                    have hwr2 := hwr.symm
                    clear hwr
                    subst hwr2
                    have hj3 : j = 0 := by omega
                    obtain rfl := hj3
                    go_wp2
                    go_ret2
                    exact ⟨rfl, b1⟩
          · obtain rfl : kk = 2 := hkc
            match ts, hln, HT1, hrest with
            | [t0, t1], _, HT1, hrest =>
              rcases HT1.out with h | ⟨b, off, rfl, hbl, hc⟩
              · exact absurd h (by simp)
              have e0 : w1.cell? ⟨b, off, none⟩ = some (.int .i64 t0) := hc 0 (by simp)
              have e1 : w1.cell? ⟨b, off + 1, none⟩ = some (.int .i64 t1) := hc 1 (by simp)
              clear hc HT1 hln hck
              have key : ((t0 = 2 ∧ t1 = 2) ∧ T = 2 ∧ E = 0) ∨ (¬ (t0 = 2 ∧ t1 = 2) ∧ T = 0 ∧ E = 8) := by
                split at hrest
                · rename_i hB
                  obtain ⟨h1, h2⟩ := Prod.mk.inj hrest
                  exact .inl ⟨by simpa [kdAll, kdMeant] using hB, by simpa [kdMeant] using h1, h2⟩
                · rename_i hB
                  obtain ⟨h1, h2⟩ := Prod.mk.inj hrest
                  exact .inr ⟨fun hc => hB (by simp [kdAll, kdMeant, hc]), h1, h2⟩
              clear hrest
              rcases key with ⟨⟨rfl, rfl⟩, rfl, rfl⟩ | ⟨hc, rfl, rfl⟩
              · skip
                go_wp2
                go_loopg [10] 2 (fun gg s10 wr => ∃ j : Nat, j ≤ 2 ∧ 2 - j ≤ gg ∧ s10 = .int .i64 j ∧ wr = w1)
                case atStart => exact ⟨0, by decide, by decide, by rfl, rfl⟩
                case round =>
                  obtain ⟨j, hj, hg, rfl, hwr⟩ := hrel
                  have hwr2 := hwr.symm
                  clear hwr
                  subst hwr2
                  have hj3 : j = 0 ∨ j = 1 ∨ j = 2 := by omega
                  rcases hj3 with rfl | rfl | rfl
                  · go_wp2
                    go_roundg (2 - 1)
                    case measure => omega
                    case rel => exact ⟨1, by decide, by omega, by go_num, rfl⟩
                  · go_wp2
                    go_roundg (2 - 2)
                    case measure => omega
                    case rel => exact ⟨2, by decide, by omega, by go_num, rfl⟩
                  · go_wp2
                    go_ret2
                    exact ⟨rfl, b1⟩
              · by_cases h0 : t0 = 2
                · subst h0
                  have q1 : (t1 != 2) = true := by simp; intro h; exact hc ⟨rfl, h⟩
                  go_wp2
                  go_loopg [10] 2 (fun gg s10 wr => ∃ j : Nat, j ≤ 1 ∧ 2 - j ≤ gg ∧ s10 = .int .i64 j ∧ wr = w1)
                  case atStart => exact ⟨0, by decide, by decide, by rfl, rfl⟩
                  case round =>
                    obtain ⟨j, hj, hg, rfl, hwr⟩ := hrel
                    have hwr2 := hwr.symm
                    clear hwr
                    subst hwr2
                    have hj3 : j = 0 ∨ j = 1 := by omega
                    rcases hj3 with rfl | rfl
                    · go_wp2
                      go_roundg (2 - 1)
                      case measure => omega
                      case rel => exact ⟨1, by decide, by omega, by go_num, rfl⟩
                    · go_wp2
                      go_ret2
                      exact ⟨rfl, b1⟩
                · have q0 : (t0 != 2) = true := by simpa using h0
                  go_wp2
                  go_loopg [10] 2 (fun gg s10 wr => ∃ j : Nat, j ≤ 0 ∧ 2 - j ≤ gg ∧ s10 = .int .i64 j ∧ wr = w1)
                  case atStart => exact ⟨0, by decide, by decide, by rfl, rfl⟩
                  case round =>
                    obtain ⟨j, hj, hg, rfl, hwr⟩ := hrel
                    have hwr2 := hwr.symm
                    clear hwr
                    subst hwr2
                    have hj3 : j = 0 := by omega
                    obtain rfl := hj3
                    go_wp2
                    go_ret2
                    exact ⟨rfl, b1⟩
          · obtain rfl : kk = 1 := hkc
            match ts, hln, HT1, hrest with
            | [t0], _, HT1, hrest =>
              rcases HT1.out with h | ⟨b, off, rfl, hbl, hc⟩
              · exact absurd h (by simp)
              have e0 : w1.cell? ⟨b, off, none⟩ = some (.int .i64 t0) := hc 0 (by simp)
              clear hc HT1 hln hck
              have key : ((t0 = 2) ∧ T = 2 ∧ E = 0) ∨ (¬ (t0 = 2) ∧ T = 0 ∧ E = 8) := by
                split at hrest
                · rename_i hB
                  obtain ⟨h1, h2⟩ := Prod.mk.inj hrest
                  exact .inl ⟨by simpa [kdAll, kdMeant] using hB, by simpa [kdMeant] using h1, h2⟩
                · rename_i hB
                  obtain ⟨h1, h2⟩ := Prod.mk.inj hrest
                  exact .inr ⟨fun hc => hB (by simp [kdAll, kdMeant, hc]), h1, h2⟩
              clear hrest
              rcases key with ⟨rfl, rfl, rfl⟩ | ⟨hc, rfl, rfl⟩
              · skip
                go_wp2
                go_loopg [10] 1 (fun gg s10 wr => ∃ j : Nat, j ≤ 1 ∧ 1 - j ≤ gg ∧ s10 = .int .i64 j ∧ wr = w1)
                case atStart => exact ⟨0, by decide, by decide, by rfl, rfl⟩
                case round =>
                  obtain ⟨j, hj, hg, rfl, hwr⟩ := hrel
                  have hwr2 := hwr.symm
                  clear hwr
                  subst hwr2
                  have hj3 : j = 0 ∨ j = 1 := by omega
                  rcases hj3 with rfl | rfl
                  · go_wp2
                    go_roundg (1 - 1)
                    case measure => omega
                    case rel => exact ⟨1, by decide, by omega, by go_num, rfl⟩
                  · go_wp2
                    go_ret2
                    exact ⟨rfl, b1⟩
              · have q0 : (t0 != 2) = true := by simpa using hc
                go_wp2
                go_loopg [10] 1 (fun gg s10 wr => ∃ j : Nat, j ≤ 0 ∧ 1 - j ≤ gg ∧ s10 = .int .i64 j ∧ wr = w1)
                case atStart => exact ⟨0, by decide, by decide, by rfl, rfl⟩
                case round =>
                  obtain ⟨j, hj, hg, rfl, hwr⟩ := hrel
                  have hwr2 := hwr.symm
                  clear hwr
                  subst hwr2
                  have hj3 : j = 0 := by omega
                  obtain rfl := hj3
                  go_wp2
                  go_ret2
                  exact ⟨rfl, b1⟩
          · obtain rfl : kk = 2 := hkc
            match ts, hln, HT1, hrest with
            | [t0, t1], _, HT1, hrest =>
              rcases HT1.out with h | ⟨b, off, rfl, hbl, hc⟩
              · exact absurd h (by simp)
              have e0 : w1.cell? ⟨b, off, none⟩ = some (.int .i64 t0) := hc 0 (by simp)
              have e1 : w1.cell? ⟨b, off + 1, none⟩ = some (.int .i64 t1) := hc 1 (by simp)
              clear hc HT1 hln hck
              have key : ((t0 = t1) ∧ T = 2 ∧ E = 0) ∨ (¬ (t0 = t1) ∧ T = 0 ∧ E = 8) := by
                split at hrest
                · rename_i hB
                  obtain ⟨h1, h2⟩ := Prod.mk.inj hrest
                  exact .inl ⟨by simpa [kdAll, kdMeant] using hB, by simpa [kdMeant] using h1, h2⟩
                · rename_i hB
                  obtain ⟨h1, h2⟩ := Prod.mk.inj hrest
                  exact .inr ⟨fun hc => hB (by simp [kdAll, kdMeant, hc]), h1, h2⟩
              clear hrest
              rcases key with ⟨hc, rfl, rfl⟩ | ⟨hc, rfl, rfl⟩
              · subst hc
                have q0 : (t0 != t0) = false := by simp
                go_wp2
                go_loopg [10] 2 (fun gg s10 wr => ∃ j : Nat, j ≤ 2 ∧ 2 - j ≤ gg ∧ s10 = .int .i64 j ∧ wr = w1)
                case atStart => exact ⟨0, by decide, by decide, by rfl, rfl⟩
                case round =>
                  obtain ⟨j, hj, hg, rfl, hwr⟩ := hrel
                  have hwr2 := hwr.symm
                  clear hwr
                  subst hwr2
                  have hj3 : j = 0 ∨ j = 1 ∨ j = 2 := by omega
                  rcases hj3 with rfl | rfl | rfl
                  · go_wp2
                    go_roundg (2 - 1)
                    case measure => omega
                    case rel => exact ⟨1, by decide, by omega, by go_num, rfl⟩
                  · go_wp2
                    go_roundg (2 - 2)
                    case measure => omega
                    case rel => exact ⟨2, by decide, by omega, by go_num, rfl⟩
                  · go_wp2
                    go_ret2
                    exact ⟨rfl, b1⟩
              · have q0 : (t0 != t0) = false := by simp
                have q1 : (t1 != t0) = true := by simp; intro h; exact hc h.symm
                go_wp2
                go_loopg [10] 2 (fun gg s10 wr => ∃ j : Nat, j ≤ 1 ∧ 2 - j ≤ gg ∧ s10 = .int .i64 j ∧ wr = w1)
                case atStart => exact ⟨0, by decide, by decide, by rfl, rfl⟩
                case round =>
                  obtain ⟨j, hj, hg, rfl, hwr⟩ := hrel
                  have hwr2 := hwr.symm
                  clear hwr
                  subst hwr2
                  have hj3 : j = 0 ∨ j = 1 := by omega
                  rcases hj3 with rfl | rfl
                  · go_wp2
                    go_roundg (2 - 1)
                    case measure => omega
                    case rel => exact ⟨1, by decide, by omega, by go_num, rfl⟩
                  · go_wp2
                    go_ret2
                    exact ⟨rfl, b1⟩
          · obtain rfl : kk = 2 := hkc
            match ts, hln, HT1, hrest with
            | [t0, t1], _, HT1, hrest =>
              rcases HT1.out with h | ⟨b, off, rfl, hbl, hc⟩
              · exact absurd h (by simp)
              have e0 : w1.cell? ⟨b, off, none⟩ = some (.int .i64 t0) := hc 0 (by simp)
              have e1 : w1.cell? ⟨b, off + 1, none⟩ = some (.int .i64 t1) := hc 1 (by simp)
              clear hc HT1 hln hck
              have key : ((t0 = t1) ∧ T = 2 ∧ E = 0) ∨ (¬ (t0 = t1) ∧ T = 0 ∧ E = 8) := by
                split at hrest
                · rename_i hB
                  obtain ⟨h1, h2⟩ := Prod.mk.inj hrest
                  exact .inl ⟨by simpa [kdAll, kdMeant] using hB, by simpa [kdMeant] using h1, h2⟩
                · rename_i hB
                  obtain ⟨h1, h2⟩ := Prod.mk.inj hrest
                  exact .inr ⟨fun hc => hB (by simp [kdAll, kdMeant, hc]), h1, h2⟩
              clear hrest
              rcases key with ⟨hc, rfl, rfl⟩ | ⟨hc, rfl, rfl⟩
              · subst hc
                have q0 : (t0 != t0) = false := by simp
                go_wp2
                go_loopg [10] 2 (fun gg s10 wr => ∃ j : Nat, j ≤ 2 ∧ 2 - j ≤ gg ∧ s10 = .int .i64 j ∧ wr = w1)
                case atStart => exact ⟨0, by decide, by decide, by rfl, rfl⟩
                case round =>
                  obtain ⟨j, hj, hg, rfl, hwr⟩ := hrel
                  have hwr2 := hwr.symm
                  clear hwr
                  subst hwr2
                  have hj3 : j = 0 ∨ j = 1 ∨ j = 2 := by omega
                  rcases hj3 with rfl | rfl | rfl
                  · go_wp2
                    go_roundg (2 - 1)
                    case measure => omega
                    case rel => exact ⟨1, by decide, by omega, by go_num, rfl⟩
                  · go_wp2
                    go_roundg (2 - 2)
                    case measure => omega
                    case rel => exact ⟨2, by decide, by omega, by go_num, rfl⟩
                  · go_wp2
                    go_ret2
                    exact ⟨rfl, b1⟩
              · have q0 : (t0 != t0) = false := by simp
                have q1 : (t1 != t0) = true := by simp; intro h; exact hc h.symm
                go_wp2
                go_loopg [10] 2 (fun gg s10 wr => ∃ j : Nat, j ≤ 1 ∧ 2 - j ≤ gg ∧ s10 = .int .i64 j ∧ wr = w1)
                case atStart => exact ⟨0, by decide, by decide, by rfl, rfl⟩
                case round =>
                  obtain ⟨j, hj, hg, rfl, hwr⟩ := hrel
                  have hwr2 := hwr.symm
                  clear hwr
                  subst hwr2
                  have hj3 : j = 0 ∨ j = 1 := by omega
                  rcases hj3 with rfl | rfl
                  · go_wp2
                    go_roundg (2 - 1)
                    case measure => omega
                    case rel => exact ⟨1, by decide, by omega, by go_num, rfl⟩
                  · go_wp2
                    go_ret2
                    exact ⟨rfl, b1⟩
          · obtain rfl : kk = 2 := hkc
            match ts, hln, HT1, hrest with
            | [t0, t1], _, HT1, hrest =>
              rcases HT1.out with h | ⟨b, off, rfl, hbl, hc⟩
              · exact absurd h (by simp)
              have e0 : w1.cell? ⟨b, off, none⟩ = some (.int .i64 t0) := hc 0 (by simp)
              have e1 : w1.cell? ⟨b, off + 1, none⟩ = some (.int .i64 t1) := hc 1 (by simp)
              clear hc HT1 hln hck
              have key : ((t0 = t1) ∧ T = 2 ∧ E = 0) ∨ (¬ (t0 = t1) ∧ T = 0 ∧ E = 8) := by
                split at hrest
                · rename_i hB
                  obtain ⟨h1, h2⟩ := Prod.mk.inj hrest
                  exact .inl ⟨by simpa [kdAll, kdMeant] using hB, by simpa [kdMeant] using h1, h2⟩
                · rename_i hB
                  obtain ⟨h1, h2⟩ := Prod.mk.inj hrest
                  exact .inr ⟨fun hc => hB (by simp [kdAll, kdMeant, hc]), h1, h2⟩
              clear hrest
              rcases key with ⟨hc, rfl, rfl⟩ | ⟨hc, rfl, rfl⟩
              · subst hc
                have q0 : (t0 != t0) = false := by simp
                go_wp2
                go_loopg [10] 2 (fun gg s10 wr => ∃ j : Nat, j ≤ 2 ∧ 2 - j ≤ gg ∧ s10 = .int .i64 j ∧ wr = w1)
                case atStart => exact ⟨0, by decide, by decide, by rfl, rfl⟩
                case round =>
                  obtain ⟨j, hj, hg, rfl, hwr⟩ := hrel
                  have hwr2 := hwr.symm
                  clear hwr
                  subst hwr2
                  have hj3 : j = 0 ∨ j = 1 ∨ j = 2 := by omega
                  rcases hj3 with rfl | rfl | rfl
                  · go_wp2
                    go_roundg (2 - 1)
                    case measure => omega
                    case rel => exact ⟨1, by decide, by omega, by go_num, rfl⟩
                  · go_wp2
                    go_roundg (2 - 2)
                    case measure => omega
                    case rel => exact ⟨2, by decide, by omega, by go_num, rfl⟩
                  · go_wp2
                    go_ret2
                    exact ⟨rfl, b1⟩
              · have q0 : (t0 != t0) = false := by simp
                have q1 : (t1 != t0) = true := by simp; intro h; exact hc h.symm
                go_wp2
                go_loopg [10] 2 (fun gg s10 wr => ∃ j : Nat, j ≤ 1 ∧ 2 - j ≤ gg ∧ s10 = .int .i64 j ∧ wr = w1)
                case atStart => exact ⟨0, by decide, by decide, by rfl, rfl⟩
                case round =>
                  obtain ⟨j, hj, hg, rfl, hwr⟩ := hrel
                  have hwr2 := hwr.symm
                  clear hwr
                  subst hwr2
                  have hj3 : j = 0 ∨ j = 1 := by omega
                  rcases hj3 with rfl | rfl
                  · go_wp2
                    go_roundg (2 - 1)
                    case measure => omega
                    case rel => exact ⟨1, by decide, by omega, by go_num, rfl⟩
                  · go_wp2
                    go_ret2
                    exact ⟨rfl, b1⟩
          · obtain rfl : kk = 2 := hkc
            match ts, hln, HT1, hrest with
            | [t0, t1], _, HT1, hrest =>
              rcases HT1.out with h | ⟨b, off, rfl, hbl, hc⟩
              · exact absurd h (by simp)
              have e0 : w1.cell? ⟨b, off, none⟩ = some (.int .i64 t0) := hc 0 (by simp)
              have e1 : w1.cell? ⟨b, off + 1, none⟩ = some (.int .i64 t1) := hc 1 (by simp)
              clear hc HT1 hln hck
              have key : ((t0 = t1) ∧ T = 2 ∧ E = 0) ∨ (¬ (t0 = t1) ∧ T = 0 ∧ E = 8) := by
                split at hrest
                · rename_i hB
                  obtain ⟨h1, h2⟩ := Prod.mk.inj hrest
                  exact .inl ⟨by simpa [kdAll, kdMeant] using hB, by simpa [kdMeant] using h1, h2⟩
                · rename_i hB
                  obtain ⟨h1, h2⟩ := Prod.mk.inj hrest
                  exact .inr ⟨fun hc => hB (by simp [kdAll, kdMeant, hc]), h1, h2⟩
              clear hrest
              rcases key with ⟨hc, rfl, rfl⟩ | ⟨hc, rfl, rfl⟩
              · subst hc
                have q0 : (t0 != t0) = false := by simp
                go_wp2
                go_loopg [10] 2 (fun gg s10 wr => ∃ j : Nat, j ≤ 2 ∧ 2 - j ≤ gg ∧ s10 = .int .i64 j ∧ wr = w1)
                case atStart => exact ⟨0, by decide, by decide, by rfl, rfl⟩
                case round =>
                  obtain ⟨j, hj, hg, rfl, hwr⟩ := hrel
                  have hwr2 := hwr.symm
                  clear hwr
                  subst hwr2
                  have hj3 : j = 0 ∨ j = 1 ∨ j = 2 := by omega
                  rcases hj3 with rfl | rfl | rfl
                  · go_wp2
                    go_roundg (2 - 1)
                    case measure => omega
                    case rel => exact ⟨1, by decide, by omega, by go_num, rfl⟩
                  · go_wp2
                    go_roundg (2 - 2)
                    case measure => omega
                    case rel => exact ⟨2, by decide, by omega, by go_num, rfl⟩
                  · go_wp2
                    go_ret2
                    exact ⟨rfl, b1⟩
              · have q0 : (t0 != t0) = false := by simp
                have q1 : (t1 != t0) = true := by simp; intro h; exact hc h.symm
                go_wp2
                go_loopg [10] 2 (fun gg s10 wr => ∃ j : Nat, j ≤ 1 ∧ 2 - j ≤ gg ∧ s10 = .int .i64 j ∧ wr = w1)
                case atStart => exact ⟨0, by decide, by decide, by rfl, rfl⟩
                case round =>
                  obtain ⟨j, hj, hg, rfl, hwr⟩ := hrel
                  have hwr2 := hwr.symm
                  clear hwr
                  subst hwr2
                  have hj3 : j = 0 ∨ j = 1 := by omega
                  rcases hj3 with rfl | rfl
                  · go_wp2
                    go_roundg (2 - 1)
                    case measure => omega
                    case rel => exact ⟨1, by decide, by omega, by go_num, rfl⟩
                  · go_wp2
                    go_ret2
                    exact ⟨rfl, b1⟩
          · obtain rfl : kk = 2 := hkc
            match ts, hln, HT1, hrest with
            | [t0, t1], _, HT1, hrest =>
              rcases HT1.out with h | ⟨b, off, rfl, hbl, hc⟩
              · exact absurd h (by simp)
              have e0 : w1.cell? ⟨b, off, none⟩ = some (.int .i64 t0) := hc 0 (by simp)
              have e1 : w1.cell? ⟨b, off + 1, none⟩ = some (.int .i64 t1) := hc 1 (by simp)
              clear hc HT1 hln hck
              have key : ((t0 = t1) ∧ T = 2 ∧ E = 0) ∨ (¬ (t0 = t1) ∧ T = 0 ∧ E = 8) := by
                split at hrest
                · rename_i hB
                  obtain ⟨h1, h2⟩ := Prod.mk.inj hrest
                  exact .inl ⟨by simpa [kdAll, kdMeant] using hB, by simpa [kdMeant] using h1, h2⟩
                · rename_i hB
                  obtain ⟨h1, h2⟩ := Prod.mk.inj hrest
                  exact .inr ⟨fun hc => hB (by simp [kdAll, kdMeant, hc]), h1, h2⟩
              clear hrest
              rcases key with ⟨hc, rfl, rfl⟩ | ⟨hc, rfl, rfl⟩
              · subst hc
                have q0 : (t0 != t0) = false := by simp
                go_wp2
                go_loopg [10] 2 (fun gg s10 wr => ∃ j : Nat, j ≤ 2 ∧ 2 - j ≤ gg ∧ s10 = .int .i64 j ∧ wr = w1)
                case atStart => exact ⟨0, by decide, by decide, by rfl, rfl⟩
                case round =>
                  obtain ⟨j, hj, hg, rfl, hwr⟩ := hrel
                  have hwr2 := hwr.symm
                  clear hwr
                  subst hwr2
                  have hj3 : j = 0 ∨ j = 1 ∨ j = 2 := by omega
                  rcases hj3 with rfl | rfl | rfl
                  · go_wp2
                    go_roundg (2 - 1)
                    case measure => omega
                    case rel => exact ⟨1, by decide, by omega, by go_num, rfl⟩
                  · go_wp2
                    go_roundg (2 - 2)
                    case measure => omega
                    case rel => exact ⟨2, by decide, by omega, by go_num, rfl⟩
                  · go_wp2
                    go_ret2
                    exact ⟨rfl, b1⟩
              · have q0 : (t0 != t0) = false := by simp
                have q1 : (t1 != t0) = true := by simp; intro h; exact hc h.symm
                go_wp2
                go_loopg [10] 2 (fun gg s10 wr => ∃ j : Nat, j ≤ 1 ∧ 2 - j ≤ gg ∧ s10 = .int .i64 j ∧ wr = w1)
                case atStart => exact ⟨0, by decide, by decide, by rfl, rfl⟩
                case round =>
                  obtain ⟨j, hj, hg, rfl, hwr⟩ := hrel
                  have hwr2 := hwr.symm
                  clear hwr
                  subst hwr2
                  have hj3 : j = 0 ∨ j = 1 := by omega
                  rcases hj3 with rfl | rfl
                  · go_wp2
                    go_roundg (2 - 1)
                    case measure => omega
                    case rel => exact ⟨1, by decide, by omega, by go_num, rfl⟩
                  · go_wp2
                    go_ret2
                    exact ⟨rfl, b1⟩
          · obtain rfl : kk = 2 := hkc
            match ts, hln, HT1, hrest with
            | [t0, t1], _, HT1, hrest =>
              rcases HT1.out with h | ⟨b, off, rfl, hbl, hc⟩
              · exact absurd h (by simp)
              have e0 : w1.cell? ⟨b, off, none⟩ = some (.int .i64 t0) := hc 0 (by simp)
              have e1 : w1.cell? ⟨b, off + 1, none⟩ = some (.int .i64 t1) := hc 1 (by simp)
              clear hc HT1 hln hck
              have key : ((t0 = t1) ∧ T = 2 ∧ E = 0) ∨ (¬ (t0 = t1) ∧ T = 0 ∧ E = 8) := by
                split at hrest
                · rename_i hB
                  obtain ⟨h1, h2⟩ := Prod.mk.inj hrest
                  exact .inl ⟨by simpa [kdAll, kdMeant] using hB, by simpa [kdMeant] using h1, h2⟩
                · rename_i hB
                  obtain ⟨h1, h2⟩ := Prod.mk.inj hrest
                  exact .inr ⟨fun hc => hB (by simp [kdAll, kdMeant, hc]), h1, h2⟩
              clear hrest
              rcases key with ⟨hc, rfl, rfl⟩ | ⟨hc, rfl, rfl⟩
              · subst hc
                have q0 : (t0 != t0) = false := by simp
                go_wp2
                go_loopg [10] 2 (fun gg s10 wr => ∃ j : Nat, j ≤ 2 ∧ 2 - j ≤ gg ∧ s10 = .int .i64 j ∧ wr = w1)
                case atStart => exact ⟨0, by decide, by decide, by rfl, rfl⟩
                case round =>
                  obtain ⟨j, hj, hg, rfl, hwr⟩ := hrel
                  have hwr2 := hwr.symm
                  clear hwr
                  subst hwr2
                  have hj3 : j = 0 ∨ j = 1 ∨ j = 2 := by omega
                  rcases hj3 with rfl | rfl | rfl
                  · go_wp2
                    go_roundg (2 - 1)
                    case measure => omega
                    case rel => exact ⟨1, by decide, by omega, by go_num, rfl⟩
                  · go_wp2
                    go_roundg (2 - 2)
                    case measure => omega
                    case rel => exact ⟨2, by decide, by omega, by go_num, rfl⟩
                  · go_wp2
                    go_ret2
                    exact ⟨rfl, b1⟩
              · have q0 : (t0 != t0) = false := by simp
                have q1 : (t1 != t0) = true := by simp; intro h; exact hc h.symm
                go_wp2
                go_loopg [10] 2 (fun gg s10 wr => ∃ j : Nat, j ≤ 1 ∧ 2 - j ≤ gg ∧ s10 = .int .i64 j ∧ wr = w1)
                case atStart => exact ⟨0, by decide, by decide, by rfl, rfl⟩
                case round =>
                  obtain ⟨j, hj, hg, rfl, hwr⟩ := hrel
                  have hwr2 := hwr.symm
                  clear hwr
                  subst hwr2
                  have hj3 : j = 0 ∨ j = 1 := by omega
                  rcases hj3 with rfl | rfl
                  · go_wp2
                    go_roundg (2 - 1)
                    case measure => omega
                    case rel => exact ⟨1, by decide, by omega, by go_num, rfl⟩
                  · go_wp2
                    go_ret2
                    exact ⟨rfl, b1⟩
          · obtain rfl : kk = 2 := hkc
            match ts, hln, HT1, hrest with
            | [t0, t1], _, HT1, hrest =>
              rcases HT1.out with h | ⟨b, off, rfl, hbl, hc⟩
              · exact absurd h (by simp)
              have e0 : w1.cell? ⟨b, off, none⟩ = some (.int .i64 t0) := hc 0 (by simp)
              have e1 : w1.cell? ⟨b, off + 1, none⟩ = some (.int .i64 t1) := hc 1 (by simp)
              clear hc HT1 hln hck
              have key : ((t0 = 1 ∧ t1 = 1) ∧ T = 1 ∧ E = 0) ∨ (¬ (t0 = 1 ∧ t1 = 1) ∧ T = 0 ∧ E = 8) := by
                split at hrest
                · rename_i hB
                  obtain ⟨h1, h2⟩ := Prod.mk.inj hrest
                  exact .inl ⟨by simpa [kdAll, kdMeant] using hB, by simpa [kdMeant] using h1, h2⟩
                · rename_i hB
                  obtain ⟨h1, h2⟩ := Prod.mk.inj hrest
                  exact .inr ⟨fun hc => hB (by simp [kdAll, kdMeant, hc]), h1, h2⟩
              clear hrest
              rcases key with ⟨⟨rfl, rfl⟩, rfl, rfl⟩ | ⟨hc, rfl, rfl⟩
              · skip
                go_wp2
                go_loopg [10] 2 (fun gg s10 wr => ∃ j : Nat, j ≤ 2 ∧ 2 - j ≤ gg ∧ s10 = .int .i64 j ∧ wr = w1)
                case atStart => exact ⟨0, by decide, by decide, by rfl, rfl⟩
                case round =>
                  obtain ⟨j, hj, hg, rfl, hwr⟩ := hrel
                  have hwr2 := hwr.symm
                  clear hwr
                  subst hwr2
                  have hj3 : j = 0 ∨ j = 1 ∨ j = 2 := by omega
                  rcases hj3 with rfl | rfl | rfl
                  · go_wp2
                    go_roundg (2 - 1)
                    case measure => omega
                    case rel => exact ⟨1, by decide, by omega, by go_num, rfl⟩
                  · go_wp2
                    go_roundg (2 - 2)
                    case measure => omega
                    case rel => exact ⟨2, by decide, by omega, by go_num, rfl⟩
                  · go_wp2
                    go_ret2
                    exact ⟨rfl, b1⟩
              · by_cases h0 : t0 = 1
                · subst h0
                  have q1 : (t1 != 1) = true := by simp; intro h; exact hc ⟨rfl, h⟩
                  go_wp2
                  go_loopg [10] 2 (fun gg s10 wr => ∃ j : Nat, j ≤ 1 ∧ 2 - j ≤ gg ∧ s10 = .int .i64 j ∧ wr = w1)
                  case atStart => exact ⟨0, by decide, by decide, by rfl, rfl⟩
                  case round =>
                    obtain ⟨j, hj, hg, rfl, hwr⟩ := hrel
                    have hwr2 := hwr.symm
                    clear hwr
                    subst hwr2
                    have hj3 : j = 0 ∨ j = 1 := by omega
                    rcases hj3 with rfl | rfl
                    · go_wp2
                      go_roundg (2 - 1)
                      case measure => omega
                      case rel => exact ⟨1, by decide, by omega, by go_num, rfl⟩
                    · go_wp2
                      go_ret2
                      exact ⟨rfl, b1⟩
                · have q0 : (t0 != 1) = true := by simpa using h0
                  go_wp2
                  go_loopg [10] 2 (fun gg s10 wr => ∃ j : Nat, j ≤ 0 ∧ 2 - j ≤ gg ∧ s10 = .int .i64 j ∧ wr = w1)
                  case atStart => exact ⟨0, by decide, by decide, by rfl, rfl⟩
                  case round =>
                    obtain ⟨j, hj, hg, rfl, hwr⟩ := hrel
                    have hwr2 := hwr.symm
                    clear hwr
                    subst hwr2
                    have hj3 : j = 0 := by omega
                    obtain rfl := hj3
                    go_wp2
                    go_ret2
                    exact ⟨rfl, b1⟩
          · obtain rfl : kk = 2 := hkc
            match ts, hln, HT1, hrest with
            | [t0, t1], _, HT1, hrest =>
              rcases HT1.out with h | ⟨b, off, rfl, hbl, hc⟩
              · exact absurd h (by simp)
              have e0 : w1.cell? ⟨b, off, none⟩ = some (.int .i64 t0) := hc 0 (by simp)
              have e1 : w1.cell? ⟨b, off + 1, none⟩ = some (.int .i64 t1) := hc 1 (by simp)
              clear hc HT1 hln hck
              have key : ((t0 = 1 ∧ t1 = 1) ∧ T = 1 ∧ E = 0) ∨ (¬ (t0 = 1 ∧ t1 = 1) ∧ T = 0 ∧ E = 8) := by
                split at hrest
                · rename_i hB
                  obtain ⟨h1, h2⟩ := Prod.mk.inj hrest
                  exact .inl ⟨by simpa [kdAll, kdMeant] using hB, by simpa [kdMeant] using h1, h2⟩
                · rename_i hB
                  obtain ⟨h1, h2⟩ := Prod.mk.inj hrest
                  exact .inr ⟨fun hc => hB (by simp [kdAll, kdMeant, hc]), h1, h2⟩
              clear hrest
              rcases key with ⟨⟨rfl, rfl⟩, rfl, rfl⟩ | ⟨hc, rfl, rfl⟩
              · skip
                go_wp2
                go_loopg [10] 2 (fun gg s10 wr => ∃ j : Nat, j ≤ 2 ∧ 2 - j ≤ gg ∧ s10 = .int .i64 j ∧ wr = w1)
                case atStart => exact ⟨0, by decide, by decide, by rfl, rfl⟩
                case round =>
                  obtain ⟨j, hj, hg, rfl, hwr⟩ := hrel
                  have hwr2 := hwr.symm
                  clear hwr
                  subst hwr2
                  have hj3 : j = 0 ∨ j = 1 ∨ j = 2 := by omega
                  rcases hj3 with rfl | rfl | rfl
                  · go_wp2
                    go_roundg (2 - 1)
                    case measure => omega
                    case rel => exact ⟨1, by decide, by omega, by go_num, rfl⟩
                  · go_wp2
                    go_roundg (2 - 2)
                    case measure => omega
                    case rel => exact ⟨2, by decide, by omega, by go_num, rfl⟩
                  · go_wp2
                    go_ret2
                    exact ⟨rfl, b1⟩
              · by_cases h0 : t0 = 1
                · subst h0
                  have q1 : (t1 != 1) = true := by simp; intro h; exact hc ⟨rfl, h⟩
                  go_wp2
                  go_loopg [10] 2 (fun gg s10 wr => ∃ j : Nat, j ≤ 1 ∧ 2 - j ≤ gg ∧ s10 = .int .i64 j ∧ wr = w1)
                  case atStart => exact ⟨0, by decide, by decide, by rfl, rfl⟩
                  case round =>
                    obtain ⟨j, hj, hg, rfl, hwr⟩ := hrel
                    have hwr2 := hwr.symm
                    clear hwr
                    subst hwr2
                    have hj3 : j = 0 ∨ j = 1 := by omega
                    rcases hj3 with rfl | rfl
                    · go_wp2
                      go_roundg (2 - 1)
                      case measure => omega
                      case rel => exact ⟨1, by decide, by omega, by go_num, rfl⟩
                    · go_wp2
                      go_ret2
                      exact ⟨rfl, b1⟩
                · have q0 : (t0 != 1) = true := by simpa using h0
                  go_wp2
                  go_loopg [10] 2 (fun gg s10 wr => ∃ j : Nat, j ≤ 0 ∧ 2 - j ≤ gg ∧ s10 = .int .i64 j ∧ wr = w1)
                  case atStart => exact ⟨0, by decide, by decide, by rfl, rfl⟩
                  case round =>
                    obtain ⟨j, hj, hg, rfl, hwr⟩ := hrel
                    have hwr2 := hwr.symm
                    clear hwr
                    subst hwr2
                    have hj3 : j = 0 := by omega
                    obtain rfl := hj3
                    go_wp2
                    go_ret2
                    exact ⟨rfl, b1⟩
          · obtain rfl : kk = 2 := hkc
            match ts, hln, HT1, hrest with
            | [t0, t1], _, HT1, hrest =>
              rcases HT1.out with h | ⟨b, off, rfl, hbl, hc⟩
              · exact absurd h (by simp)
              have e0 : w1.cell? ⟨b, off, none⟩ = some (.int .i64 t0) := hc 0 (by simp)
              have e1 : w1.cell? ⟨b, off + 1, none⟩ = some (.int .i64 t1) := hc 1 (by simp)
              clear hc HT1 hln hck
              have key : ((t0 = 1 ∧ t1 = 1) ∧ T = 1 ∧ E = 0) ∨ (¬ (t0 = 1 ∧ t1 = 1) ∧ T = 0 ∧ E = 8) := by
                split at hrest
                · rename_i hB
                  obtain ⟨h1, h2⟩ := Prod.mk.inj hrest
                  exact .inl ⟨by simpa [kdAll, kdMeant] using hB, by simpa [kdMeant] using h1, h2⟩
                · rename_i hB
                  obtain ⟨h1, h2⟩ := Prod.mk.inj hrest
                  exact .inr ⟨fun hc => hB (by simp [kdAll, kdMeant, hc]), h1, h2⟩
              clear hrest
              rcases key with ⟨⟨rfl, rfl⟩, rfl, rfl⟩ | ⟨hc, rfl, rfl⟩
              · skip
                go_wp2
                go_loopg [10] 2 (fun gg s10 wr => ∃ j : Nat, j ≤ 2 ∧ 2 - j ≤ gg ∧ s10 = .int .i64 j ∧ wr = w1)
                case atStart => exact ⟨0, by decide, by decide, by rfl, rfl⟩
                case round =>
                  obtain ⟨j, hj, hg, rfl, hwr⟩ := hrel
                  have hwr2 := hwr.symm
                  clear hwr
                  subst hwr2
                  have hj3 : j = 0 ∨ j = 1 ∨ j = 2 := by omega
                  rcases hj3 with rfl | rfl | rfl
                  · go_wp2
                    go_roundg (2 - 1)
                    case measure => omega
                    case rel => exact ⟨1, by decide, by omega, by go_num, rfl⟩
                  · go_wp2
                    go_roundg (2 - 2)
                    case measure => omega
                    case rel => exact ⟨2, by decide, by omega, by go_num, rfl⟩
                  · go_wp2
                    go_ret2
                    exact ⟨rfl, b1⟩
              · by_cases h0 : t0 = 1
                · subst h0
                  have q1 : (t1 != 1) = true := by simp; intro h; exact hc ⟨rfl, h⟩
                  go_wp2
                  go_loopg [10] 2 (fun gg s10 wr => ∃ j : Nat, j ≤ 1 ∧ 2 - j ≤ gg ∧ s10 = .int .i64 j ∧ wr = w1)
                  case atStart => exact ⟨0, by decide, by decide, by rfl, rfl⟩
                  case round =>
                    obtain ⟨j, hj, hg, rfl, hwr⟩ := hrel
                    have hwr2 := hwr.symm
                    clear hwr
                    subst hwr2
                    have hj3 : j = 0 ∨ j = 1 := by omega
                    rcases hj3 with rfl | rfl
                    · go_wp2
                      go_roundg (2 - 1)
                      case measure => omega
                      case rel => exact ⟨1, by decide, by omega, by go_num, rfl⟩
                    · go_wp2
                      go_ret2
                      exact ⟨rfl, b1⟩
                · have q0 : (t0 != 1) = true := by simpa using h0
                  go_wp2
                  go_loopg [10] 2 (fun gg s10 wr => ∃ j : Nat, j ≤ 0 ∧ 2 - j ≤ gg ∧ s10 = .int .i64 j ∧ wr = w1)
                  case atStart => exact ⟨0, by decide, by decide, by rfl, rfl⟩
                  case round =>
                    obtain ⟨j, hj, hg, rfl, hwr⟩ := hrel
                    have hwr2 := hwr.symm
                    clear hwr
                    subst hwr2
                    have hj3 : j = 0 := by omega
                    obtain rfl := hj3
                    go_wp2
                    go_ret2
                    exact ⟨rfl, b1⟩
          · obtain rfl : kk = 2 := hkc
            match ts, hln, HT1, hrest with
            | [t0, t1], _, HT1, hrest =>
              rcases HT1.out with h | ⟨b, off, rfl, hbl, hc⟩
              · exact absurd h (by simp)
              have e0 : w1.cell? ⟨b, off, none⟩ = some (.int .i64 t0) := hc 0 (by simp)
              have e1 : w1.cell? ⟨b, off + 1, none⟩ = some (.int .i64 t1) := hc 1 (by simp)
              clear hc HT1 hln hck
              have key : ((t0 = 1 ∧ t1 = 1) ∧ T = 1 ∧ E = 0) ∨ (¬ (t0 = 1 ∧ t1 = 1) ∧ T = 0 ∧ E = 8) := by
                split at hrest
                · rename_i hB
                  obtain ⟨h1, h2⟩ := Prod.mk.inj hrest
                  exact .inl ⟨by simpa [kdAll, kdMeant] using hB, by simpa [kdMeant] using h1, h2⟩
                · rename_i hB
                  obtain ⟨h1, h2⟩ := Prod.mk.inj hrest
                  exact .inr ⟨fun hc => hB (by simp [kdAll, kdMeant, hc]), h1, h2⟩
              clear hrest
              rcases key with ⟨⟨rfl, rfl⟩, rfl, rfl⟩ | ⟨hc, rfl, rfl⟩
              · skip
                go_wp2
                go_loopg [10] 2 (fun gg s10 wr => ∃ j : Nat, j ≤ 2 ∧ 2 - j ≤ gg ∧ s10 = .int .i64 j ∧ wr = w1)
                case atStart => exact ⟨0, by decide, by decide, by rfl, rfl⟩
                case round =>
                  obtain ⟨j, hj, hg, rfl, hwr⟩ := hrel
                  have hwr2 := hwr.symm
                  clear hwr
                  subst hwr2
                  have hj3 : j = 0 ∨ j = 1 ∨ j = 2 := by omega
                  rcases hj3 with rfl | rfl | rfl
                  · go_wp2
                    go_roundg (2 - 1)
                    case measure => omega
                    case rel => exact ⟨1, by decide, by omega, by go_num, rfl⟩
                  · go_wp2
                    go_roundg (2 - 2)
                    case measure => omega
                    case rel => exact ⟨2, by decide, by omega, by go_num, rfl⟩
                  · go_wp2
                    go_ret2
                    exact ⟨rfl, b1⟩
              · by_cases h0 : t0 = 1
                · subst h0
                  have q1 : (t1 != 1) = true := by simp; intro h; exact hc ⟨rfl, h⟩
                  go_wp2
                  go_loopg [10] 2 (fun gg s10 wr => ∃ j : Nat, j ≤ 1 ∧ 2 - j ≤ gg ∧ s10 = .int .i64 j ∧ wr = w1)
                  case atStart => exact ⟨0, by decide, by decide, by rfl, rfl⟩
                  case round =>
                    obtain ⟨j, hj, hg, rfl, hwr⟩ := hrel
                    have hwr2 := hwr.symm
                    clear hwr
                    subst hwr2
                    have hj3 : j = 0 ∨ j = 1 := by omega
                    rcases hj3 with rfl | rfl
                    · go_wp2
                      go_roundg (2 - 1)
                      case measure => omega
                      case rel => exact ⟨1, by decide, by omega, by go_num, rfl⟩
                    · go_wp2
                      go_ret2
                      exact ⟨rfl, b1⟩
                · have q0 : (t0 != 1) = true := by simpa using h0
                  go_wp2
                  go_loopg [10] 2 (fun gg s10 wr => ∃ j : Nat, j ≤ 0 ∧ 2 - j ≤ gg ∧ s10 = .int .i64 j ∧ wr = w1)
                  case atStart => exact ⟨0, by decide, by decide, by rfl, rfl⟩
                  case round =>
                    obtain ⟨j, hj, hg, rfl, hwr⟩ := hrel
                    have hwr2 := hwr.symm
                    clear hwr
                    subst hwr2
                    have hj3 : j = 0 := by omega
                    obtain rfl := hj3
                    go_wp2
                    go_ret2
                    exact ⟨rfl, b1⟩
          · obtain rfl : kk = 2 := hkc
            match ts, hln, HT1, hrest with
            | [t0, t1], _, HT1, hrest =>
              rcases HT1.out with h | ⟨b, off, rfl, hbl, hc⟩
              · exact absurd h (by simp)
              have e0 : w1.cell? ⟨b, off, none⟩ = some (.int .i64 t0) := hc 0 (by simp)
              have e1 : w1.cell? ⟨b, off + 1, none⟩ = some (.int .i64 t1) := hc 1 (by simp)
              clear hc HT1 hln hck
              have key : ((t0 = 1 ∧ t1 = 1) ∧ T = 1 ∧ E = 0) ∨ (¬ (t0 = 1 ∧ t1 = 1) ∧ T = 0 ∧ E = 8) := by
                split at hrest
                · rename_i hB
                  obtain ⟨h1, h2⟩ := Prod.mk.inj hrest
                  exact .inl ⟨by simpa [kdAll, kdMeant] using hB, by simpa [kdMeant] using h1, h2⟩
                · rename_i hB
                  obtain ⟨h1, h2⟩ := Prod.mk.inj hrest
                  exact .inr ⟨fun hc => hB (by simp [kdAll, kdMeant, hc]), h1, h2⟩
              clear hrest
              rcases key with ⟨⟨rfl, rfl⟩, rfl, rfl⟩ | ⟨hc, rfl, rfl⟩
              · skip
                go_wp2
                go_loopg [10] 2 (fun gg s10 wr => ∃ j : Nat, j ≤ 2 ∧ 2 - j ≤ gg ∧ s10 = .int .i64 j ∧ wr = w1)
                case atStart => exact ⟨0, by decide, by decide, by rfl, rfl⟩
                case round =>
                  obtain ⟨j, hj, hg, rfl, hwr⟩ := hrel
                  have hwr2 := hwr.symm
                  clear hwr
                  subst hwr2
                  have hj3 : j = 0 ∨ j = 1 ∨ j = 2 := by omega
                  rcases hj3 with rfl | rfl | rfl
                  · go_wp2
                    go_roundg (2 - 1)
                    case measure => omega
                    case rel => exact ⟨1, by decide, by omega, by go_num, rfl⟩
                  · go_wp2
                    go_roundg (2 - 2)
                    case measure => omega
                    case rel => exact ⟨2, by decide, by omega, by go_num, rfl⟩
                  · go_wp2
                    go_ret2
                    exact ⟨rfl, b1⟩
              · by_cases h0 : t0 = 1
                · subst h0
                  have q1 : (t1 != 1) = true := by simp; intro h; exact hc ⟨rfl, h⟩
                  go_wp2
                  go_loopg [10] 2 (fun gg s10 wr => ∃ j : Nat, j ≤ 1 ∧ 2 - j ≤ gg ∧ s10 = .int .i64 j ∧ wr = w1)
                  case atStart => exact ⟨0, by decide, by decide, by rfl, rfl⟩
                  case round =>
                    obtain ⟨j, hj, hg, rfl, hwr⟩ := hrel
                    have hwr2 := hwr.symm
                    clear hwr
                    subst hwr2
                    have hj3 : j = 0 ∨ j = 1 := by omega
                    rcases hj3 with rfl | rfl
                    · go_wp2
                      go_roundg (2 - 1)
                      case measure => omega
                      case rel => exact ⟨1, by decide, by omega, by go_num, rfl⟩
                    · go_wp2
                      go_ret2
                      exact ⟨rfl, b1⟩
                · have q0 : (t0 != 1) = true := by simpa using h0
                  go_wp2
                  go_loopg [10] 2 (fun gg s10 wr => ∃ j : Nat, j ≤ 0 ∧ 2 - j ≤ gg ∧ s10 = .int .i64 j ∧ wr = w1)
                  case atStart => exact ⟨0, by decide, by decide, by rfl, rfl⟩
                  case round =>
                    obtain ⟨j, hj, hg, rfl, hwr⟩ := hrel
                    have hwr2 := hwr.symm
                    clear hwr
                    subst hwr2
                    have hj3 : j = 0 := by omega
                    obtain rfl := hj3
                    go_wp2
                    go_ret2
                    exact ⟨rfl, b1⟩
          · obtain rfl : kk = 1 := hkc
            match ts, hln, HT1, hrest with
            | [t0], _, HT1, hrest =>
              rcases HT1.out with h | ⟨b, off, rfl, hbl, hc⟩
              · exact absurd h (by simp)
              have e0 : w1.cell? ⟨b, off, none⟩ = some (.int .i64 t0) := hc 0 (by simp)
              clear hc HT1 hln hck
              have key : ((t0 = 1) ∧ T = 1 ∧ E = 0) ∨ (¬ (t0 = 1) ∧ T = 0 ∧ E = 8) := by
                split at hrest
                · rename_i hB
                  obtain ⟨h1, h2⟩ := Prod.mk.inj hrest
                  exact .inl ⟨by simpa [kdAll, kdMeant] using hB, by simpa [kdMeant] using h1, h2⟩
                · rename_i hB
                  obtain ⟨h1, h2⟩ := Prod.mk.inj hrest
                  exact .inr ⟨fun hc => hB (by simp [kdAll, kdMeant, hc]), h1, h2⟩
              clear hrest
              rcases key with ⟨rfl, rfl, rfl⟩ | ⟨hc, rfl, rfl⟩
              · skip
                go_wp2
                go_loopg [10] 1 (fun gg s10 wr => ∃ j : Nat, j ≤ 1 ∧ 1 - j ≤ gg ∧ s10 = .int .i64 j ∧ wr = w1)
                case atStart => exact ⟨0, by decide, by decide, by rfl, rfl⟩
                case round =>
                  obtain ⟨j, hj, hg, rfl, hwr⟩ := hrel
                  have hwr2 := hwr.symm
                  clear hwr
                  subst hwr2
                  have hj3 : j = 0 ∨ j = 1 := by omega
                  rcases hj3 with rfl | rfl
                  · go_wp2
                    go_roundg (1 - 1)
                    case measure => omega
                    case rel => exact ⟨1, by decide, by omega, by go_num, rfl⟩
                  · go_wp2
                    go_ret2
                    exact ⟨rfl, b1⟩
              · have q0 : (t0 != 1) = true := by simpa using hc
                go_wp2
                go_loopg [10] 1 (fun gg s10 wr => ∃ j : Nat, j ≤ 0 ∧ 1 - j ≤ gg ∧ s10 = .int .i64 j ∧ wr = w1)
                case atStart => exact ⟨0, by decide, by decide, by rfl, rfl⟩
                case round =>
                  obtain ⟨j, hj, hg, rfl, hwr⟩ := hrel
                  have hwr2 := hwr.symm
                  clear hwr
                  subst hwr2
                  have hj3 : j = 0 := by omega
                  obtain rfl := hj3
                  go_wp2
                  go_ret2
                  exact ⟨rfl, b1⟩
          · obtain rfl : kk = 1 := hkc
            match ts, hln, HT1, hrest with
            | [t0], _, HT1, hrest =>
              rcases HT1.out with h | ⟨b, off, rfl, hbl, hc⟩
              · exact absurd h (by simp)
              have e0 : w1.cell? ⟨b, off, none⟩ = some (.int .i64 t0) := hc 0 (by simp)
              clear hc HT1 hln hck
              have key : ((t0 = 3) ∧ T = 1 ∧ E = 0) ∨ (¬ (t0 = 3) ∧ T = 0 ∧ E = 8) := by
                split at hrest
                · rename_i hB
                  obtain ⟨h1, h2⟩ := Prod.mk.inj hrest
                  exact .inl ⟨by simpa [kdAll, kdMeant] using hB, by simpa [kdMeant] using h1, h2⟩
                · rename_i hB
                  obtain ⟨h1, h2⟩ := Prod.mk.inj hrest
                  exact .inr ⟨fun hc => hB (by simp [kdAll, kdMeant, hc]), h1, h2⟩
              clear hrest
              rcases key with ⟨rfl, rfl, rfl⟩ | ⟨hc, rfl, rfl⟩
              · skip
                go_wp2
                go_loopg [10] 1 (fun gg s10 wr => ∃ j : Nat, j ≤ 1 ∧ 1 - j ≤ gg ∧ s10 = .int .i64 j ∧ wr = w1)
                case atStart => exact ⟨0, by decide, by decide, by rfl, rfl⟩
                case round =>
                  obtain ⟨j, hj, hg, rfl, hwr⟩ := hrel
                  have hwr2 := hwr.symm
                  clear hwr
                  subst hwr2
                  have hj3 : j = 0 ∨ j = 1 := by omega
                  rcases hj3 with rfl | rfl
                  · go_wp2
                    go_roundg (1 - 1)
                    case measure => omega
                    case rel => exact ⟨1, by decide, by omega, by go_num, rfl⟩
                  · go_wp2
                    go_ret2
                    exact ⟨rfl, b1⟩
              · have q0 : (t0 != 3) = true := by simpa using hc
                go_wp2
                go_loopg [10] 1 (fun gg s10 wr => ∃ j : Nat, j ≤ 0 ∧ 1 - j ≤ gg ∧ s10 = .int .i64 j ∧ wr = w1)
                case atStart => exact ⟨0, by decide, by decide, by rfl, rfl⟩
                case round =>
                  obtain ⟨j, hj, hg, rfl, hwr⟩ := hrel
                  have hwr2 := hwr.symm
                  clear hwr
                  subst hwr2
                  have hj3 : j = 0 := by omega
                  obtain rfl := hj3
                  go_wp2
                  go_ret2
                  exact ⟨rfl, b1⟩
          · obtain rfl : kk = 3 := hkc
            match ts, hln, HT1, hrest with
            | [t0, t1, t2], _, HT1, hrest =>
              rcases HT1.out with h | ⟨b, off, rfl, hbl, hc⟩
              · exact absurd h (by simp)
              have e0 : w1.cell? ⟨b, off, none⟩ = some (.int .i64 t0) := hc 0 (by simp)
              have e1 : w1.cell? ⟨b, off + 1, none⟩ = some (.int .i64 t1) := hc 1 (by simp)
              have e2 : w1.cell? ⟨b, off + 2, none⟩ = some (.int .i64 t2) := hc 2 (by simp)
              clear hc HT1 hln hck
              have key : ((t0 = 2 ∧ t1 = t2) ∧ T = t2 ∧ E = 0) ∨ (¬ (t0 = 2 ∧ t1 = t2) ∧ T = 0 ∧ E = 8) := by
                split at hrest
                · rename_i hB
                  obtain ⟨h1, h2⟩ := Prod.mk.inj hrest
                  exact .inl ⟨by simpa [kdAll, kdMeant] using hB, by simpa [kdMeant] using h1, h2⟩
                · rename_i hB
                  obtain ⟨h1, h2⟩ := Prod.mk.inj hrest
                  exact .inr ⟨fun hc => hB (by simp [kdAll, kdMeant, hc]), h1, h2⟩
              clear hrest
              rcases key with ⟨⟨rfl, h12⟩, hT, rfl⟩ | ⟨hc, rfl, rfl⟩
              · have hT1 : T = t1 := hT.trans h12.symm
                subst hT1
                have q1 : (T != t2) = false := by simp [h12]
                go_wp2
                go_quiet (fail)
                go_wp2
                go_ret2
                exact ⟨by rw [h12]; rfl, by repeat (first | exact b1 | apply below_drewN | refine Below.drew ?_)⟩
              · by_cases h0 : t0 = 2
                · subst h0
                  have q1 : (t1 != t2) = true := by simp; intro h; exact hc ⟨rfl, h⟩
                  go_wp2
                  go_quiet (fail)
                  go_wp2
                  go_ret2
                  exact ⟨rfl, by repeat (first | exact b1 | apply below_drewN | refine Below.drew ?_)⟩
                · have q0 : (t0 != 2) = true := by simpa using h0
                  go_wp2
                  go_quiet (fail)
                  go_wp2
                  go_ret2
                  exact ⟨rfl, by repeat (first | exact b1 | apply below_drewN | refine Below.drew ?_)⟩
        · have hlb : ((kk : Int) != A) = true := by simpa using hlen
          have hf := HR.out
          rw [ruleP_len HF.out hall (by rw [HN.out]; have := HC.out; omega)] at hf
          obtain ⟨rfl, rfl⟩ := Prod.mk.inj hf
          clear hf hall HR HA
          go_wp2
          go_ret2
          exact ⟨rfl, b1⟩
end Go.Proofs.YtfhlhdddhgkinaaGreatDoor
namespace Go.Proofs.YtfhlhdddhgkinaaGreatDoor
open Go.RowKit
set_option linter.unusedVariables false

theorem refFind_none (q : Option Addr) (c : Nat) (nm : ByteArray) (w : World) :
    Calls Tryz.prog 59 #[.slice q 0 c, .string nm] w fun e w' => e = .returned (.int .i64 (-1)) ∧ w' = w := by
  go_enter Tryz.func59, Tryz.ntmps59
  go_wp2
  refine wp_loop_rounds 1 ?_
  rw [rounds_succ]
  go_wp2
  go_ret
  exact ⟨rfl, rfl⟩
set_option maxHeartbeats 2000000 in
theorem refFind_any (b off c : Nat) (zs : List (ByteArray × Int)) (nm : ByteArray) (w : World) (hn : zs.length ≤ 9223372036854775807) (hc : ColsIn w b off zs) :
    Calls Tryz.prog 59 #[.slice (some ⟨b, off, none⟩) zs.length c, .string nm] w fun e w' => e = .returned (.int .i64 (findN nm.data.toList zs)) ∧ w' = w := by
  go_enter Tryz.func59, Tryz.ntmps59
  go_wp2
  go_loopg [5] zs.length (fun gg s5 wr => ∃ kk : Nat, kk ≤ zs.length ∧ zs.length - kk ≤ gg ∧ s5 = .int .i64 kk ∧ wr = w ∧ Aside (∀ j (hj : j < zs.length), j < kk → zs[j].1.data.toList ≠ nm.data.toList))
  case atStart => exact ⟨0, Nat.zero_le _, by omega, rfl, rfl, fun j _ hj => absurd hj (Nat.not_lt_zero _)⟩
  case round =>
    obtain ⟨kk, hkk, hg, rfl, rfl, A⟩ := hrel
    by_cases hlt : kk < zs.length
    · have hltz : (kk : Int) < (zs.length : Int) := by omega
      have k0 : (0 : Int) ≤ (kk : Int) := by omega
      obtain ⟨c0, c1⟩ := hc.2 kk hlt
      generalize hy : zs[kk] = y at c0 c1
      obtain ⟨yn, yt⟩ := y
      have HY : Hid (zs[kk] = (yn, yt)) := hy
      simp only at c0 c1
      clear hy
      by_cases he : yn.data.toList = nm.data.toList
      · have hq : (yn.toList == nm.toList) = true := by rw [Lib.toList_data, Lib.toList_data]; simpa using he
        have HE : Hid (yn.data.toList = nm.data.toList) := he
        clear he
        go_wp2
        go_ret
        refine ⟨?_, rfl⟩
        rw [findN_hit hlt (by rw [HY.out]; exact HE.out) (fun j hj => A.out j (by omega) hj)]
        rfl
      · have hq : (yn.toList == nm.toList) = false := by rw [Lib.toList_data, Lib.toList_data]; simpa using he
        have HE : Hid (yn.data.toList ≠ nm.data.toList) := he
        clear he
        go_wp2
        go_roundg (zs.length - (kk + 1))
        case measure => omega
        case rel =>
          refine ⟨kk + 1, by omega, by omega, by go_num, rfl, (show Aside _ from fun j hj hjk => ?_)⟩
          by_cases e : j = kk
          · subst e
            rw [HY.out]; exact HE.out
          · exact A.out j hj (by omega)
    · have hltz : ¬ (kk : Int) < (zs.length : Int) := by omega
      go_wp2
      go_ret
      refine ⟨?_, rfl⟩
      rw [findN_miss (fun j hj => A.out j hj (by omega))]
      rfl
theorem let_of (s : ByteArray) (k : Nat) (h : k < s.size) : (letN s[k] = true ↔ 97 ≤ (s[k].toNat : Int) ∧ (s[k].toNat : Int) ≤ 122) := by
  simp [letN]; omega
set_option maxHeartbeats 2000000 in
theorem letters_any (s : ByteArray) (w : World) (hs : s.size ≤ maxLen) :
    Calls Tryz.prog 58 #[.string s] w fun e w' => e = .returned (.bool (nameB s.data.toList)) ∧ w' = w := by
  have hd : s.data.toList.length = s.size := by simp
  unfold maxLen at hs
  by_cases h1 : s.data.toList = []
  · have hs0 : s = ⟨#[]⟩ := by cases s; simp_all
    subst hs0
    rw [show nameB (⟨#[]⟩ : ByteArray).data.toList = false from rfl]
    go_enter Tryz.func58, Tryz.ntmps58
    go_wp2
    go_ret
    exact ⟨rfl, rfl⟩
  · have hem : s.toList.isEmpty = false := by
      rw [Lib.toList_data]
      cases h : s.data.toList with
      | nil => exact absurd h h1
      | cons a l => rfl
    have hpos : 1 ≤ s.size := by
      rw [← hd]
      cases h : s.data.toList with
      | nil => exact absurd h h1
      | cons a l => simp
    clear h1
    by_cases h8 : s.size ≤ 8
    · have hnm : nameB s.data.toList = s.data.toList.all letN := by rw [nameB, hd, decide_eq_true hpos, decide_eq_true h8]; simp
      have z8 : ¬ (8 : Int) < (s.size : Int) := by omega
      obtain ⟨E, hE⟩ : ∃ E, nameB s.data.toList = E := ⟨_, rfl⟩
      have HE : Hid (E = s.data.toList.all letN) := hE.symm.trans hnm
      rw [hE]
      clear hE hnm
      go_enter Tryz.func58, Tryz.ntmps58
      go_wp2
      go_loopg [3] s.size (fun gg s3 wr => ∃ kk : Nat, kk ≤ s.size ∧ s.size - kk ≤ gg ∧ s3 = .int .i64 kk ∧ wr = w ∧ Hid ((s.data.toList.take kk).all letN = true))
      case atStart => exact ⟨0, Nat.zero_le _, by omega, rfl, rfl, (show Hid _ by simp [Hid])⟩
      case round =>
        obtain ⟨kk, hkk, hg, rfl, rfl, HP⟩ := hrel
        by_cases hlt : kk < s.size
        · have hltz : (kk : Int) < (s.size : Int) := by omega
          have HN : Hid (letN s[kk] = false → E = false) := fun h => HE.out.trans (let_not s kk hlt h)
          have HT : Hid ((s.data.toList.take (kk + 1)).all letN = ((s.data.toList.take kk).all letN && letN s[kk])) := let_take s kk hlt
          have HL : Hid (letN s[kk] = true ↔ 97 ≤ (s[kk].toNat : Int) ∧ (s[kk].toNat : Int) ≤ 122) := let_of s kk hlt
          by_cases hlo : (s[kk].toNat : Int) < 97
          · have hf : E = false := HN.out (by
              cases hq : letN s[kk] with
              | false => rfl
              | true => have := HL.out.1 hq; omega)
            subst hf
            clear HN HT HL HE HP
            go_wp2
            go_ret
            exact ⟨rfl, rfl⟩
          · by_cases hhi : 122 < (s[kk].toNat : Int)
            · have hf : E = false := HN.out (by
                cases hq : letN s[kk] with
                | false => rfl
                | true => have := HL.out.1 hq; omega)
              subst hf
              clear HN HT HL HE HP
              go_wp2
              go_ret
              exact ⟨rfl, rfl⟩
            · have HP2 : Hid ((s.data.toList.take (kk + 1)).all letN = true) := by
                show _ = _
                rw [HT.out, HP.out, HL.out.2 ⟨by omega, by omega⟩]; rfl
              clear HN HT HL HP
              go_wp2
              go_roundg (s.size - (kk + 1))
              case measure => omega
              case rel => exact ⟨kk + 1, by omega, by omega, by go_num, rfl, HP2⟩
        · have hltz : ¬ (kk : Int) < (s.size : Int) := by omega
          have hf : E = true := by
            rw [HE.out]
            have := HP.out
            rwa [List.take_of_length_le (by rw [hd]; omega)] at this
          subst hf
          clear HE HP
          go_wp2
          go_ret
          exact ⟨rfl, rfl⟩
    · have hnm : nameB s.data.toList = false := by rw [nameB, hd, decide_eq_false h8]; simp
      rw [hnm]
      have z8 : (8 : Int) < (s.size : Int) := by omega
      go_enter Tryz.func58, Tryz.ntmps58
      go_wp2
      go_ret
      exact ⟨rfl, rfl⟩
/-- A name is found where it is just if none of that name is ahead. -/
theorem find_self (zs : List (ByteArray × Int)) (k : Nat) (h : k < zs.length) : findN zs[k].1.data.toList zs = k ↔ ¬ 0 ≤ findN zs[k].1.data.toList (zs.take k) := by
  have hl : (zs.take k).length = k := by rw [List.length_take]; omega
  constructor
  · intro e h0
    rcases findN_cases zs[k].1.data.toList (zs.take k) with ⟨e1, _⟩ | ⟨j, e1, hj, he, _⟩
    · rw [e1] at h0; omega
    · rcases findN_cases zs[k].1.data.toList zs with ⟨e2, _⟩ | ⟨i, e2, hi, _, hn⟩
      · rw [e2] at e; omega
      · have hik : i = k := by rw [e2] at e; omega
        subst hik
        have := hn j (by rw [hl] at hj; exact hj)
        rw [List.getElem_take] at he
        exact this he
  · intro h0
    refine findN_hit h rfl fun j hj he => ?_
    rcases findN_cases zs[k].1.data.toList (zs.take k) with ⟨_, hn⟩ | ⟨i, e1, _⟩
    · have := hn j (by rw [hl]; exact hj)
      rw [List.getElem_take] at this
      exact this he
    · rw [e1] at h0; omega
theorem refSchema_none (q : Option Addr) (c : Nat) (w : World) :
    Calls Tryz.prog 26 #[.slice q 0 c] w fun e w' => e = .returned (.int .i64 5) ∧ w' = w := by
  go_enter Tryz.func26, Tryz.ntmps26
  go_wp2
  go_ret
  exact ⟨rfl, rfl⟩
theorem refSchema_full (q : Option Addr) (n c : Nat) (w : World) (hn : 6 < n) :
    Calls Tryz.prog 26 #[.slice q n c] w fun e w' => e = .returned (.int .i64 4) ∧ w' = w := by
  have h0 : ((n : Int) == 0) = false := by rw [beq_eq_false_iff_ne]; omega
  have h6 : (6 : Int) < (n : Int) := by omega
  go_enter Tryz.func26, Tryz.ntmps26
  go_wp2
  go_ret
  exact ⟨rfl, rfl⟩
set_option maxHeartbeats 4000000 in
theorem refSchema_some (b off c : Nat) (zs : List (ByteArray × Int)) (w : World) (h1 : zs.length ≠ 0) (h6 : ¬ 6 < zs.length) (hl : ∀ z ∈ zs, z.1.size ≤ maxLen) (hc : ColsIn w b off zs) :
    Calls Tryz.prog 26 #[.slice (some ⟨b, off, none⟩) zs.length c] w fun e w' => e = .returned (.int .i64 (schGo [] zs)) ∧ w' = w := by
  have z0 : ((zs.length : Int) == 0) = false := by rw [beq_eq_false_iff_ne]; omega
  have z6 : ¬ (6 : Int) < (zs.length : Int) := by omega
  obtain ⟨E, hE⟩ : ∃ E, schGo [] zs = E := ⟨_, rfl⟩
  rw [hE]
  go_enter Tryz.func26, Tryz.ntmps26
  go_wp2
  go_loopg [3, 4] zs.length (fun gg s3 _ wr => ∃ kk : Nat, kk ≤ zs.length ∧ zs.length - kk ≤ gg ∧ s3 = .int .i64 kk ∧ wr = w ∧ Hid (E = schGo (zs.take kk) (zs.drop kk)))
  case atStart => exact ⟨0, Nat.zero_le _, by omega, rfl, rfl, (show Hid _ by simp [Hid, hE])⟩
  case round =>
    obtain ⟨kk, hkk, hg, rfl, rfl, HS⟩ := hrel
    by_cases hlt : kk < zs.length
    · have hltz : (kk : Int) < (zs.length : Int) := by omega
      have k0 : (0 : Int) ≤ (kk : Int) := by omega
      obtain ⟨c0, c1⟩ := hc.2 kk hlt
      have HS2 : Hid (E = if colE (zs.take kk) zs[kk].1.data.toList zs[kk].2 ≠ 0 then colE (zs.take kk) zs[kk].1.data.toList zs[kk].2 else schGo (zs.take (kk + 1)) (zs.drop (kk + 1))) := HS.out.trans (schGo_at hlt)
      have hsz := hl _ (List.getElem_mem hlt)
      have HF : Hid (findN zs[kk].1.data.toList zs = kk ↔ ¬ 0 ≤ findN zs[kk].1.data.toList (zs.take kk)) := find_self zs kk hlt
      generalize hy : zs[kk] = y at c0 c1 HS2 hsz HF
      obtain ⟨yn, yt⟩ := y
      simp only at c0 c1 HS2 hsz HF
      have hcE : colE (zs.take kk) yn.data.toList yt = if nameB yn.data.toList = false then 2 else if ¬ (1 ≤ yt ∧ yt ≤ 3) then 1 else if 0 ≤ findN yn.data.toList (zs.take kk) then 7 else 0 := rfl
      have cL := letters_any yn wr hsz
      have cF := refFind_any b off c zs yn wr (by omega) hc
      obtain ⟨N, hN⟩ : ∃ N, nameB yn.data.toList = N := ⟨_, rfl⟩
      rw [hN] at cL hcE
      obtain ⟨fi, hfi⟩ : ∃ fi, findN yn.data.toList zs = fi := ⟨_, rfl⟩
      rw [hfi] at cF HF
      have HC : Hid (colE (zs.take kk) yn.data.toList yt = if N = false then 2 else if ¬ (1 ≤ yt ∧ yt ≤ 3) then 1 else if 0 ≤ findN yn.data.toList (zs.take kk) then 7 else 0) := hcE
      clear HS hy hN hfi hcE hl hc
      go_wp2_with fail
      refine cL.mono ?_
      rintro e w' ⟨rfl, rfl⟩
      cases N
      · have hf : E = 2 := by rw [HS2.out, HC.out]; simp
        subst hf
        clear HS2 HC HF
        go_wp2
        go_ret
        exact ⟨rfl, rfl⟩
      · by_cases t1 : yt < 1
        · have hf : E = 1 := by
            have hcv : colE (zs.take kk) yn.data.toList yt = 1 := by rw [HC.out, if_neg (by decide), if_pos (by omega)]
            rw [HS2.out, hcv]; simp
          subst hf
          clear HS2 HC HF
          go_wp2
          go_ret
          exact ⟨rfl, rfl⟩
        · by_cases t3 : 3 < yt
          · have hf : E = 1 := by
              have hcv : colE (zs.take kk) yn.data.toList yt = 1 := by rw [HC.out, if_neg (by decide), if_pos (by omega)]
              rw [HS2.out, hcv]; simp
            subst hf
            clear HS2 HC HF
            go_wp2
            go_ret
            exact ⟨rfl, rfl⟩
          · have HC2 : Hid (colE (zs.take kk) yn.data.toList yt = if 0 ≤ findN yn.data.toList (zs.take kk) then 7 else 0) := by
              show _ = _
              rw [HC.out, if_neg (by decide), if_neg (by omega)]
            clear HC
            by_cases hk : fi = kk
            · have HS3 : Hid (E = schGo (zs.take (kk + 1)) (zs.drop (kk + 1))) := by
                show _ = _
                have hcv : colE (zs.take kk) yn.data.toList yt = 0 := by rw [HC2.out, if_neg (by have := HF.out.1 hk; omega)]
                rw [HS2.out, hcv]; simp
              subst hk
              have hq : ((kk : Int) != (kk : Int)) = false := by simp
              clear HS2 HC2 HF
              go_wp2_with fail
              refine cF.mono ?_
              rintro e w' ⟨rfl, rfl⟩
              go_wp2
              go_roundg (zs.length - (kk + 1))
              case measure => omega
              case rel => exact ⟨kk + 1, by omega, by omega, by go_num, rfl, HS3⟩
            · have hf : E = 7 := by
                have h0 : 0 ≤ findN yn.data.toList (zs.take kk) := Classical.byContradiction fun h => hk (HF.out.2 (by omega))
                have hcv : colE (zs.take kk) yn.data.toList yt = 7 := by rw [HC2.out, if_pos h0]
                rw [HS2.out, hcv]; simp
              subst hf
              have hq : (fi != (kk : Int)) = true := by simpa using hk
              clear HS2 HC2 HF hk
              go_wp2_with fail
              refine cF.mono ?_
              rintro e w' ⟨rfl, rfl⟩
              go_wp2
              go_ret
              exact ⟨rfl, rfl⟩
    · have hltz : ¬ (kk : Int) < (zs.length : Int) := by omega
      have : kk = zs.length := by omega
      have hz : E = 0 := by
        rw [HS.out, this, List.drop_length]; cases zs.take zs.length <;> rfl
      subst hz
      clear HS
      go_wp2
      go_ret
      exact ⟨rfl, rfl⟩
theorem refSchema_any (b off c : Nat) (zs : List (ByteArray × Int)) (w : World) (hl : ∀ z ∈ zs, z.1.size ≤ maxLen) (hc : ColsIn w b off zs) :
    Calls Tryz.prog 26 #[.slice (some ⟨b, off, none⟩) zs.length c] w fun e w' => e = .returned (.int .i64 (schE zs)) ∧ w' = w := by
  rw [schE]
  by_cases h1 : zs.length = 0
  · rw [if_pos h1, h1]
    exact refSchema_none _ c w
  · rw [if_neg h1]
    by_cases h6 : 6 < zs.length
    · rw [if_pos h6]
      exact refSchema_full _ _ c w h6
    · rw [if_neg h6]
      exact refSchema_some b off c zs w h1 h6 hl hc
end Go.Proofs.YtfhlhdddhgkinaaGreatDoor
