/-
  Most of package verify, at any instructions and columns.
-/
import Derived.Test.YtnpinbpjfngknaaDoorVfH
namespace Go.Proofs.YtnpinbpjfngknaaDoor
open Go.RowKit
set_option linter.unusedVariables false

theorem mostF_at {m : Int} {l : List Pl} {k : Nat} (h : k < l.length) : mostF m (l.drop k) = mostF (max m ((l[k].getD []).length : Int)) (l.drop (k + 1)) := by
  rw [List.drop_eq_getElem_cons h, mostF, List.foldl_cons, ← mostF]
set_option maxHeartbeats 4000000 in
set_option maxRecDepth 20000 in
theorem vMost_any (is : List I5) (p : Option Addr) (N c : Nat) (vz : Value) (zs : List (ByteArray × Int)) (w : World) (hr : REnv w) (htw : TW w) (hi : InsAt w p is) (hN : is.length = N) (hNm : N ≤ maxLen) (hz : ∀ i ∈ is, i.2.2.2.2.size ≤ maxLen) (hc : ColsV w vz zs) (M E : Int) (hE : (verP is zs).2.2 = E) (hM : mostP (verP is zs) = M) :
    Calls Tryd.prog 9 #[.slice p N c, vz] w fun e w' => e = .returned (.tuple #[.int .i64 M, errV E]) ∧ Below w.heap.size w w' := by
  have cW := walk_any is p N c vz zs w hr htw hi hN hNm hz hc
  obtain ⟨pz, cz, rfl, -⟩ := hc
  by_cases h0 : E = 0
  · subst h0
    obtain ⟨hl, _, l, t, _, h4, h5, h6⟩ := sound_loop hE
    rw [h6, mostP, if_neg (by simp)] at hM
    have HM : Hid (mostF 0 (l.drop 0) = M) := hM
    rw [h6] at cW
    have HN : Hid (is.length = N) := hN
    have HL : Hid (l.length = N + 1) := by show _ = _; omega
    have hN12 : N ≤ 1200 := by omega
    clear hi hz hE hM h5 h6 h4 hN hl
    go_enter Tryd.func9, Tryd.ntmps9
    go_wp2_with fail
    refine cW.mono ?_
    rintro e w1 hw1
    obtain ⟨v, he, hk, b1⟩ := hw1.out
    obtain ⟨b, rfl, _, hk⟩ := hk rfl
    rw [HN.out] at he
    simp only [show errV 0 = .nilIface from rfl] at he
    subst he
    have KN : Aside (KnAt w1 b l) := hk
    have B1 : Aside (Below w.heap.size w w1) := b1
    clear hw1 cW hk b1
    go_wp2
    go_loopg [9, 11, 24] (N + 1) (fun gg s9 _ s24 wr => ∃ (kk : Nat) (m : Int), kk ≤ N + 1 ∧ (N + 1) - kk ≤ gg ∧ s24 = .int .i64 kk ∧ s9 = .int .i64 m ∧ (0 ≤ m ∧ m ≤ 64) ∧ Aside (KnAt wr b l) ∧ Aside (Below w.heap.size w wr) ∧ Hid (mostF m (l.drop kk) = M))
    case atStart => exact ⟨0, 0, Nat.zero_le _, by omega, rfl, rfl, by decide, KN, B1, HM⟩
    case round =>
      obtain ⟨kk, m, hkk, hg, rfl, rfl, hm, KR, BR, HR⟩ := hrel
      have hbr := BR.out.size
      by_cases hlt : kk < N + 1
      · have hltz : (kk : Int) < (N : Int) + 1 := by omega
        have hltz2 : (kk : Int) < ((N + 1 : Nat) : Int) := by omega
        have h0z : (0 : Int) ≤ (kk : Int) := by omega
        have hkl : kk < l.length := by rw [HL.out]; exact hlt
        obtain ⟨q, cq, d0, d1, dS⟩ := KR.out.at kk hkl
        have h2 := HR.out
        rw [mostF_at hkl] at h2
        have h64 : (l[kk].getD []).length ≤ 64 := by
          obtain ⟨_, _, _, ⟨_, x1⟩, _⟩ := dS
          exact x1
        have HR2 : Hid (mostF (max m ((l[kk].getD []).length : Int)) (l.drop (kk + 1)) = M) := h2
        generalize (l[kk].getD []).length = y at d1 h64 HR2
        generalize l[kk].isSome = fl at d0
        have hbl := KR.out.1
        have KR2 : Aside (KnAt (wr.alloc (.cells #[.bool fl, .slice q y cq] 56)) b l) := KR.out.on (alB _ _)
        have BR2 : Aside (Below w.heap.size w (wr.alloc (.cells #[.bool fl, .slice q y cq] 56))) := BR.out.alloc hbr _
        have hmx : 0 ≤ max m (y : Int) ∧ max m (y : Int) ≤ 64 := by omega
        clear KR BR HR h2 dS
        rcases Int.lt_trichotomy m y with hmy | hmy | hmy
        · have q1 : m ≤ (y : Int) := by omega
          have q2 : ¬ (y : Int) < m := by omega
          rw [show max m (y : Int) = y by omega] at HR2
          go_wp2
          go_roundg (N + 1 - (kk + 1))
          case measure => omega
          case rel => exact ⟨kk + 1, y, by omega, by omega, by go_num, rfl, by omega, KR2, BR2, HR2⟩
        · subst hmy
          rw [show max (y : Int) (y : Int) = y by omega] at HR2
          go_wp2
          all_goals
            go_roundg (N + 1 - (kk + 1))
            case measure => omega
            case rel => exact ⟨kk + 1, y, by omega, by omega, by go_num, rfl, by omega, KR2, BR2, HR2⟩
        · have q1 : ¬ m ≤ (y : Int) := by omega
          have q2 : ¬ m < (y : Int) := by omega
          rw [show max m (y : Int) = m by omega] at HR2
          go_wp2
          go_roundg (N + 1 - (kk + 1))
          case measure => omega
          case rel => exact ⟨kk + 1, m, by omega, by omega, by go_num, rfl, by omega, KR2, BR2, HR2⟩
      · have hltz : ¬ (kk : Int) < (N : Int) + 1 := by omega
        have hltz2 : ¬ (kk : Int) < ((N + 1 : Nat) : Int) := by omega
        have h2 := HR.out
        rw [List.drop_eq_nil_of_le (by rw [HL.out]; omega), mostF, List.foldl_nil] at h2
        subst h2
        clear HR
        go_wp2
        go_ret2
        exact ⟨rfl, BR.out⟩
  · have ht : M = 0 := by rw [← hM, mostP, if_pos (by rw [hE]; exact h0)]
    subst ht
    obtain ⟨⟨l, A', E'⟩, hv⟩ : ∃ r, verP is zs = r := ⟨_, rfl⟩
    rw [hv] at cW hE
    simp only at hE
    subst hE
    have hV : errV E' = .iface 53 (.int .i64 E') := by rw [errV, if_neg h0]
    have HV : Hid (errV E' = .iface 53 (.int .i64 E')) := hV
    rw [hV]
    clear hv hi hz hN hM hV h0
    go_enter Tryd.func9, Tryd.ntmps9
    go_wp2_with fail
    refine cW.mono ?_
    rintro e w1 hw1
    obtain ⟨v, he, -, b1⟩ := hw1.out
    simp only [HV.out] at he
    subst he
    clear hw1 cW
    go_wp2
    go_ret2
    exact ⟨rfl, b1⟩
end Go.Proofs.YtnpinbpjfngknaaDoor
