/-
  Check, Type and Most of package verify, at any instructions and columns.
-/
import Derived.Test.YtnpinbpjfngknaaDoorVfG
import Derived.Test.YtnpinbpjfngknaaDoorVfQ
namespace Go.Proofs.YtnpinbpjfngknaaDoor
open Go.RowKit
set_option linter.unusedVariables false

theorem vCheck_any (is : List I5) (p : Option Addr) (N c : Nat) (vz : Value) (zs : List (ByteArray × Int)) (w : World) (hr : REnv w) (htw : TW w) (hi : InsAt w p is) (hN : is.length = N) (hNm : N ≤ maxLen) (hz : ∀ i ∈ is, i.2.2.2.2.size ≤ maxLen) (hc : ColsV w vz zs) (A : Nat) (E : Int) (hR : (verP is zs).2 = (A, E)) :
    Calls Tryd.prog 6 #[.slice p N c, vz] w fun e w' => e = .returned (.tuple #[.int .i64 A, errV E]) ∧ Below w.heap.size w w' := by
  have cW := walk_any is p N c vz zs w hr htw hi hN hNm hz hc
  obtain ⟨⟨l, A', E'⟩, hv⟩ : ∃ r, verP is zs = r := ⟨_, rfl⟩
  rw [hv] at cW hR
  obtain ⟨rfl, rfl⟩ := Prod.mk.inj hR
  obtain ⟨pz, cz, rfl, -⟩ := hc
  clear hv hi hz hN hR
  go_enter Tryd.func6, Tryd.ntmps6
  go_wp2_with fail
  refine cW.mono ?_
  rintro e w1 hw1
  obtain ⟨v, rfl, -, b1⟩ := hw1.out
  go_wp2
  go_ret2
  exact ⟨rfl, b1⟩
set_option maxHeartbeats 2000000 in
theorem vType_any (is : List I5) (p : Option Addr) (N c : Nat) (vz : Value) (zs : List (ByteArray × Int)) (w : World) (hr : REnv w) (htw : TW w) (hi : InsAt w p is) (hN : is.length = N) (hNm : N ≤ maxLen) (hz : ∀ i ∈ is, i.2.2.2.2.size ≤ maxLen) (hc : ColsV w vz zs) (T E : Int) (hE : (verP is zs).2.2 = E) (hT : typP is (verP is zs) = T) :
    Calls Tryd.prog 8 #[.slice p N c, vz] w fun e w' => e = .returned (.tuple #[.int .i64 T, errV E]) ∧ Below w.heap.size w w' := by
  have cW := walk_any is p N c vz zs w hr htw hi hN hNm hz hc
  obtain ⟨pz, cz, rfl, -⟩ := hc
  by_cases h0 : E = 0
  · subst h0
    obtain ⟨hl, _, l, t, _, h4, h5, h6⟩ := sound_loop hE
    have ht := typ_sound h5 h6
    rw [hT] at ht
    subst ht
    rw [h6] at cW
    have hlt : is.length < l.length := by omega
    have H5 : Hid (l[is.length]? = some (some [T])) := h5
    have HN : Hid (is.length = N) := hN
    have HL : Hid (l.length = is.length + 1) := h4
    have hN12 : N ≤ 1200 := by omega
    clear hi hz hE hT h5 h6 h4 hN hl hlt
    go_enter Tryd.func8, Tryd.ntmps8
    go_wp2_with fail
    refine cW.mono ?_
    rintro e w1 hw1
    obtain ⟨v, he, hk, b1⟩ := hw1.out
    obtain ⟨b, rfl, _, hk⟩ := hk rfl
    rw [HN.out] at he
    simp only [show errV 0 = .nilIface from rfl] at he
    subst he
    have hNl : N < l.length := by rw [HL.out, HN.out]; omega
    obtain ⟨q, cq, d0, d1, dS⟩ := hk.at N hNl
    have hg : l[N] = some [T] := by
      have := H5.out
      rw [HN.out, List.getElem?_eq_getElem hNl] at this
      exact Option.some.inj this
    rw [hg] at d1 dS
    simp only [Option.getD_some, List.length_singleton] at d1 dS
    obtain ⟨g, o, rfl, hgl, dc⟩ := one_at dS.ints
    have hbl := hk.1
    have nz : (0 : Int) ≤ (N : Int) := by omega
    have nz1 : (N : Int) < (N : Int) + 1 := by omega
    clear hw1 hk cW d0 dS
    go_wp2
    go_ret2
    exact ⟨rfl, b1⟩
  · have ht : T = 0 := by rw [← hT, typP, if_pos (by rw [hE]; exact h0)]
    subst ht
    obtain ⟨⟨l, A', E'⟩, hv⟩ : ∃ r, verP is zs = r := ⟨_, rfl⟩
    rw [hv] at cW hE
    simp only at hE
    subst hE
    have hV : errV E' = .iface 53 (.int .i64 E') := by rw [errV, if_neg h0]
    have HV : Hid (errV E' = .iface 53 (.int .i64 E')) := hV
    rw [hV]
    clear hv hi hz hN hT hV h0
    go_enter Tryd.func8, Tryd.ntmps8
    go_wp2_with fail
    refine cW.mono ?_
    rintro e w1 hw1
    obtain ⟨v, he, -, b1⟩ := hw1.out
    simp only [HV.out] at he
    subst he
    clear hw1 cW
    go_wp2
    go_ret2
    exact ⟨rfl, b1⟩
end Go.Proofs.YtnpinbpjfngknaaDoor
