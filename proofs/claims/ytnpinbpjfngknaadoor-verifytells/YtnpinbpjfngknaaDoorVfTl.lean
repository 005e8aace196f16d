/-
  The walk of VerifyTells: any instructions and columns.
-/
import Derived.Test.YtnpinbpjfngknaaDoorVfT
import Derived.Test.YtnpinbpjfngknaaDoorAs
namespace Go.Proofs.YtnpinbpjfngknaaDoor
open Go.RowKit
set_option linter.unusedVariables false

set_option maxHeartbeats 4000000 in
set_option maxRecDepth 20000 in
theorem tells_ver (is : List I5) (p : Option Addr) (N c : Nat) (vz : Value) (zs : List (ByteArray × Int)) (w : World) (hr : REnv w) (htw : TW w) (hg : w.cell? ⟨0, 0, none⟩ = some (.iface 96 (.agg #[.pointer (some ⟨3, 27, none⟩)]))) (hgl : 0 < w.heap.size) (hi : InsAt w p is) (hN : is.length = N) (hNm : N ≤ maxLen) (hz : ∀ i ∈ is, i.2.2.2.2.size ≤ maxLen) (hc : ColsV w vz zs) :
    Calls Tryd.prog 3 #[.slice p N c, vz] w fun e w' => e = .returned (.bool true) ∧ Below w.heap.size w w' := by
  have hgW : ∀ W, Below w.heap.size w W → W.cell? ⟨0, 0, none⟩ = some (.iface 96 (.agg #[.pointer (some ⟨3, 27, none⟩)])) := fun W b => by rw [b.cell (p := ⟨0, 0, none⟩) hgl]; exact hg
  obtain ⟨⟨A, E⟩, hA⟩ : ∃ r, (verP is zs).2 = r := ⟨_, rfl⟩
  obtain ⟨T, hT⟩ : ∃ T, typP is (verP is zs) = T := ⟨_, rfl⟩
  obtain ⟨M, hM⟩ : ∃ M, mostP (verP is zs) = M := ⟨_, rfl⟩
  have hE : (verP is zs).2.2 = E := by rw [hA]
  have c0 := refVer_any is p N c vz zs w hi hN hNm hz hc A E T M hA hT hM
  have c1 := fun W (b : Below w.heap.size w W) => vCheck_any is p N c vz zs W (hr.on b) (htw.on b) (hi.on b) hN hNm hz (hc.on b) A E hA
  have c2 := fun W (b : Below w.heap.size w W) => vType_any is p N c vz zs W (hr.on b) (htw.on b) (hi.on b) hN hNm hz (hc.on b) T E hE hT
  have c3 := fun W (b : Below w.heap.size w W) => vMost_any is p N c vz zs W (hr.on b) (htw.on b) (hi.on b) hN hNm hz (hc.on b) M E hE hM
  have cS : ∀ W (b : Below w.heap.size w W), Calls Tryd.prog 7 #[errV E, .int .i64 E] W fun e w' => e = .returned (.bool true) ∧ Below W.heap.size W w' := fun W b => by
    by_cases h0 : E = 0
    · subst h0
      refine (same_nil 0 W).mono ?_
      rintro e w' ⟨rfl, rfl⟩
      exact ⟨rfl, Below.refl _ _⟩
    · rw [show errV E = .iface 53 (.int .i64 E) by rw [errV, if_neg h0]]
      refine (same_err E E W (hgW W b)).mono ?_
      rintro e w' ⟨rfl, h⟩
      exact ⟨by rw [beq_self_eq_true], h⟩
  have qA : ((A : Int) == (A : Int)) = true := by simp
  have qT : (T == T) = true := by simp
  have qM : (M == M) = true := by simp
  obtain ⟨pz, cz, rfl, -⟩ := hc
  generalize errV E = EV at *
  clear hi hz hN hA hT hM hE hgW hg
  go_enter Tryd.func3, Tryd.ntmps3
  go_wp2_with fail
  refine c0.mono ?_
  rintro e w1 ⟨rfl, b1⟩
  go_wp2_with fail
  refine (c1 _ b1).mono ?_
  rintro e w2 ⟨rfl, b2⟩
  have b3 := b1.trans (b2.mono b1.size)
  go_wp2_with fail
  refine (cS _ b3).mono ?_
  rintro e w3 ⟨rfl, b4⟩
  have b5 := b3.trans (b4.mono b3.size)
  go_wp2_with fail
  refine (c2 _ b5).mono ?_
  rintro e w4 ⟨rfl, b6⟩
  have b7 := b5.trans (b6.mono b5.size)
  go_wp2_with fail
  refine (cS _ b7).mono ?_
  rintro e w5 ⟨rfl, b8⟩
  have b9 := b7.trans (b8.mono b7.size)
  go_wp2_with fail
  refine (c3 _ b9).mono ?_
  rintro e w6 ⟨rfl, b10⟩
  have b11 := b9.trans (b10.mono b9.size)
  go_wp2_with fail
  refine (cS _ b11).mono ?_
  rintro e w7 ⟨rfl, b12⟩
  have b13 := b11.trans (b12.mono b11.size)
  go_wp2
  go_ret
  exact ⟨rfl, b13⟩
end Go.Proofs.YtnpinbpjfngknaaDoor
