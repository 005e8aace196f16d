/-
  The walk of CodeTells: any instructions, and any number.
-/
import Derived.Test.YtpgadbpkednjkaaDoorCdPr
import Derived.Test.YtpgadbpkednjkaaDoorCdRf
import Derived.Test.YtpgadbpkednjkaaDoorEnvT
namespace Go.Proofs.YtpgadbpkednjkaaDoor
open Go.RowKit
set_option linter.unusedVariables false

theorem cat3 (a x : ByteArray) (l m : List UInt8) (h1 : a.data.toList = l) (h2 : x.data.toList = m) : (a ++ x ++ ⟨#[10]⟩).data.toList = l ++ m ++ [10] := by
  simp [h1, h2]
set_option maxHeartbeats 4000000 in
set_option maxRecDepth 20000 in
theorem tells_code (p : Option Addr) (c N : Nat) (is : List I5) (n : Int) (w : World) (hN : is.length = N) (hNm : N ≤ maxLen) (hc : InsAt w p is) (hz : ∀ i ∈ is, okI i) (henv : EnvT w) (hr : REnv w) :
    Calls Tryd.prog 3 #[.slice p N c, .int .i64 n] w fun e w' => e = .returned (.bool true) ∧ Below w.heap.size w w' := by
  have HZ : Hid (∀ i ∈ is, okI i) := hz
  have HN : Hid (is.length = N) := hN
  unfold maxLen at hNm
  clear hz hN
  have hop := opN_len n
  have cR := fun W => refOp_any n W
  have cC := fun W hW => codeOp_any n W hW
  have HE : Hid (opE n = 0 ∨ opE n = 1) := by
    show _ ∨ _
    unfold opE
    split
    · exact .inl rfl
    · exact .inr rfl
  generalize opN n = O at *
  generalize opE n = E at *
  generalize (⟨O.toArray⟩ : ByteArray) = Q at *
  have hqo : (Q.toList == Q.toList) = true := by simp
  go_enter Tryd.func3, Tryd.ntmps3
  go_wp2
  go_loopg [5, 6, 7] N (fun gg s5 s6 _ wr => ∃ (kk : Nat) (acc : ByteArray), kk ≤ N ∧ kk ≤ 60 ∧ N - kk ≤ gg ∧ s6 = .int .i64 kk ∧ s5 = .string acc ∧ Aside (Below w.heap.size w wr) ∧ Hid (acc.data.toList = textP (is.take kk)) ∧ acc.size ≤ kk * 101)
  case atStart => exact ⟨0, ⟨#[]⟩, Nat.zero_le _, Nat.zero_le _, by omega, rfl, rfl, (show Aside _ from Below.refl _ _), rfl, by decide⟩
  case round =>
    obtain ⟨kk, acc, hkk, hk60, hg, rfl, rfl, BW, HA, hlen⟩ := hrel
    by_cases hlt : kk < N ∧ kk < 60
    · obtain ⟨hlt, hlt6⟩ := hlt
      have hltz : (kk : Int) < (N : Int) := by omega
      have hltz6 : (kk : Int) < 60 := by omega
      have k0 : (0 : Int) ≤ (kk : Int) := by omega
      have hk2 : kk < is.length := by rw [HN.out]; exact hlt
      have HS : Hid (textP (is.take (kk + 1)) = textP (is.take kk) ++ lineP is[kk] ++ [10]) := text_step hk2
      have hyo := HZ.out _ (List.getElem_mem hk2)
      rcases hc.on BW.out with h | ⟨b1, o1, rfl, hbl, h⟩
      · omega
      obtain ⟨c0, c1, c2, c3, c4⟩ := h kk hk2
      clear h
      generalize is[kk] = y at c0 c1 c2 c3 c4 HS hyo
      obtain ⟨ya, yg, yt, yn, ys⟩ := y
      simp only at c0 c1 c2 c3 c4
      have hll := lineP_len hyo
      have cL := refWord_any (ya, yg, yt, yn, ys) wr hyo
      have HS2 : Hid (textP (is.take (kk + 1)) = acc.data.toList ++ lineP (ya, yg, yt, yn, ys) ++ [10]) := by
        show _ = _
        rw [HS.out, HA.out]
      clear HS HA hyo
      generalize lineP (ya, yg, yt, yn, ys) = X at cL HS2 hll
      have hXs := sizeL X
      have HX : Hid ((⟨X.toArray⟩ : ByteArray).data.toList = X) := rfl
      generalize (⟨X.toArray⟩ : ByteArray) = Y at *
      have HF : Hid ((acc ++ Y ++ ⟨#[10]⟩).data.toList = textP (is.take (kk + 1))) := by
        show _ = _
        rw [HS2.out]
        exact cat3 acc Y _ _ rfl HX.out
      have hsz : (acc ++ Y ++ ⟨#[10]⟩).size = acc.size + Y.size + 1 := by rw [ByteArray.size_append, ByteArray.size_append]; rfl
      go_wp2_with fail
      refine cL.mono ?_
      rintro e w1 ⟨rfl, b1⟩
      have B3 := BW.out.trans (b1.mono BW.out.size)
      clear b1 cL
      go_wp2
      go_roundg (N - (kk + 1))
      case measure => omega
      case rel => exact ⟨kk + 1, acc ++ Y ++ ⟨#[10]⟩, by omega, by omega, by omega, by go_num, rfl, B3, HF, by rw [hsz]; omega⟩
    · have HT : N ≤ 60 → acc.data.toList = textP is := fun h => by
        rw [HA.out, List.take_of_length_le (by have := HN.out; omega)]
      have HT' : Hid (N ≤ 60 → acc.data.toList = textP is) := HT
      clear HA HT
      by_cases h60 : N ≤ 60
      · have hz60 : (N : Int) ≤ 60 := by omega
        have hnl : ¬ (kk : Int) < (N : Int) := by omega
        have cP := print_anyI p c N is wr HN.out (hc.on BW.out) h60 HZ.out (henv.env.on BW.out) (hr.on BW.out) acc (by
          apply ByteArray.ext
          apply Array.toList_inj.1
          rw [HT'.out h60])
        have hq : (acc.toList != acc.toList) = false := by simp
        clear hc hlt
        go_wp2_with fail
        refine cP.mono ?_
        rintro e w1 ⟨rfl, b1⟩
        have B1 := BW.out.trans (b1.mono BW.out.size)
        clear b1 cP
        rcases HE.out with rfl | rfl
        all_goals
          go_wp2_with fail
          refine (cR _).mono ?_
          rintro e w2 ⟨rfl, b2⟩
          have B2 := B1.trans (b2.mono B1.size)
          clear b2
          go_wp2_with fail
          refine (cC _ (hr.on B2)).mono ?_
          rintro e w3 ⟨rfl, b3⟩
          have B3 := B2.trans (b3.mono B2.size)
          clear b3
          go_wp2_with fail
          refine (same_any _ _ (henv.on B3)).mono ?_
          rintro e w4 ⟨rfl, b4⟩
          have B4 := B3.trans (b4.mono B3.size)
          clear b4
          go_wp2
          go_ret
          exact ⟨rfl, B4⟩
      · have hz60 : ¬ (N : Int) ≤ 60 := by omega
        have hnl : (kk : Int) < (N : Int) := by omega
        have hn6 : ¬ (kk : Int) < 60 := by omega
        have B1 := BW.out
        clear hc hlt
        rcases HE.out with rfl | rfl
        all_goals
          go_wp2_with fail
          refine (cR _).mono ?_
          rintro e w2 ⟨rfl, b2⟩
          have B2 := B1.trans (b2.mono B1.size)
          clear b2
          go_wp2_with fail
          refine (cC _ (hr.on B2)).mono ?_
          rintro e w3 ⟨rfl, b3⟩
          have B3 := B2.trans (b3.mono B2.size)
          clear b3
          go_wp2_with fail
          refine (same_any _ _ (henv.on B3)).mono ?_
          rintro e w4 ⟨rfl, b4⟩
          have B4 := B3.trans (b4.mono B3.size)
          clear b4
          go_wp2
          go_ret
          exact ⟨rfl, B4⟩
end Go.Proofs.YtpgadbpkednjkaaDoor
