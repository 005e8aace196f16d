/-
  What Op of package code says of any number, and line of any instruction.
-/
import Derived.Test.YtpgadbpkednjkaaDoorKdOps
import Derived.Test.YtpgadbpkednjkaaDoorPrint
import Derived.Lib.ItoaLen
namespace Go.Proofs.YtpgadbpkednjkaaDoor
open Go.RowKit
set_option linter.unusedVariables false

/-- The operation of a number that is one here. -/
def opN (n : Int) : List UInt8 := if 2 ≤ n ∧ n < 16 then ((kdRules[n.toNat]?).map (·.1)).getD [] else []
def opE (n : Int) : Int := if 2 ≤ n ∧ n < 16 then 0 else 1
theorem opN_len (n : Int) : (opN n).length ≤ 8 := by
  unfold opN
  split
  · rename_i h
    obtain ⟨k, rfl⟩ : ∃ k : Nat, n = k := ⟨n.toNat, by omega⟩
    have : k = 2 ∨ k = 3 ∨ k = 4 ∨ k = 5 ∨ k = 6 ∨ k = 7 ∨ k = 8 ∨ k = 9 ∨ k = 10 ∨ k = 11 ∨ k = 12 ∨ k = 13 ∨ k = 14 ∨ k = 15 := by omega
    rcases this with rfl | rfl | rfl | rfl | rfl | rfl | rfl | rfl | rfl | rfl | rfl | rfl | rfl | rfl <;> decide
  · decide
theorem opN_none {n : Int} (h : ¬ (2 ≤ n ∧ n < 16)) : opN n = [] ∧ opE n = 1 := ⟨if_neg h, if_neg h⟩
theorem opN_some {k : Nat} (h : 2 ≤ k ∧ k < 16) (hk : k < opsS.length) : (⟨(opN k).toArray⟩ : ByteArray) = opsS[k] ∧ opE k = 0 := by
  have hz : 2 ≤ (k : Int) ∧ (k : Int) < 16 := by omega
  refine ⟨?_, if_pos hz⟩
  have h17 : k < kdRules.length := by have : kdRules.length = 17 := rfl; omega
  rw [opN, if_pos hz, Int.toNat_natCast, List.getElem?_eq_getElem h17]
  exact (List.getElem_map (l := kdRules) (fun r : KRule => (⟨r.1.toArray⟩ : ByteArray))).symm
def jmpB (l : List UInt8) : Bool := l == [111, 114] || l == [97, 110, 100] || l == [105, 102]
theorem jmp_ops {k : Nat} (hk : k < opsS.length) : jmpB opsS[k].data.toList = (k == 0 || k == 1 || k == 16) := by
  have h17 : k < 17 := hk
  have : k = 0 ∨ k = 1 ∨ k = 2 ∨ k = 3 ∨ k = 4 ∨ k = 5 ∨ k = 6 ∨ k = 7 ∨ k = 8 ∨ k = 9 ∨ k = 10 ∨ k = 11 ∨ k = 12 ∨ k = 13 ∨ k = 14 ∨ k = 15 ∨ k = 16 := by omega
  rcases this with rfl | rfl | rfl | rfl | rfl | rfl | rfl | rfl | rfl | rfl | rfl | rfl | rfl | rfl | rfl | rfl | rfl <;> rfl
theorem byJumps_any (S : ByteArray) (w : World) :
    Calls Tryd.prog 18 #[.string S] w fun e w' => e = .returned (.bool (jmpB S.data.toList)) ∧ w' = w := by
  rw [← Lib.toList_data]
  generalize hL : S.toList = L
  have e1 : jmpB L = (L == [111, 114] || L == [97, 110, 100] || L == [105, 102]) := rfl
  rw [e1]
  clear e1
  go_enter Tryd.func18, Tryd.ntmps18
  go_wp2
  all_goals
    go_ret
    simp_all
set_option maxHeartbeats 2000000 in
theorem codeOp_any (n : Int) (w : World) (henv : REnv w) :
    Calls Tryd.prog 7 #[.int .i64 n] w fun e w' => e = .returned (.tuple #[.string ⟨(opN n).toArray⟩, errV (opE n)]) ∧ Below w.heap.size w w' := by
  by_cases h0 : 0 ≤ n ∧ n < 17
  · obtain ⟨k, rfl⟩ : ∃ k : Nat, n = k := ⟨n.toNat, by omega⟩
    have hk : k < opsS.length := by have : opsS.length = 17 := rfl; omega
    have H1 : Hid (jmpB opsS[k].data.toList = (k == 0 || k == 1 || k == 16)) := jmp_ops hk
    obtain ⟨R, hR⟩ : ∃ R, Value.tuple #[.string ⟨(opN k).toArray⟩, errV (opE k)] = R := ⟨_, rfl⟩
    have HR : Hid (Value.tuple #[.string ⟨(opN k).toArray⟩, errV (opE k)] = R) := hR
    rw [hR]
    clear hR
    have z0 : ¬ (k : Int) < 0 := by omega
    have z1 : ¬ (17 : Int) ≤ (k : Int) := by omega
    have z2 : (0 : Int) ≤ (k : Int) := by omega
    go_enter Tryd.func7, Tryd.ntmps7
    go_wp2_with fail
    refine (kindOps_any w henv).mono ?_
    rintro e w1 ⟨⟨q, c, rfl, hst⟩, b1⟩
    obtain ⟨b, off, rfl, hbl, hcell⟩ := hst.out
    have c1 := hcell k hk
    go_wp2_with fail
    refine (byJumps_any opsS[k] _).mono ?_
    rintro e w2 ⟨rfl, rfl⟩
    by_cases hj : 2 ≤ k ∧ k < 16
    · have ej : jmpB opsS[k].data.toList = false := by rw [H1.out]; simp; omega
      rw [ej]
      obtain ⟨f1, f2⟩ := opN_some hj hk
      have HR2 : Hid (Value.tuple #[.string opsS[k], errV 0] = R) := by
        show _ = _
        rw [← HR.out, f1, f2]
      go_wp2
      go_ret2
      exact ⟨by rw [← HR2.out]; rfl, b1⟩
    · have ej : jmpB opsS[k].data.toList = true := by rw [H1.out]; simp; omega
      rw [ej]
      obtain ⟨f1, f2⟩ := opN_none (n := k) (by omega)
      have HR2 : Hid (Value.tuple #[.string ⟨#[]⟩, errV 1] = R) := by
        show _ = _
        rw [← HR.out, f1, f2]
      go_wp2
      go_ret2
      exact ⟨by rw [← HR2.out]; rfl, b1⟩
  · obtain ⟨f1, f2⟩ := opN_none (n := n) (by omega)
    rw [f1, f2]
    have HR2 : Hid (Value.tuple #[.string ⟨(#[] : Array UInt8)⟩, errV 1] = Value.tuple #[.string ⟨([] : List UInt8).toArray⟩, errV 1]) := rfl
    by_cases hn : n < 0
    · go_enter Tryd.func7, Tryd.ntmps7
      go_wp2_with fail
      refine (kindOps_any w henv).mono ?_
      rintro e w1 ⟨⟨q, c, rfl, hst⟩, b1⟩
      go_wp2
      go_ret2
      exact ⟨rfl, b1⟩
    · have hn2 : (17 : Int) ≤ n := by omega
      go_enter Tryd.func7, Tryd.ntmps7
      go_wp2_with fail
      refine (kindOps_any w henv).mono ?_
      rintro e w1 ⟨⟨q, c, rfl, hst⟩, b1⟩
      go_wp2
      go_ret2
      exact ⟨rfl, b1⟩
theorem worded_any (W S : ByteArray) (k : Int) (w : World) (h1 : W.size ≤ 10) (h2 : S.size ≤ 100) :
    Calls Tryd.prog 24 #[.string W, .string S, errV k] w fun e w' => e = .returned (.string (if k ≠ 0 then ⟨#[63]⟩ else W ++ ⟨#[32]⟩ ++ S)) ∧ w' = w := by
  by_cases hk : k = 0
  · subst hk
    rw [if_neg (by simp), errV, if_pos rfl]
    go_enter Tryd.func24, Tryd.ntmps24
    go_wp2
    go_ret
    exact ⟨rfl, rfl⟩
  · rw [if_pos hk, errV, if_neg hk]
    go_enter Tryd.func24, Tryd.ntmps24
    go_wp2
    go_ret
    exact ⟨rfl, rfl⟩
/-- An instruction: what, its number, the value. -/
abbrev I5 := Int × Int × Int × Int × ByteArray
def wordL (o : List UInt8) (x : List UInt8) : List UInt8 := o ++ [32] ++ x
/-- An instruction as it is written. -/
def lineP (i : I5) : List UInt8 :=
  if i.1 = 1 then (if chk i.2.2.1 i.2.2.2.1 i.2.2.2.2.data.toList ≠ 0 then [63] else wordL [112, 117, 115, 104] (shown i.2.2.1 i.2.2.2.1 i.2.2.2.2.data.toList))
  else if i.1 = 2 then wordL [108, 111, 97, 100] (Lib.itoa i.2.1)
  else if i.1 = 3 then (if opE i.2.1 ≠ 0 then [63] else wordL [100, 111] (opN i.2.1))
  else if i.1 = 4 then wordL [106, 117, 109, 112] (Lib.itoa i.2.1)
  else if i.1 = 5 then wordL [101, 108, 115, 101] (Lib.itoa i.2.1)
  else if i.1 = 6 then [107, 101, 101, 112]
  else if i.1 = 7 then [100, 114, 111, 112]
  else [63]
def okI (i : I5) : Prop := (-9223372036854775808 ≤ i.2.1 ∧ i.2.1 ≤ 9223372036854775807) ∧ (-9223372036854775808 ≤ i.2.2.2.1 ∧ i.2.2.2.1 ≤ 9223372036854775807) ∧ i.2.2.2.2.size ≤ maxLen
theorem shown_len {t n : Int} {l : List UInt8} (hn : -9223372036854775808 ≤ n ∧ n ≤ 9223372036854775807) (h : chk t n l = 0) : (shown t n l).length ≤ 90 := by
  rcases chk_type h with ⟨rfl, _⟩ | ⟨rfl, _, hb⟩ | ⟨rfl, rfl, hl, _⟩
  · rw [shown, if_pos rfl]
    have := Lib.itoa_length_le n hn.1 hn.2
    omega
  · rw [shown, if_neg (by decide), if_pos rfl]
    split <;> decide
  · rw [shown, if_neg (by decide), if_neg (by decide)]
    have := esc_len l
    simp
    omega
theorem itoa_len90 {n : Int} (hn : -9223372036854775808 ≤ n ∧ n ≤ 9223372036854775807) : (Lib.itoa n).length ≤ 90 := by
  have := Lib.itoa_length_le n hn.1 hn.2
  omega
theorem lineP_len {i : I5} (h : okI i) : (lineP i).length ≤ 100 := by
  obtain ⟨h1, h2, h3⟩ := h
  unfold lineP
  split
  · split
    · decide
    · rename_i hc
      have := shown_len h2 (l := i.2.2.2.2.data.toList) (t := i.2.2.1) (by omega)
      simp [wordL]; omega
  split
  · have := itoa_len90 h1; simp [wordL]; omega
  split
  · split
    · decide
    · have := opN_len i.2.1; simp [wordL]; omega
  split
  · have := itoa_len90 h1; simp [wordL]; omega
  split
  · have := itoa_len90 h1; simp [wordL]; omega
  split
  · decide
  split
  · decide
  · decide
end Go.Proofs.YtpgadbpkednjkaaDoor
