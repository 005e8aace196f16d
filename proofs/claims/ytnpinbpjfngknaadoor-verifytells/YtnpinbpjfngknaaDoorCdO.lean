/-
  What Op of package code says of any number; instructions in memory.
-/
import Derived.Test.YtnpinbpjfngknaaDoorKdOps
namespace Go.Proofs.YtnpinbpjfngknaaDoor
open Go.RowKit
set_option linter.unusedVariables false

/-- The operation of a number that is one here. -/
def opN (n : Int) : List UInt8 := if 2 ≤ n ∧ n < 16 then ((kdRules[n.toNat]?).map (·.1)).getD [] else []
def opE (n : Int) : Int := if 2 ≤ n ∧ n < 16 then 0 else 1
theorem opN_len (n : Int) : (opN n).length ≤ 8 := by
  unfold opN
  split
  · rename_i h
    obtain ⟨k, rfl⟩ : ∃ k : Nat, n = k := ⟨n.toNat, by omega⟩
    have : k = 2 ∨ k = 3 ∨ k = 4 ∨ k = 5 ∨ k = 6 ∨ k = 7 ∨ k = 8 ∨ k = 9 ∨ k = 10 ∨ k = 11 ∨ k = 12 ∨ k = 13 ∨ k = 14 ∨ k = 15 := by omega
    rcases this with rfl | rfl | rfl | rfl | rfl | rfl | rfl | rfl | rfl | rfl | rfl | rfl | rfl | rfl <;> decide
  · decide
theorem opN_none {n : Int} (h : ¬ (2 ≤ n ∧ n < 16)) : opN n = [] ∧ opE n = 1 := ⟨if_neg h, if_neg h⟩
theorem opN_some {k : Nat} (h : 2 ≤ k ∧ k < 16) (hk : k < opsS.length) : (⟨(opN k).toArray⟩ : ByteArray) = opsS[k] ∧ opE k = 0 := by
  have hz : 2 ≤ (k : Int) ∧ (k : Int) < 16 := by omega
  refine ⟨?_, if_pos hz⟩
  have h17 : k < kdRules.length := by have : kdRules.length = 17 := rfl; omega
  rw [opN, if_pos hz, Int.toNat_natCast, List.getElem?_eq_getElem h17]
  exact (List.getElem_map (l := kdRules) (fun r : KRule => (⟨r.1.toArray⟩ : ByteArray))).symm
def jmpB (l : List UInt8) : Bool := l == [111, 114] || l == [97, 110, 100] || l == [105, 102]
theorem jmp_ops {k : Nat} (hk : k < opsS.length) : jmpB opsS[k].data.toList = (k == 0 || k == 1 || k == 16) := by
  have h17 : k < 17 := hk
  have : k = 0 ∨ k = 1 ∨ k = 2 ∨ k = 3 ∨ k = 4 ∨ k = 5 ∨ k = 6 ∨ k = 7 ∨ k = 8 ∨ k = 9 ∨ k = 10 ∨ k = 11 ∨ k = 12 ∨ k = 13 ∨ k = 14 ∨ k = 15 ∨ k = 16 := by omega
  rcases this with rfl | rfl | rfl | rfl | rfl | rfl | rfl | rfl | rfl | rfl | rfl | rfl | rfl | rfl | rfl | rfl | rfl <;> rfl
theorem byJumps_any (S : ByteArray) (w : World) :
    Calls Tryd.prog 55 #[.string S] w fun e w' => e = .returned (.bool (jmpB S.data.toList)) ∧ w' = w := by
  rw [← Lib.toList_data]
  generalize hL : S.toList = L
  have e1 : jmpB L = (L == [111, 114] || L == [97, 110, 100] || L == [105, 102]) := rfl
  rw [e1]
  clear e1
  go_enter Tryd.func55, Tryd.ntmps55
  go_wp2
  all_goals
    go_ret
    simp_all
set_option maxHeartbeats 2000000 in
theorem codeOp_any (n : Int) (w : World) (henv : REnv w) :
    Calls Tryd.prog 39 #[.int .i64 n] w fun e w' => e = .returned (.tuple #[.string ⟨(opN n).toArray⟩, errV (opE n)]) ∧ Below w.heap.size w w' := by
  by_cases h0 : 0 ≤ n ∧ n < 17
  · obtain ⟨k, rfl⟩ : ∃ k : Nat, n = k := ⟨n.toNat, by omega⟩
    have hk : k < opsS.length := by have : opsS.length = 17 := rfl; omega
    have H1 : Hid (jmpB opsS[k].data.toList = (k == 0 || k == 1 || k == 16)) := jmp_ops hk
    obtain ⟨R, hR⟩ : ∃ R, Value.tuple #[.string ⟨(opN k).toArray⟩, errV (opE k)] = R := ⟨_, rfl⟩
    have HR : Hid (Value.tuple #[.string ⟨(opN k).toArray⟩, errV (opE k)] = R) := hR
    rw [hR]
    clear hR
    have z0 : ¬ (k : Int) < 0 := by omega
    have z1 : ¬ (17 : Int) ≤ (k : Int) := by omega
    have z2 : (0 : Int) ≤ (k : Int) := by omega
    go_enter Tryd.func39, Tryd.ntmps39
    go_wp2_with fail
    refine (kindOps_any w henv).mono ?_
    rintro e w1 ⟨⟨q, c, rfl, hst⟩, b1⟩
    obtain ⟨b, off, rfl, hbl, hcell⟩ := hst.out
    have c1 := hcell k hk
    go_wp2_with fail
    refine (byJumps_any opsS[k] _).mono ?_
    rintro e w2 ⟨rfl, rfl⟩
    by_cases hj : 2 ≤ k ∧ k < 16
    · have ej : jmpB opsS[k].data.toList = false := by rw [H1.out]; simp; omega
      rw [ej]
      obtain ⟨f1, f2⟩ := opN_some hj hk
      have HR2 : Hid (Value.tuple #[.string opsS[k], errV 0] = R) := by
        show _ = _
        rw [← HR.out, f1, f2]
      go_wp2
      go_ret2
      exact ⟨by rw [← HR2.out]; rfl, b1⟩
    · have ej : jmpB opsS[k].data.toList = true := by rw [H1.out]; simp; omega
      rw [ej]
      obtain ⟨f1, f2⟩ := opN_none (n := k) (by omega)
      have HR2 : Hid (Value.tuple #[.string ⟨#[]⟩, errV 1] = R) := by
        show _ = _
        rw [← HR.out, f1, f2]
      go_wp2
      go_ret2
      exact ⟨by rw [← HR2.out]; rfl, b1⟩
  · obtain ⟨f1, f2⟩ := opN_none (n := n) (by omega)
    rw [f1, f2]
    have HR2 : Hid (Value.tuple #[.string ⟨(#[] : Array UInt8)⟩, errV 1] = Value.tuple #[.string ⟨([] : List UInt8).toArray⟩, errV 1]) := rfl
    by_cases hn : n < 0
    · go_enter Tryd.func39, Tryd.ntmps39
      go_wp2_with fail
      refine (kindOps_any w henv).mono ?_
      rintro e w1 ⟨⟨q, c, rfl, hst⟩, b1⟩
      go_wp2
      go_ret2
      exact ⟨rfl, b1⟩
    · have hn2 : (17 : Int) ≤ n := by omega
      go_enter Tryd.func39, Tryd.ntmps39
      go_wp2_with fail
      refine (kindOps_any w henv).mono ?_
      rintro e w1 ⟨⟨q, c, rfl, hst⟩, b1⟩
      go_wp2
      go_ret2
      exact ⟨rfl, b1⟩
/-- An instruction: what, its number, the value. -/
abbrev I5 := Int × Int × Int × Int × ByteArray
def okI (i : I5) : Prop := (-9223372036854775808 ≤ i.2.1 ∧ i.2.1 ≤ 9223372036854775807) ∧ (-9223372036854775808 ≤ i.2.2.2.1 ∧ i.2.2.2.1 ≤ 9223372036854775807) ∧ i.2.2.2.2.size ≤ maxLen
/-- Instructions one behind the other. -/
def InsAt (w : World) (p : Option Addr) (is : List I5) : Prop := is.length = 0 ∨ ∃ b off, p = some ⟨b, off, none⟩ ∧ b < w.heap.size ∧ ∀ j (h : j < is.length), w.cell? ⟨b, off + j * 5, none⟩ = some (.int .i64 is[j].1) ∧ w.cell? ⟨b, off + j * 5 + 1, none⟩ = some (.int .i64 is[j].2.1) ∧ w.cell? ⟨b, off + j * 5 + 2, none⟩ = some (.int .i64 is[j].2.2.1) ∧ w.cell? ⟨b, off + j * 5 + 3, none⟩ = some (.int .i64 is[j].2.2.2.1) ∧ w.cell? ⟨b, off + j * 5 + 4, none⟩ = some (.string is[j].2.2.2.2)
theorem InsAt.on {w w' : World} {p : Option Addr} {is : List I5} (h : InsAt w p is) (hb : Below w.heap.size w w') : InsAt w' p is := by
  rcases h with h | ⟨b, off, e, hl, h⟩
  · exact .inl h
  · refine .inr ⟨b, off, e, by have := hb.size; omega, fun j hj => ?_⟩
    obtain ⟨h1, h2, h3, h4, h5⟩ := h j hj
    exact ⟨by rw [hb.cell (p := ⟨b, _, none⟩) hl]; exact h1, by rw [hb.cell (p := ⟨b, _, none⟩) hl]; exact h2, by rw [hb.cell (p := ⟨b, _, none⟩) hl]; exact h3, by rw [hb.cell (p := ⟨b, _, none⟩) hl]; exact h4, by rw [hb.cell (p := ⟨b, _, none⟩) hl]; exact h5⟩
end Go.Proofs.YtnpinbpjfngknaaDoor
