/-
  What Print of package code says of any instructions; and what Op and Word of the document say.
-/
import Derived.Test.YtpgadbpkednjkaaDoorCdLn
import Derived.Test.YtpgadbpkednjkaaDoorBld
import Derived.Test.YtpgadbpkednjkaaDoorRef3
namespace Go.Proofs.YtpgadbpkednjkaaDoor
open Go.RowKit
set_option linter.unusedVariables false

/-- Instructions one behind the other. -/
def InsAt (w : World) (p : Option Addr) (is : List I5) : Prop := is.length = 0 ∨ ∃ b off, p = some ⟨b, off, none⟩ ∧ b < w.heap.size ∧ ∀ j (h : j < is.length), w.cell? ⟨b, off + j * 5, none⟩ = some (.int .i64 is[j].1) ∧ w.cell? ⟨b, off + j * 5 + 1, none⟩ = some (.int .i64 is[j].2.1) ∧ w.cell? ⟨b, off + j * 5 + 2, none⟩ = some (.int .i64 is[j].2.2.1) ∧ w.cell? ⟨b, off + j * 5 + 3, none⟩ = some (.int .i64 is[j].2.2.2.1) ∧ w.cell? ⟨b, off + j * 5 + 4, none⟩ = some (.string is[j].2.2.2.2)
theorem InsAt.on {w w' : World} {p : Option Addr} {is : List I5} (h : InsAt w p is) (hb : Below w.heap.size w w') : InsAt w' p is := by
  rcases h with h | ⟨b, off, e, hl, h⟩
  · exact .inl h
  · refine .inr ⟨b, off, e, by have := hb.size; omega, fun j hj => ?_⟩
    obtain ⟨h1, h2, h3, h4, h5⟩ := h j hj
    exact ⟨by rw [hb.cell (p := ⟨b, _, none⟩) hl]; exact h1, by rw [hb.cell (p := ⟨b, _, none⟩) hl]; exact h2, by rw [hb.cell (p := ⟨b, _, none⟩) hl]; exact h3, by rw [hb.cell (p := ⟨b, _, none⟩) hl]; exact h4, by rw [hb.cell (p := ⟨b, _, none⟩) hl]; exact h5⟩
/-- Instructions as they are written. -/
def textP (is : List I5) : List UInt8 := is.flatMap fun i => lineP i ++ [10]
theorem text_step {is : List I5} {k : Nat} (h : k < is.length) : textP (is.take (k + 1)) = textP (is.take k) ++ lineP is[k] ++ [10] := by
  rw [List.take_succ_eq_append_getElem h]
  simp only [textP, List.flatMap_append, List.flatMap_cons, List.flatMap_nil, List.append_nil, List.append_assoc]
theorem print_noneI (p : Option Addr) (c : Nat) (w : World) :
    Calls Tryd.prog 5 #[.slice p 0 c] w fun e w' => e = .returned (.string ⟨#[]⟩) ∧ Below w.heap.size w w' := by
  have hb := Lib.fresh_isBuilder 43 5 w
  go_enter Tryd.func5, Tryd.ntmps5
  go_wp2
  refine wp_loop_rounds 1 ?_
  rw [rounds_succ]
  go_wp2_with fail
  refine (Tryd.Builder_String_any w.heap.size w.heap.size [] _ hb (by simp)).mono ?_
  rintro e w1 ⟨rfl, b1⟩
  go_wp2
  go_ret
  exact ⟨rfl, ((Below.refl _ _).alloc (Nat.le_refl _) _).trans b1⟩
theorem cells_ten (l : List UInt8) : Lib.byteCells l ++ [.int .u8 10] = Lib.byteCells (l ++ [10]) := by
  simp [Lib.byteCells]
theorem isB_below {T e : TypeId} {b : Nat} {p : Value} {bs : List Value} {w w' : World} (h : Lib.BuilderAt T e b b p bs w) (hb : Below w.heap.size w w') : Lib.BuilderAt T e b b p bs w' := by
  have hlt := h.lt
  obtain ⟨hB, v, hbk, hown, hne⟩ := h
  exact ⟨hB, v, by rw [hb.block b hlt]; exact hbk, lown_below hown hb, hne⟩
set_option maxHeartbeats 4000000 in
set_option maxRecDepth 20000 in
theorem print_anyI (p : Option Addr) (c N : Nat) (is : List I5) (w : World) (hN : is.length = N) (hc : InsAt w p is) (hn : N ≤ 60) (hz : ∀ i ∈ is, okI i) (henv : Env w) (hr : REnv w) (J : ByteArray) (hJ : ⟨(textP is).toArray⟩ = J) :
    Calls Tryd.prog 5 #[.slice p N c] w fun e w' => e = .returned (.string J) ∧ Below w.heap.size w w' := by
  rcases hc with h0 | ⟨b, off, rfl, hbl, hc⟩
  · obtain rfl : N = 0 := by omega
    obtain rfl : is = [] := List.length_eq_zero_iff.1 h0
    subst hJ
    exact print_noneI p c w
  have hcI : InsAt w (some ⟨b, off, none⟩) is := .inr ⟨b, off, rfl, hbl, hc⟩
  clear hc
  have HJ : Hid (⟨(textP is).toArray⟩ = J) := hJ
  have HZ : Hid (∀ i ∈ is, okI i) := hz
  have HN : Hid (is.length = N) := hN
  clear hJ hz hN
  go_enter Tryd.func5, Tryd.ntmps5
  go_wp2
  go_loopg [5, 8] N (fun gg _ s8 wr => ∃ (kk : Nat) (acc : List UInt8), kk ≤ N ∧ N - kk ≤ gg ∧ s8 = .int .i64 kk ∧ Aside (Below w.heap.size w wr) ∧ Lib.IsBuilder 43 5 w.heap.size w.heap.size (Lib.byteCells acc) wr ∧ Hid (acc = textP (is.take kk)) ∧ acc.length ≤ kk * 101)
  case atStart => exact ⟨0, [], Nat.zero_le _, by omega, rfl, (show Aside _ from (Below.refl _ w).alloc (Nat.le_refl _) _), Lib.fresh_isBuilder _ _ w, rfl, Nat.zero_le _⟩
  case round =>
    obtain ⟨kk, acc, hkk, hg, rfl, BW, hB, HA, hlen⟩ := hrel
    by_cases hlt : kk < N
    · have hltz : (kk : Int) < (N : Int) := by omega
      have k0 : (0 : Int) ≤ (kk : Int) := by omega
      have hk2 : kk < is.length := by rw [HN.out]; exact hlt
      obtain ⟨c0, c1, c2, c3, c4⟩ := ((hcI.on BW.out).resolve_left (by omega)).elim fun b1 h => h.elim fun o1 h => by
        obtain ⟨e, _, h⟩ := h
        cases e
        exact h kk hk2
      have HS : Hid (textP (is.take (kk + 1)) = textP (is.take kk) ++ lineP is[kk] ++ [10]) := text_step hk2
      have hyo := HZ.out _ (List.getElem_mem hk2)
      generalize is[kk] = y at c0 c1 c2 c3 c4 HS hyo
      obtain ⟨ya, yg, yt, yn, ys⟩ := y
      simp only at c0 c1 c2 c3 c4
      have hll := lineP_len hyo
      have hB2 := Bld.is_alloc hB (.cells #[.int .i64 ya, .int .i64 yg, .int .i64 yt, .int .i64 yn, .string ys] 27)
      have B2 := BW.out.alloc BW.out.size (.cells #[.int .i64 ya, .int .i64 yg, .int .i64 yt, .int .i64 yn, .string ys] 27)
      have cL := line_any (ya, yg, yt, yn, ys) _ hyo (henv.on B2) (hr.on B2)
      have hbl : w.heap.size < wr.heap.size := by
        rcases hB with h | h
        · exact h.lt
        · exact h.lt
      have hcl : (Lib.byteCells acc).length = acc.length := Lib.byteCells_length _
      clear hB
      have HS2 : Hid (textP (is.take (kk + 1)) = acc ++ lineP (ya, yg, yt, yn, ys) ++ [10]) := by
        show _ = _
        rw [HS.out, HA.out]
      clear HS HA hyo
      generalize lineP (ya, yg, yt, yn, ys) = X at cL HS2 hll
      have hXs := sizeL X
      go_wp2_with fail
      refine cL.mono ?_
      rintro e w1 ⟨rfl, b1⟩
      have B3 := B2.trans (b1.mono B2.size)
      have hB3 : Lib.IsBuilder 43 5 w.heap.size w.heap.size (Lib.byteCells acc) w1 := by
        rcases hB2 with h | h
        · exact .inl (isB_below h b1)
        · exact .inr (isB_below h b1)
      clear b1 B2 hB2 cL
      go_wp2_with fail
      refine (Bld.writeString w.heap.size w.heap.size _ ⟨X.toArray⟩ _ hB3 (by omega) B3.size).mono ?_
      rintro e w2 ⟨rfl, hB4, b4⟩
      have B4 := B3.trans b4
      rw [Bld.cells_app] at hB4
      clear b4 B3 hB3
      go_wp2_with fail
      refine (Bld.writeByte w.heap.size w.heap.size _ 10 _ (.inr hB4) (by rw [Lib.byteCells_length, List.length_append]; simp; omega) B4.size).mono ?_
      rintro e w3 ⟨rfl, hB5, b5, hk5⟩
      have B5 := B4.trans b5
      rw [cells_ten] at hB5
      clear b5 B4 hB4 hk5
      go_wp2
      go_roundg (N - (kk + 1))
      case measure => omega
      case rel => exact ⟨kk + 1, acc ++ X ++ [10], by omega, by omega, by go_num, B5, .inr hB5, HS2.out.symm, by rw [List.length_append, List.length_append, List.length_singleton]; omega⟩
    · have hltz : ¬ (kk : Int) < (N : Int) := by omega
      have HF : Hid ((⟨acc.toArray⟩ : ByteArray) = J) := by
        show _ = _
        rw [← HJ.out, HA.out, List.take_of_length_le (by have := HN.out; omega)]
      clear HJ HA
      go_wp2_with fail
      refine (Tryd.Builder_String_any w.heap.size w.heap.size acc _ hB BW.out.size).mono ?_
      rintro e w1 ⟨rfl, b1⟩
      rw [HF.out]
      go_wp2
      go_ret
      exact ⟨rfl, BW.out.trans b1⟩
end Go.Proofs.YtpgadbpkednjkaaDoor
