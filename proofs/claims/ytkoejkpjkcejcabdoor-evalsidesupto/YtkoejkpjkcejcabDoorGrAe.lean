/-
  CdRo, CdRf, in one text.
-/
import Derived.Test.YtkoejkpjkcejcabDoorGrAa
import Derived.Test.YtkoejkpjkcejcabDoorGrAc
import Derived.Test.YtkoejkpjkcejcabDoorGrAd
namespace Go.Proofs.YtkoejkpjkcejcabDoor
open Go.RowKit
set_option linter.unusedVariables false

set_option maxHeartbeats 2000000 in
theorem refOp_any (n : Int) (w : World) :
    Calls Tryd.prog 15 #[.int .i64 n] w fun e w' => e = .returned (.tuple #[.string ⟨(opN n).toArray⟩, .bool (opE n == 0)]) ∧ Below w.heap.size w w' := by
  by_cases h0 : 2 ≤ n ∧ n < 16
  · obtain ⟨k, rfl⟩ : ∃ k : Nat, n = k := ⟨n.toNat, by omega⟩
    have hk : k < opsS.length := by have : opsS.length = 17 := rfl; omega
    have z0 : ¬ (k : Int) < 2 := by omega
    have z1 : ¬ (16 : Int) ≤ (k : Int) := by omega
    have z2 : (0 : Int) ≤ (k : Int) := by omega
    have z3 : (k : Int) < 17 := by omega
    obtain ⟨f1, f2⟩ := opN_some (k := k) (by omega) hk
    rw [f1, f2]
    go_enter Tryd.func15, Tryd.ntmps15
    go_wp2_with fail
    refine (refOps_any w).mono ?_
    rintro e w1 ⟨⟨q, c, rfl, hst⟩, b1⟩
    obtain ⟨b, off, rfl, hbl, hcell⟩ := hst.out
    have c1 := hcell k hk
    go_wp2
    go_ret2
    exact ⟨rfl, b1⟩
  · obtain ⟨f1, f2⟩ := opN_none (n := n) (by omega)
    rw [f1, f2]
    by_cases hn : n < 2
    · go_enter Tryd.func15, Tryd.ntmps15
      go_wp2_with fail
      refine (refOps_any w).mono ?_
      rintro e w1 ⟨⟨q, c, rfl, hst⟩, b1⟩
      go_wp2
      go_ret2
      exact ⟨rfl, b1⟩
    · have hn2 : (16 : Int) ≤ n := by omega
      go_enter Tryd.func15, Tryd.ntmps15
      go_wp2_with fail
      refine (refOps_any w).mono ?_
      rintro e w1 ⟨⟨q, c, rfl, hst⟩, b1⟩
      go_wp2
      go_ret2
      exact ⟨rfl, b1⟩
end Go.Proofs.YtkoejkpjkcejcabDoor
namespace Go.Proofs.YtkoejkpjkcejcabDoor
open Go.RowKit
set_option linter.unusedVariables false

set_option maxHeartbeats 4000000 in
theorem refWord_any (i : I5) (w : World) (hi : okI i) :
    Calls Tryd.prog 13 #[insV i] w fun e w' => e = .returned (.string ⟨(lineP i).toArray⟩) ∧ Below w.heap.size w w' := by
  obtain ⟨a, g, t, n, s⟩ := i
  obtain ⟨h1, h2, h3⟩ := hi
  simp only at h1 h2 h3
  show Calls Tryd.prog _ #[Value.agg #[.int .i64 a, .int .i64 g, .int .i64 t, .int .i64 n, .string s]] w _
  obtain ⟨R, hR⟩ : ∃ R : ByteArray, ⟨(lineP (a, g, t, n, s)).toArray⟩ = R := ⟨_, rfl⟩
  rw [hR]
  have HR : Hid (⟨(lineP (a, g, t, n, s)).toArray⟩ = R) := hR
  clear hR
  have hB : ∀ o, Below w.heap.size w (w.alloc o) := fun o => (Below.refl _ _).alloc (Nat.le_refl _) o
  have hit := itoa_len90 h1
  by_cases a1 : a = 1
  · subst a1
    by_cases hc : chk t n s.data.toList = 0
    · have HR2 : Hid ((⟨(wordL [112, 117, 115, 104] (shown t n s.data.toList)).toArray⟩ : ByteArray) = R) := by
        show _ = _
        rw [← HR.out, lineP, if_pos rfl, if_neg (by simpa using hc)]
      have hsl := shown_len h2 hc
      have cV := fun W => refVal_any t n s W h3
      have cS := fun W => show_any t n s W h2 hc
      rw [hc] at cV
      generalize shown t n s.data.toList = X at *
      have hXs := sizeL X
      have HX : Hid ((⟨X.toArray⟩ : ByteArray).data.toList = X) := rfl
      generalize (⟨X.toArray⟩ : ByteArray) = Y at *
      clear hc HR
      go_enter Tryd.func13, Tryd.ntmps13
      go_wp2_with fail
      refine (Digits_any g _ h1).mono ?_
      rintro e w1 ⟨rfl, rfl⟩
      go_wp2_with fail
      refine (cV _).mono ?_
      rintro e w1 ⟨rfl, b1⟩
      obtain ⟨hcc, hff⟩ := bcell b1
      have hy : w.heap.size < w1.heap.size := by have := b1.size; simp at this; omega
      go_wp2_with fail
      refine (cS _).mono ?_
      rintro e w2 ⟨rfl, b2⟩
      go_wp2
      go_ret
      have hF : (⟨#[112, 117, 115, 104, 32]⟩ : ByteArray) ++ Y = R := by
        apply ByteArray.ext
        apply Array.toList_inj.1
        rw [← HR2.out]
        simp [wordL, HX.out]
      exact ⟨by rw [← hF]; rfl, (hB _).trans ((b1.mono (by simp)).trans (b2.mono (by omega)))⟩
    · have HR2 : Hid ((⟨#[63]⟩ : ByteArray) = R) := by
        show _ = _
        rw [← HR.out, lineP, if_pos rfl, if_pos (by simpa using hc)]
      have cV := fun W => refVal_any t n s W h3
      generalize chk t n s.data.toList = X at *
      have hXb : (X != 0) = true := by simpa using hc
      clear HR hc
      go_enter Tryd.func13, Tryd.ntmps13
      go_wp2_with fail
      refine (Digits_any g _ h1).mono ?_
      rintro e w1 ⟨rfl, rfl⟩
      go_wp2_with fail
      refine (cV _).mono ?_
      rintro e w1 ⟨rfl, b1⟩
      go_wp2
      go_ret
      exact ⟨by rw [← HR2.out]; rfl, (hB _).trans (b1.mono (by simp))⟩
  by_cases a3 : a = 3
  · subst a3
    have ho := opN_len g
    have hP := fun W => refOp_any g W
    by_cases hc : opE g = 0
    · have HR2 : Hid ((⟨(wordL [100, 111] (opN g)).toArray⟩ : ByteArray) = R) := by
        show _ = _
        rw [← HR.out, lineP, if_neg a1, if_neg (show ¬ (3 : Int) = 2 by decide), if_pos rfl, if_neg (by simpa using hc)]
      rw [hc] at hP
      generalize opN g = X at *
      have hXs := sizeL X
      have HX : Hid ((⟨X.toArray⟩ : ByteArray).data.toList = X) := rfl
      generalize (⟨X.toArray⟩ : ByteArray) = Y at *
      clear HR a1
      go_enter Tryd.func13, Tryd.ntmps13
      go_wp2_with fail
      refine (Digits_any g _ h1).mono ?_
      rintro e w1 ⟨rfl, rfl⟩
      go_wp2_with fail
      refine (hP _).mono ?_
      rintro e w1 ⟨rfl, b1⟩
      go_wp2
      go_ret
      have hF : (⟨#[100, 111, 32]⟩ : ByteArray) ++ Y = R := by
        apply ByteArray.ext
        apply Array.toList_inj.1
        rw [← HR2.out]
        simp [wordL, HX.out]
      exact ⟨by rw [← hF]; rfl, (hB _).trans (b1.mono (by simp))⟩
    · have HR2 : Hid ((⟨#[63]⟩ : ByteArray) = R) := by
        show _ = _
        rw [← HR.out, lineP, if_neg a1, if_neg (show ¬ (3 : Int) = 2 by decide), if_pos rfl, if_pos (by simpa using hc)]
      have hq : (opE g == 0) = false := by simpa using hc
      rw [hq] at hP
      generalize opN g = X at *
      clear HR a1
      go_enter Tryd.func13, Tryd.ntmps13
      go_wp2_with fail
      refine (Digits_any g _ h1).mono ?_
      rintro e w1 ⟨rfl, rfl⟩
      go_wp2_with fail
      refine (hP _).mono ?_
      rintro e w1 ⟨rfl, b1⟩
      go_wp2
      go_ret
      exact ⟨by rw [← HR2.out]; rfl, (hB _).trans (b1.mono (by simp))⟩
  by_cases aj : a = 2 ∨ a = 4 ∨ a = 5
  · have hS := sizeL (Lib.itoa g)
    rcases aj with rfl | rfl | rfl
    · have HR2 : Hid (R.data.toList = wordL [108, 111, 97, 100] (Lib.itoa g)) := by
        show _ = _
        rw [← HR.out, lineP, if_neg a1, if_pos rfl]
      have hI := fun W => Digits_any g W h1
      have hsz : (⟨(Lib.itoa g).toArray⟩ : ByteArray).size ≤ 90 := by rw [hS]; omega
      have hsd : (⟨(Lib.itoa g).toArray⟩ : ByteArray).data.toList = Lib.itoa g := rfl
      generalize Lib.itoa g = X at *
      generalize (⟨X.toArray⟩ : ByteArray) = Y at *
      have HD : Hid (Y.data.toList = X) := hsd
      clear HR a1 a3 hS hsd
      go_enter Tryd.func13, Tryd.ntmps13
      go_wp2_with fail
      refine (hI _).mono ?_
      rintro e w1 ⟨rfl, rfl⟩
      go_wp2
      go_ret
      have hF : (⟨#[108, 111, 97, 100, 32]⟩ : ByteArray) ++ Y = R := by
        apply ByteArray.ext
        apply Array.toList_inj.1
        rw [HR2.out]
        simp [wordL, HD.out]
      exact ⟨by rw [← hF]; rfl, hB _⟩
    · have HR2 : Hid (R.data.toList = wordL [106, 117, 109, 112] (Lib.itoa g)) := by
        show _ = _
        rw [← HR.out, lineP, if_neg a1, if_neg (show ¬ (4 : Int) = 2 by decide), if_neg a3, if_pos rfl]
      have hI := fun W => Digits_any g W h1
      have hsz : (⟨(Lib.itoa g).toArray⟩ : ByteArray).size ≤ 90 := by rw [hS]; omega
      have hsd : (⟨(Lib.itoa g).toArray⟩ : ByteArray).data.toList = Lib.itoa g := rfl
      generalize Lib.itoa g = X at *
      generalize (⟨X.toArray⟩ : ByteArray) = Y at *
      have HD : Hid (Y.data.toList = X) := hsd
      clear HR a1 a3 hS hsd
      go_enter Tryd.func13, Tryd.ntmps13
      go_wp2_with fail
      refine (hI _).mono ?_
      rintro e w1 ⟨rfl, rfl⟩
      go_wp2
      go_ret
      have hF : (⟨#[106, 117, 109, 112, 32]⟩ : ByteArray) ++ Y = R := by
        apply ByteArray.ext
        apply Array.toList_inj.1
        rw [HR2.out]
        simp [wordL, HD.out]
      exact ⟨by rw [← hF]; rfl, hB _⟩
    · have HR2 : Hid (R.data.toList = wordL [101, 108, 115, 101] (Lib.itoa g)) := by
        show _ = _
        rw [← HR.out, lineP, if_neg a1, if_neg (show ¬ (5 : Int) = 2 by decide), if_neg a3, if_neg (show ¬ (5 : Int) = 4 by decide), if_pos rfl]
      have hI := fun W => Digits_any g W h1
      have hsz : (⟨(Lib.itoa g).toArray⟩ : ByteArray).size ≤ 90 := by rw [hS]; omega
      have hsd : (⟨(Lib.itoa g).toArray⟩ : ByteArray).data.toList = Lib.itoa g := rfl
      generalize Lib.itoa g = X at *
      generalize (⟨X.toArray⟩ : ByteArray) = Y at *
      have HD : Hid (Y.data.toList = X) := hsd
      clear HR a1 a3 hS hsd
      go_enter Tryd.func13, Tryd.ntmps13
      go_wp2_with fail
      refine (hI _).mono ?_
      rintro e w1 ⟨rfl, rfl⟩
      go_wp2
      go_ret
      have hF : (⟨#[101, 108, 115, 101, 32]⟩ : ByteArray) ++ Y = R := by
        apply ByteArray.ext
        apply Array.toList_inj.1
        rw [HR2.out]
        simp [wordL, HD.out]
      exact ⟨by rw [← hF]; rfl, hB _⟩
  have a2 : a ≠ 2 := by omega
  have a4 : a ≠ 4 := by omega
  have a5 : a ≠ 5 := by omega
  have HR2 : Hid ((⟨(if a = 6 then [107, 101, 101, 112] else if a = 7 then [100, 114, 111, 112] else [63] : List UInt8).toArray⟩ : ByteArray) = R) := by
    show _ = _
    rw [← HR.out]
    simp only [lineP, if_neg a1, if_neg a2, if_neg a3, if_neg a4, if_neg a5]
  clear HR aj
  by_cases a6 : a = 6
  · subst a6
    go_enter Tryd.func13, Tryd.ntmps13
    go_wp2_with fail
    refine (Digits_any g _ h1).mono ?_
    rintro e w1 ⟨rfl, rfl⟩
    go_wp2
    go_ret
    exact ⟨by rw [← HR2.out]; rfl, hB _⟩
  by_cases a7 : a = 7
  · subst a7
    go_enter Tryd.func13, Tryd.ntmps13
    go_wp2_with fail
    refine (Digits_any g _ h1).mono ?_
    rintro e w1 ⟨rfl, rfl⟩
    go_wp2
    go_ret
    exact ⟨by rw [← HR2.out]; rfl, hB _⟩
  · rw [if_neg a6, if_neg a7] at HR2
    go_enter Tryd.func13, Tryd.ntmps13
    go_wp2_with fail
    refine (Digits_any g _ h1).mono ?_
    rintro e w1 ⟨rfl, rfl⟩
    go_wp2
    go_ret
    exact ⟨by rw [← HR2.out]; rfl, hB _⟩
end Go.Proofs.YtkoejkpjkcejcabDoor
