/-
  What line of package code says of any instruction.
-/
import Derived.Test.YtpgadbpkednjkaaDoorCdP
import Derived.Lib.LaidTab
import Derived.Lib.AppendIntMem
namespace Go.Proofs.YtpgadbpkednjkaaDoor
open Go.RowKit
set_option linter.unusedVariables false

theorem wordB (a b : ByteArray) (l m : List UInt8) (h1 : a.data.toList = l) (h2 : b.data.toList = m) : a ++ ⟨#[32]⟩ ++ b = ⟨(wordL l m).toArray⟩ := by
  apply ByteArray.ext
  apply Array.toList_inj.1
  simp [wordL, h1, h2]
theorem catB (a b : ByteArray) (l : List UInt8) (h : a.data.toList ++ b.data.toList = l) : a ++ b = ⟨l.toArray⟩ := by
  apply ByteArray.ext
  apply Array.toList_inj.1
  simp [h]
theorem sizeL (l : List UInt8) : (⟨l.toArray⟩ : ByteArray).size = l.length := by simp [ByteArray.size]
def insV (i : I5) : Value := .agg #[.int .i64 i.1, .int .i64 i.2.1, .int .i64 i.2.2.1, .int .i64 i.2.2.2.1, .string i.2.2.2.2]
set_option maxHeartbeats 4000000 in
theorem line_any (i : I5) (w : World) (hi : okI i) (henv : Env w) (hr : REnv w) :
    Calls Tryd.prog 13 #[insV i] w fun e w' => e = .returned (.string ⟨(lineP i).toArray⟩) ∧ Below w.heap.size w w' := by
  obtain ⟨a, g, t, n, s⟩ := i
  obtain ⟨h1, h2, h3⟩ := hi
  simp only at h1 h2 h3
  show Calls Tryd.prog _ #[Value.agg #[.int .i64 a, .int .i64 g, .int .i64 t, .int .i64 n, .string s]] w _
  obtain ⟨R, hR⟩ : ∃ R : ByteArray, ⟨(lineP (a, g, t, n, s)).toArray⟩ = R := ⟨_, rfl⟩
  rw [hR]
  have HR : Hid (⟨(lineP (a, g, t, n, s)).toArray⟩ = R) := hR
  clear hR
  have hB : ∀ o, Below w.heap.size w (w.alloc o) := fun o => (Below.refl _ _).alloc (Nat.le_refl _) o
  have hit := itoa_len90 h1
  by_cases a1 : a = 1
  · subst a1
    by_cases hc : chk t n s.data.toList = 0
    · have HR2 : Hid ((⟨(wordL [112, 117, 115, 104] (shown t n s.data.toList)).toArray⟩ : ByteArray) = R) := by
        show _ = _
        rw [← HR.out, lineP, if_pos rfl, if_neg (by simpa using hc)]
      have hps : prS t n s.data.toList = shown t n s.data.toList := by rw [prS, if_pos hc]
      have hsl := shown_len h2 hc
      have HC : Hid (chk t n s.data.toList = 0) := hc
      have hP := fun W hW => print_any t n s W h3 h2 hW
      rw [hps, hc] at hP
      generalize shown t n s.data.toList = X at *
      clear hc hps HR
      go_enter Tryd.func13, Tryd.ntmps13
      go_wp2_with fail
      refine (hP _ (henv.alloc _)).mono ?_
      rintro e w1 ⟨rfl, b1⟩
      go_wp2_with fail
      refine (worded_any _ _ _ _ (by decide) (by rw [sizeL]; omega)).mono ?_
      rintro e w2 ⟨rfl, rfl⟩
      go_wp2
      go_ret
      exact ⟨by rw [← HR2.out]; rfl, (hB _).trans (b1.mono (by simp))⟩
    · have HR2 : Hid ((⟨#[63]⟩ : ByteArray) = R) := by
        show _ = _
        rw [← HR.out, lineP, if_pos rfl, if_pos (by simpa using hc)]
      have hps : prS t n s.data.toList = [] := by rw [prS, if_neg hc]
      have hP := fun W hW => print_any t n s W h3 h2 hW
      rw [hps] at hP
      generalize chk t n s.data.toList = X at *
      clear hps HR
      go_enter Tryd.func13, Tryd.ntmps13
      go_wp2_with fail
      refine (hP _ (henv.alloc _)).mono ?_
      rintro e w1 ⟨rfl, b1⟩
      go_wp2_with fail
      refine (worded_any _ _ _ _ (by decide) (by rw [sizeL]; simp)).mono ?_
      rintro e w2 ⟨rfl, rfl⟩
      go_wp2
      go_ret
      exact ⟨by rw [← HR2.out]; rfl, (hB _).trans (b1.mono (by simp))⟩
  by_cases a3 : a = 3
  · subst a3
    have ho := opN_len g
    have hP := fun W hW => codeOp_any g W hW
    by_cases hc : opE g = 0
    · have HR2 : Hid ((⟨(wordL [100, 111] (opN g)).toArray⟩ : ByteArray) = R) := by
        show _ = _
        rw [← HR.out, lineP, if_neg a1, if_neg (show ¬ (3 : Int) = 2 by decide), if_pos rfl, if_neg (by simpa using hc)]
      rw [hc] at hP
      generalize opN g = X at *
      clear HR a1
      go_enter Tryd.func13, Tryd.ntmps13
      go_wp2_with fail
      refine (hP _ (hr.on (hB _))).mono ?_
      rintro e w1 ⟨rfl, b1⟩
      go_wp2_with fail
      refine (worded_any _ _ _ _ (by decide) (by rw [sizeL]; omega)).mono ?_
      rintro e w2 ⟨rfl, rfl⟩
      go_wp2
      go_ret
      exact ⟨by rw [← HR2.out]; rfl, (hB _).trans (b1.mono (by simp))⟩
    · have HR2 : Hid ((⟨#[63]⟩ : ByteArray) = R) := by
        show _ = _
        rw [← HR.out, lineP, if_neg a1, if_neg (show ¬ (3 : Int) = 2 by decide), if_pos rfl, if_pos (by simpa using hc)]
      generalize opN g = X at *
      generalize opE g = Y at *
      clear HR a1
      go_enter Tryd.func13, Tryd.ntmps13
      go_wp2_with fail
      refine (hP _ (hr.on (hB _))).mono ?_
      rintro e w1 ⟨rfl, b1⟩
      go_wp2_with fail
      refine (worded_any _ _ _ _ (by decide) (by rw [sizeL]; omega)).mono ?_
      rintro e w2 ⟨rfl, rfl⟩
      go_wp2
      go_ret
      exact ⟨by rw [← HR2.out]; rfl, (hB _).trans (b1.mono (by simp))⟩
  by_cases aj : a = 2 ∨ a = 4 ∨ a = 5
  · have hS := sizeL (Lib.itoa g)
    rcases aj with rfl | rfl | rfl
    · have HR2 : Hid (R.data.toList = wordL [108, 111, 97, 100] (Lib.itoa g)) := by
        show _ = _
        rw [← HR.out, lineP, if_neg a1, if_pos rfl]
      have hI := fun W hW => Tryd.strconv_Itoa g h1.1 h1.2 W hW
      have hsz : (⟨(Lib.itoa g).toArray⟩ : ByteArray).size ≤ 90 := by rw [hS]; omega
      have hsd : (⟨(Lib.itoa g).toArray⟩ : ByteArray).data.toList = Lib.itoa g := rfl
      generalize Lib.itoa g = X at *
      generalize (⟨X.toArray⟩ : ByteArray) = Y at *
      have HD : Hid (Y.data.toList = X) := hsd
      clear HR a1 a3 hS hsd
      go_enter Tryd.func13, Tryd.ntmps13
      go_wp2_with fail
      refine (hI _ (henv.alloc _).tab).mono ?_
      rintro e w1 ⟨rfl, hg1⟩
      have b1 := grow_below hg1
      clear hg1
      go_wp2
      go_ret
      have hF : (⟨#[108, 111, 97, 100, 32]⟩ : ByteArray) ++ Y = R := by
        apply ByteArray.ext
        apply Array.toList_inj.1
        rw [HR2.out]
        simp [wordL, HD.out]
      exact ⟨by rw [← hF]; rfl, (hB _).trans (b1.mono (by simp))⟩
    · have HR2 : Hid (R.data.toList = wordL [106, 117, 109, 112] (Lib.itoa g)) := by
        show _ = _
        rw [← HR.out, lineP, if_neg a1, if_neg (show ¬ (4 : Int) = 2 by decide), if_neg a3, if_pos rfl]
      have hI := fun W hW => Tryd.strconv_Itoa g h1.1 h1.2 W hW
      have hsz : (⟨(Lib.itoa g).toArray⟩ : ByteArray).size ≤ 90 := by rw [hS]; omega
      have hsd : (⟨(Lib.itoa g).toArray⟩ : ByteArray).data.toList = Lib.itoa g := rfl
      generalize Lib.itoa g = X at *
      generalize (⟨X.toArray⟩ : ByteArray) = Y at *
      have HD : Hid (Y.data.toList = X) := hsd
      clear HR a1 a3 hS hsd
      go_enter Tryd.func13, Tryd.ntmps13
      go_wp2_with fail
      refine (hI _ (henv.alloc _).tab).mono ?_
      rintro e w1 ⟨rfl, hg1⟩
      have b1 := grow_below hg1
      clear hg1
      go_wp2
      go_ret
      have hF : (⟨#[106, 117, 109, 112, 32]⟩ : ByteArray) ++ Y = R := by
        apply ByteArray.ext
        apply Array.toList_inj.1
        rw [HR2.out]
        simp [wordL, HD.out]
      exact ⟨by rw [← hF]; rfl, (hB _).trans (b1.mono (by simp))⟩
    · have HR2 : Hid (R.data.toList = wordL [101, 108, 115, 101] (Lib.itoa g)) := by
        show _ = _
        rw [← HR.out, lineP, if_neg a1, if_neg (show ¬ (5 : Int) = 2 by decide), if_neg a3, if_neg (show ¬ (5 : Int) = 4 by decide), if_pos rfl]
      have hI := fun W hW => Tryd.strconv_Itoa g h1.1 h1.2 W hW
      have hsz : (⟨(Lib.itoa g).toArray⟩ : ByteArray).size ≤ 90 := by rw [hS]; omega
      have hsd : (⟨(Lib.itoa g).toArray⟩ : ByteArray).data.toList = Lib.itoa g := rfl
      generalize Lib.itoa g = X at *
      generalize (⟨X.toArray⟩ : ByteArray) = Y at *
      have HD : Hid (Y.data.toList = X) := hsd
      clear HR a1 a3 hS hsd
      go_enter Tryd.func13, Tryd.ntmps13
      go_wp2_with fail
      refine (hI _ (henv.alloc _).tab).mono ?_
      rintro e w1 ⟨rfl, hg1⟩
      have b1 := grow_below hg1
      clear hg1
      go_wp2
      go_ret
      have hF : (⟨#[101, 108, 115, 101, 32]⟩ : ByteArray) ++ Y = R := by
        apply ByteArray.ext
        apply Array.toList_inj.1
        rw [HR2.out]
        simp [wordL, HD.out]
      exact ⟨by rw [← hF]; rfl, (hB _).trans (b1.mono (by simp))⟩
  have a2 : a ≠ 2 := by omega
  have a4 : a ≠ 4 := by omega
  have a5 : a ≠ 5 := by omega
  have HR2 : Hid ((⟨(if a = 6 then [107, 101, 101, 112] else if a = 7 then [100, 114, 111, 112] else [63] : List UInt8).toArray⟩ : ByteArray) = R) := by
    show _ = _
    rw [← HR.out]
    simp only [lineP, if_neg a1, if_neg a2, if_neg a3, if_neg a4, if_neg a5]
  clear HR aj
  by_cases a6 : a = 6
  · subst a6
    go_enter Tryd.func13, Tryd.ntmps13
    go_wp2
    go_ret
    exact ⟨by rw [← HR2.out]; rfl, hB _⟩
  by_cases a7 : a = 7
  · subst a7
    go_enter Tryd.func13, Tryd.ntmps13
    go_wp2
    go_ret
    exact ⟨by rw [← HR2.out]; rfl, hB _⟩
  · rw [if_neg a6, if_neg a7] at HR2
    go_enter Tryd.func13, Tryd.ntmps13
    go_wp2
    go_ret
    exact ⟨by rw [← HR2.out]; rfl, hB _⟩
end Go.Proofs.YtpgadbpkednjkaaDoor
