/-
  Lex1, Lex2, ErrIs, Lex3, Lex4, Clone, Lex5, in one text.
-/
import Derived.Test.YtnpinbpjfngknaaGreatDoorLo2
import Derived.Lib.OthersKept
import Derived.Laws.RangeAny
import Derived.Deep.DeepCutAuto
import Derived.WalkSmall
import Derived.Test.YtnpinbpjfngknaaGreatDoorProg
import Derived.WalkKit
import Derived.Below
import Derived.LaidEql
import Derived.Stop.Asserts
import Derived.RowKitTokens
import Derived.Test.YtnpinbpjfngknaaGreatDoorShelf
import Derived.Test.YtnpinbpjfngknaaGreatDoorLoQ
import Derived.Deep.RegionWith
namespace Go.Proofs.YtnpinbpjfngknaaGreatDoor
open Go.RowKit
set_option linter.unusedVariables false

theorem isBlank_any (c : UInt8) (w : World) : Calls Tryz.prog 42 #[.int .u8 (c.toNat : Int)] w fun e w' => e = .returned (.bool (blB c)) ∧ w' = w := by
  obtain ⟨B, hB⟩ : ∃ B, blB c = B := ⟨_, rfl⟩
  rw [hB]
  rw [blB] at hB
  obtain ⟨n, hn⟩ : ∃ n : Int, (c.toNat : Int) = n := ⟨_, rfl⟩
  rw [hn] at hB ⊢
  clear hn
  by_cases h1 : n = 32
  · subst h1
    obtain rfl : true = B := hB
    go_enter Tryz.func42, Tryz.ntmps42
    go_wp2
    go_ret
    exact ⟨rfl, rfl⟩
  · have q1 : (n == 32) = false := by simpa using h1
    by_cases h2 : n = 10
    · subst h2
      obtain rfl : true = B := hB
      go_enter Tryz.func42, Tryz.ntmps42
      go_wp2
      go_ret
      exact ⟨rfl, rfl⟩
    · have q2 : (n == 10) = false := by simpa using h2
      have hB2 : false = B := by rw [← hB]; simp [h1, h2]
      subst hB2
      clear hB h1 h2
      go_enter Tryz.func42, Tryz.ntmps42
      go_wp2
      go_ret
      exact ⟨rfl, rfl⟩
theorem isLetter_any (c : UInt8) (w : World) : Calls Tryz.prog 65 #[.int .u8 (c.toNat : Int)] w fun e w' => e = .returned (.bool (letB c)) ∧ w' = w := by
  obtain ⟨B, hB⟩ : ∃ B, letB c = B := ⟨_, rfl⟩
  have HB : Hid (letB c = B) := hB
  rw [hB]
  clear hB
  go_enter Tryz.func65, Tryz.ntmps65
  go_wp2
  all_goals
    go_ret
    refine ⟨ret_bool ?_, rfl⟩
    rw [← HB.out, letB]
    simp
    try omega
theorem isDigit_any (c : UInt8) (w : World) : Calls Tryz.prog 67 #[.int .u8 (c.toNat : Int)] w fun e w' => e = .returned (.bool (digB c)) ∧ w' = w := by
  obtain ⟨B, hB⟩ : ∃ B, digB c = B := ⟨_, rfl⟩
  have HB : Hid (digB c = B) := hB
  rw [hB]
  clear hB
  go_enter Tryz.func67, Tryz.ntmps67
  go_wp2
  all_goals
    go_ret
    refine ⟨ret_bool ?_, rfl⟩
    rw [← HB.out, digB]
    simp
    try omega
theorem isLod_any (c : UInt8) (w : World) : Calls Tryz.prog 66 #[.int .u8 (c.toNat : Int)] w fun e w' => e = .returned (.bool (ldB c)) ∧ w' = w := by
  have cL := isLetter_any c
  have cD := isDigit_any c
  have HB : Hid (ldB c = (letB c || digB c)) := rfl
  cases h1 : letB c
  · rw [h1] at cL
    cases h2 : digB c
    · rw [h2] at cD
      have HC : ldB c = false := by rw [ldB, h1, h2]; rfl
      rw [HC]
      clear HC HB h1 h2
      go_enter Tryz.func66, Tryz.ntmps66
      go_wp2_with (first | (go_at_call 65; refine (cL _).mono ?_; rintro e w' ⟨rfl, rfl⟩) | (go_at_call 67; refine (cD _).mono ?_; rintro e w' ⟨rfl, rfl⟩))
      go_ret
      exact ⟨rfl, rfl⟩
    · rw [h2] at cD
      have HC : ldB c = true := by rw [ldB, h1, h2]; rfl
      rw [HC]
      clear HC HB h1 h2
      go_enter Tryz.func66, Tryz.ntmps66
      go_wp2_with (first | (go_at_call 65; refine (cL _).mono ?_; rintro e w' ⟨rfl, rfl⟩) | (go_at_call 67; refine (cD _).mono ?_; rintro e w' ⟨rfl, rfl⟩))
      go_ret
      exact ⟨rfl, rfl⟩
  · rw [h1] at cL
    have HC : ldB c = true := by rw [ldB, h1]; rfl
    rw [HC]
    clear HC HB h1
    go_enter Tryz.func66, Tryz.ntmps66
    go_wp2_with (first | (go_at_call 65; refine (cL _).mono ?_; rintro e w' ⟨rfl, rfl⟩))
    go_ret
    exact ⟨rfl, rfl⟩
theorem goN_step {p : UInt8 → Bool} {s : ByteArray} {k : Nat} (h : k < s.size) (hp : p s[k] = true) {E : Nat} (hE : E = k + goN p (s.data.toList.drop k)) : E = k + 1 + goN p (s.data.toList.drop (k + 1)) := by
  rw [hE, drop_cons s k h, goN_yes _ hp]; omega
theorem goN_here {p : UInt8 → Bool} {s : ByteArray} {k : Nat} (h : k < s.size) (hp : p s[k] = false) {E : Nat} (hE : E = k + goN p (s.data.toList.drop k)) : E = k := by
  rw [hE, drop_cons s k h, goN_no _ hp]; rfl
theorem goN_out {p : UInt8 → Bool} {s : ByteArray} {k : Nat} (h : s.size ≤ k) (hk : k ≤ s.size) {E : Nat} (hE : E = k + goN p (s.data.toList.drop k)) : E = s.size := by
  rw [hE, List.drop_eq_nil_of_le (by simp; omega)]; show k + 0 = _; omega
set_option maxHeartbeats 1000000 in
theorem goesOn_gen (f : FuncId) (p : UInt8 → Bool) (hent : ∀ (args : Array Value) (W : World), Sem.run Tryz.prog (callFunc f args) W = .ok (.enter f args) W) (hf : ∀ (c : UInt8) (W : World), Calls Tryz.prog f #[.int .u8 (c.toNat : Int)] W fun e w' => e = .returned (.bool (p c)) ∧ w' = W) (s : ByteArray) (w : World) (hs : s.size ≤ maxLen) :
    Calls Tryz.prog 41 #[.string s, .func (.func f) #[] #[]] w fun e w' => e = .returned (.int .i64 (goN p s.data.toList : Nat)) ∧ w' = w := by
  unfold maxLen at hs
  obtain ⟨E, hE⟩ : ∃ E, goN p s.data.toList = E := ⟨_, rfl⟩
  rw [hE]
  go_enter Tryz.func41, Tryz.ntmps41
  go_wp2
  go_loopg [5, 8] s.size (fun gg _ s8 wr => ∃ kk : Nat, kk ≤ s.size ∧ s.size - kk ≤ gg ∧ s8 = .int .i64 kk ∧ wr = w ∧ Hid (E = kk + goN p (s.data.toList.drop kk)))
  case atStart => exact ⟨0, Nat.zero_le _, by omega, rfl, rfl, (show Hid _ by simp [Hid, hE])⟩
  case round =>
    obtain ⟨kk, hkk, hg, rfl, rfl, HE⟩ := hrel
    by_cases hlt : kk < s.size
    · have hltz : (kk : Int) < (s.size : Int) := by omega
      have hcall := hf s[kk]
      cases hp : p s[kk]
      · rw [hp] at hcall
        obtain rfl : kk = E := (goN_here hlt hp HE.out).symm
        clear hp HE
        go_wp2_with fail
        refine (hcall _).mono ?_
        rintro e w' ⟨rfl, rfl⟩
        go_wp2
        go_ret
        exact ⟨rfl, rfl⟩
      · rw [hp] at hcall
        have HE2 : Hid (E = kk + 1 + goN p (s.data.toList.drop (kk + 1))) := goN_step hlt hp HE.out
        clear hp HE
        go_wp2_with fail
        refine (hcall _).mono ?_
        rintro e w' ⟨rfl, rfl⟩
        go_wp2
        go_roundg (s.size - (kk + 1))
        case measure => omega
        case rel => exact ⟨kk + 1, by omega, by omega, by go_num, rfl, HE2⟩
    · have hltz : ¬ (kk : Int) < (s.size : Int) := by omega
      obtain rfl : s.size = E := (goN_out (by omega) hkk HE.out).symm
      go_wp2
      go_ret
      exact ⟨rfl, rfl⟩
theorem goesOn_blank (s : ByteArray) (w : World) (hs : s.size ≤ maxLen) :
    Calls Tryz.prog 41 #[.string s, .func (.func 42) #[] #[]] w fun e w' => e = .returned (.int .i64 (goN blB s.data.toList : Nat)) ∧ w' = w :=
  goesOn_gen _ blB (fun args W => by kernel_rfl) isBlank_any s w hs
theorem goesOn_digit (s : ByteArray) (w : World) (hs : s.size ≤ maxLen) :
    Calls Tryz.prog 41 #[.string s, .func (.func 67) #[] #[]] w fun e w' => e = .returned (.int .i64 (goN digB s.data.toList : Nat)) ∧ w' = w :=
  goesOn_gen _ digB (fun args W => by kernel_rfl) isDigit_any s w hs
theorem goesOn_lod (s : ByteArray) (w : World) (hs : s.size ≤ maxLen) :
    Calls Tryz.prog 41 #[.string s, .func (.func 66) #[] #[]] w fun e w' => e = .returned (.int .i64 (goN ldB s.data.toList : Nat)) ∧ w' = w :=
  goesOn_gen _ ldB (fun args W => by kernel_rfl) isLod_any s w hs
end Go.Proofs.YtnpinbpjfngknaaGreatDoor
namespace Go.Proofs.YtnpinbpjfngknaaGreatDoor
open Go.RowKit
set_option linter.unusedVariables false

/-- The signs, as the package's variable holds them. -/
structure SG (w : World) : Prop where
  c0 : w.cell? ⟨2, 0, none⟩ = some (.string ⟨#[60, 62]⟩)
  c1 : w.cell? ⟨2, 1, none⟩ = some (.string ⟨#[60, 61]⟩)
  c2 : w.cell? ⟨2, 2, none⟩ = some (.string ⟨#[62, 61]⟩)
  c3 : w.cell? ⟨2, 3, none⟩ = some (.string ⟨#[60]⟩)
  c4 : w.cell? ⟨2, 4, none⟩ = some (.string ⟨#[62]⟩)
  c5 : w.cell? ⟨2, 5, none⟩ = some (.string ⟨#[61]⟩)
  c6 : w.cell? ⟨2, 6, none⟩ = some (.string ⟨#[40]⟩)
  c7 : w.cell? ⟨2, 7, none⟩ = some (.string ⟨#[41]⟩)
  c8 : w.cell? ⟨2, 8, none⟩ = some (.string ⟨#[44]⟩)
  c9 : w.cell? ⟨2, 9, none⟩ = some (.string ⟨#[43]⟩)
  c10 : w.cell? ⟨2, 10, none⟩ = some (.string ⟨#[45]⟩)
  c11 : w.cell? ⟨2, 11, none⟩ = some (.string ⟨#[42]⟩)
  c12 : w.cell? ⟨2, 12, none⟩ = some (.string ⟨#[47]⟩)
  c13 : w.cell? ⟨2, 13, none⟩ = some (.string ⟨#[37]⟩)
  lt : 2 < w.heap.size
theorem SG.on {w w' : World} (h : SG w) (hb : Below w.heap.size w w') : SG w' := by
  have hl := h.lt
  have hz := hb.size
  have key : ∀ o : Nat, w'.cell? ⟨2, o, none⟩ = w.cell? ⟨2, o, none⟩ := fun o => hb.cell (p := ⟨2, o, none⟩) hl
  refine ⟨?_, ?_, ?_, ?_, ?_, ?_, ?_, ?_, ?_, ?_, ?_, ?_, ?_, ?_, by omega⟩
  · rw [key]; exact h.c0
  · rw [key]; exact h.c1
  · rw [key]; exact h.c2
  · rw [key]; exact h.c3
  · rw [key]; exact h.c4
  · rw [key]; exact h.c5
  · rw [key]; exact h.c6
  · rw [key]; exact h.c7
  · rw [key]; exact h.c8
  · rw [key]; exact h.c9
  · rw [key]; exact h.c10
  · rw [key]; exact h.c11
  · rw [key]; exact h.c12
  · rw [key]; exact h.c13
theorem SG.alloc {w : World} (h : SG w) (o : Obj) : SG (w.alloc o) := h.on ((Below.refl _ _).alloc (Nat.le_refl _) o)
theorem sgN_hit {l g : List UInt8} {k : Nat} (hk : k < signsL.length) (hg : signsL[k] = g) (hp : Lib.hasPrefix l g = true) {E : Nat} (hE : E = sgN (signsL.drop k) l) : E = g.length := by
  rw [hE, List.drop_eq_getElem_cons hk, sgN, hg, if_pos hp]
theorem sgN_next {l g : List UInt8} {k : Nat} (hk : k < signsL.length) (hg : signsL[k] = g) (hp : Lib.hasPrefix l g = false) {E : Nat} (hE : E = sgN (signsL.drop k) l) : E = sgN (signsL.drop (k + 1)) l := by
  rw [hE, List.drop_eq_getElem_cons hk, sgN, hg, if_neg (by rw [hp]; decide)]
theorem sign_at (k : Nat) (hk : k < 14) : ∃ S : ByteArray, (∀ W : World, Sem.run Tryz.prog (Instr.index 137 (.agg #[.string ⟨#[60, 62]⟩, .string ⟨#[60, 61]⟩, .string ⟨#[62, 61]⟩, .string ⟨#[60]⟩, .string ⟨#[62]⟩, .string ⟨#[61]⟩, .string ⟨#[40]⟩, .string ⟨#[41]⟩, .string ⟨#[44]⟩, .string ⟨#[43]⟩, .string ⟨#[45]⟩, .string ⟨#[42]⟩, .string ⟨#[47]⟩, .string ⟨#[37]⟩]) (.int .i64 (k : Int))) W = .ok (.string S) W) ∧ signsL[k]'hk = S.data.toList ∧ 1 ≤ S.size ∧ S.size ≤ 2 := by
  have h : k = 0 ∨ k = 1 ∨ k = 2 ∨ k = 3 ∨ k = 4 ∨ k = 5 ∨ k = 6 ∨ k = 7 ∨ k = 8 ∨ k = 9 ∨ k = 10 ∨ k = 11 ∨ k = 12 ∨ k = 13 := by omega
  rcases h with rfl | rfl | rfl | rfl | rfl | rfl | rfl | rfl | rfl | rfl | rfl | rfl | rfl | rfl
  · exact ⟨⟨#[60, 62]⟩, fun W => by kernel_rfl, rfl, by decide, by decide⟩
  · exact ⟨⟨#[60, 61]⟩, fun W => by kernel_rfl, rfl, by decide, by decide⟩
  · exact ⟨⟨#[62, 61]⟩, fun W => by kernel_rfl, rfl, by decide, by decide⟩
  · exact ⟨⟨#[60]⟩, fun W => by kernel_rfl, rfl, by decide, by decide⟩
  · exact ⟨⟨#[62]⟩, fun W => by kernel_rfl, rfl, by decide, by decide⟩
  · exact ⟨⟨#[61]⟩, fun W => by kernel_rfl, rfl, by decide, by decide⟩
  · exact ⟨⟨#[40]⟩, fun W => by kernel_rfl, rfl, by decide, by decide⟩
  · exact ⟨⟨#[41]⟩, fun W => by kernel_rfl, rfl, by decide, by decide⟩
  · exact ⟨⟨#[44]⟩, fun W => by kernel_rfl, rfl, by decide, by decide⟩
  · exact ⟨⟨#[43]⟩, fun W => by kernel_rfl, rfl, by decide, by decide⟩
  · exact ⟨⟨#[45]⟩, fun W => by kernel_rfl, rfl, by decide, by decide⟩
  · exact ⟨⟨#[42]⟩, fun W => by kernel_rfl, rfl, by decide, by decide⟩
  · exact ⟨⟨#[47]⟩, fun W => by kernel_rfl, rfl, by decide, by decide⟩
  · exact ⟨⟨#[37]⟩, fun W => by kernel_rfl, rfl, by decide, by decide⟩
set_option maxHeartbeats 4000000 in
set_option maxRecDepth 20000 in
theorem signAhead_any (s : ByteArray) (w : World) (hw : SG w) :
    Calls Tryz.prog 70 #[.string s] w fun e w' => e = .returned (.tuple #[.int .i64 (sgN signsL s.data.toList : Nat), .int .i64 (if sgN signsL s.data.toList = 0 then 2 else 0)]) ∧ w' = w := by
  obtain ⟨E, hE⟩ : ∃ E, sgN signsL s.data.toList = E := ⟨_, rfl⟩
  rw [hE]
  obtain ⟨Z, hZ⟩ : ∃ Z : Int, (if E = 0 then 2 else 0) = Z := ⟨_, rfl⟩
  rw [hZ]
  have HZ : Hid ((if E = 0 then 2 else 0) = Z) := hZ
  have HE0 : Hid (sgN signsL s.data.toList = E) := hE
  clear hZ hE
  obtain ⟨g0, g1, g2, g3, g4, g5, g6, g7, g8, g9, g10, g11, g12, g13, gl⟩ := hw
  go_enter Tryz.func70, Tryz.ntmps70
  go_wp2
  go_loopg [5, 7] 14 (fun gg _ s7 wr => ∃ kk : Nat, kk ≤ 14 ∧ 14 - kk ≤ gg ∧ s7 = .int .i64 kk ∧ wr = w ∧ Hid (E = sgN (signsL.drop kk) s.data.toList))
  case atStart => exact ⟨0, Nat.zero_le _, by omega, rfl, rfl, HE0.out.symm⟩
  case round =>
    obtain ⟨kk, hkk, hg, rfl, rfl, HE⟩ := hrel
    by_cases hlt : kk < 14
    · have hltz : (kk : Int) < 14 := by omega
      obtain ⟨S, hS, hS1, hS2, hS3⟩ := sign_at kk hlt
      have cP := fun W => Tryz.strings_HasPrefix s S W
      cases hp : Lib.hasPrefix s.data.toList S.data.toList
      · rw [hp] at cP
        have HE2 : Hid (E = sgN (signsL.drop (kk + 1)) s.data.toList) := sgN_next hlt hS1 hp HE.out
        clear hp HE hS1 g0 g1 g2 g3 g4 g5 g6 g7 g8 g9 g10 g11 g12 g13
        go_wp2_with fail
        refine (cP _).mono ?_
        rintro e w' ⟨rfl, rfl⟩
        go_wp2
        go_roundg (14 - (kk + 1))
        case measure => omega
        case rel => exact ⟨kk + 1, by omega, by omega, by go_num, rfl, HE2⟩
      · rw [hp] at cP
        have HE2 : E = S.size := by rw [sgN_hit hlt hS1 hp HE.out, Lib.size_eq]
        have HE3 : Hid (E = S.size) := HE2
        clear hp HE hS1 HE2 g0 g1 g2 g3 g4 g5 g6 g7 g8 g9 g10 g11 g12 g13
        go_wp2_with fail
        refine (cP _).mono ?_
        rintro e w' ⟨rfl, rfl⟩
        go_wp2
        go_ret2
        refine ⟨?_, rfl⟩
        have hz := HZ.out
        rw [HE3.out, if_neg (by omega)] at hz
        rw [HE3.out, ← hz]
        rfl
    · have hltz : ¬ (kk : Int) < 14 := by omega
      have HE2 : E = 0 := by
        rw [HE.out, List.drop_eq_nil_of_le (by show 14 ≤ kk; omega)]; rfl
      subst HE2
      have hz : 2 = Z := by have := HZ.out; rwa [if_pos rfl] at this
      subst hz
      clear HE HZ HE0 g0 g1 g2 g3 g4 g5 g6 g7 g8 g9 g10 g11 g12 g13
      go_wp2
      go_ret2
      exact ⟨rfl, rfl⟩
theorem parse_val : ∀ (l : List UInt8) (a u : Nat), l.all digB = true → Lib.parseUint10 a l = .ok u → u = l.foldl (fun a c => a * 10 + (c.toNat - 48)) a
  | [], a, u, _, h => by
    simp only [Lib.parseUint10] at h
    injection h with h
    exact h.symm
  | c :: r, a, u, ha, h => by
    rw [List.all_cons, Bool.and_eq_true] at ha
    simp only [Lib.parseUint10] at h
    split at h
    · split at h
      · cases h
      · split at h
        · cases h
        · exact parse_val r _ u ha.2 h
    · cases h
theorem atoi_dig {t : List UInt8} (hne : t ≠ []) (ha : t.all digB = true) (hz : ¬ (1 < t.length ∧ t.head? = some 48)) : (val10 t ≤ 9223372036854775807 → Lib.atoiAll t = .ok (val10 t : Nat)) ∧ (9223372036854775807 < val10 t → ∀ n, Lib.atoiAll t ≠ .ok n) := by
  constructor
  · intro hv
    have hl : t.length ≠ 0 := fun e => hne (List.length_eq_zero_iff.1 e)
    have hd := dec_val (t.length - 1) t (by omega) ha (fun r e => Classical.byContradiction fun hr => hz ⟨by rw [e]; cases r with | nil => exact absurd rfl hr | cons _ _ => simp, by rw [e]; rfl⟩)
    have hi : Lib.itoa (val10 t : Nat) = t := by rw [Lib.itoa, if_neg (by omega), show ((val10 t : Nat) : Int).toNat = val10 t from by omega, hd]
    have := atoi_itoa (val10 t : Nat) (by omega)
    rwa [hi] at this
  · intro hv n hn
    cases t with
    | nil => exact hne rfl
    | cons c r =>
      have hc := (digB_iff c).1 (by rw [List.all_cons, Bool.and_eq_true] at ha; exact ha.1)
      simp only [Lib.atoiAll] at hn
      rw [if_neg (by omega)] at hn
      split at hn
      · cases hn
      · cases hn
      · rename_i u hu
        rw [Lib.parseMag, if_neg (by simp)] at hu
        have hu2 : u = val10 (c :: r) := parse_val _ 0 u ha hu
        rw [if_pos ⟨by omega, by omega⟩] at hn
        cases hn
theorem slice_to (s : ByteArray) (n : Nat) (h : n ≤ s.size) : ∃ X : ByteArray, (∀ W : World, Sem.run Tryz.prog (Instr.slice 9 (.string s) none (some (.int .i64 (n : Int))) none) W = .ok (.string X) W) ∧ X.data.toList = s.data.toList.take n ∧ X.size = n := by
  refine ⟨s.extract 0 n, fun W => ?_, ?_, ?_⟩
  · have := run_slice_string_h (P := Tryz.prog) W 9 s Tryz.underlying9 .i64 (n : Int) (by omega) (by omega)
    rw [this]
    simp
  · simp
  · simp; omega
theorem slice_off (s : ByteArray) (n : Nat) (h : n ≤ s.size) : ∃ X : ByteArray, (∀ W : World, Sem.run Tryz.prog (Instr.slice 9 (.string s) (some (.int .i64 (n : Int))) none none) W = .ok (.string X) W) ∧ X.data.toList = s.data.toList.drop n ∧ X.size = s.size - n := by
  refine ⟨s.extract n s.size, fun W => ?_, ?_, ?_⟩
  · have := run_slice_string_l (P := Tryz.prog) W 9 s Tryz.underlying9 .i64 (n : Int) (by omega) (by omega)
    rw [this]
    simp
  · have : (s.extract n s.size).data.toList = (s.data.toList.drop n).take (s.size - n) := by simp
    rw [this, List.take_of_length_le (by simp)]
  · simp
theorem slice_mid (s : ByteArray) (a b : Nat) (h1 : a ≤ b) (h : b ≤ s.size) : ∃ X : ByteArray, (∀ W : World, Sem.run Tryz.prog (Instr.slice 9 (.string s) (some (.int .i64 (a : Int))) (some (.int .i64 (b : Int))) none) W = .ok (.string X) W) ∧ X.data.toList = (s.data.toList.drop a).take (b - a) ∧ X.size = b - a := by
  refine ⟨s.extract a b, fun W => ?_, ?_, ?_⟩
  · have := run_slice_string (P := Tryz.prog) W 9 s .i64 .i64 (a : Int) (b : Int) Tryz.underlying9 (by omega) (by omega) (by omega)
    rw [this]
    simp
  · simp
  · simp; omega
end Go.Proofs.YtnpinbpjfngknaaGreatDoor
namespace Go.Proofs.YtnpinbpjfngknaaGreatDoor
open Go.RowKit Go.Extern.Stop Go.Stop Go.Extern

theorem Is.typeOfE (v : Value) (w : World) : (ReflectliteType.typeOf #[.iface 29 v]).run Tryz.prog w = .ok (.iface 142 (.agg #[.pointer (some ⟨12, 29, none⟩)])) w := by kernel_rfl
theorem Is.methodComparable (h : Value) (w : World) : (Go.method 340 142 (.agg #[h]) "Comparable").run Tryz.prog w = .ok (189, .agg #[h]) w := by kernel_rfl
theorem Is.no1 (v : Value) (xT : TypeId) (w : World) : (Instr.typeAssert (.iface 29 v) xT 177 true).run Tryz.prog w = .ok (.tuple #[.nilIface, .bool false]) w := run_typeAssert_lacksB Tryz.underlying177 (by kernel_rfl) (by kernel_rfl) v xT w
theorem Is.no2 (v : Value) (xT : TypeId) (w : World) : (Instr.typeAssert (.iface 29 v) xT 150 true).run Tryz.prog w = .ok (.tuple #[.nilIface, .bool false]) w := run_typeAssert_lacksB Tryz.underlying150 (by kernel_rfl) (by kernel_rfl) v xT w
theorem Is.no3 (v : Value) (xT : TypeId) (w : World) : (Instr.typeAssert (.iface 29 v) xT 152 true).run Tryz.prog w = .ok (.tuple #[.nilIface, .bool false]) w := run_typeAssert_lacksB Tryz.underlying152 (by kernel_rfl) (by kernel_rfl) v xT w
theorem Is.eql (n m : Int) (W : World) : Sem.run Tryz.prog (binOp .eql 38 (.iface 29 (.int .i64 n)) (.iface 29 (.int .i64 m))) W = .ok (.bool (n == m)) W := by kernel_rfl
theorem Is.guard (n m : Int) (W : World) (j k : Nat) : Sem.run Tryz.prog (eqGuard .eql 38 (.tmp j) (.tmp k) (.iface 29 (.int .i64 n)) (.iface 29 (.int .i64 m))) W = .ok () W := by kernel_rfl
set_option maxHeartbeats 2000000 in
set_option maxRecDepth 20000 in
theorem is_any (n m : Int) (w : World) :
    Calls Tryz.prog 115 #[.iface 29 (.int .i64 n), .iface 29 (.int .i64 m), .bool true] w fun e w' => e = .returned (.bool (n == m)) ∧ w' = w := by
  by_cases h : n = m
  · have hb : (n == m) = true := by simpa using h
    rw [hb]
    have q1 := Is.eql n m
    rw [hb] at q1
    have q2 := Is.guard n m
    have a1 := Is.no1
    have a2 := Is.no2
    have a3 := Is.no3
    clear h hb
    go_enter Tryz.func115, Tryz.ntmps115
    go_wp2
    refine wp_loop_rounds 1 ?_
    rw [rounds_succ]
    go_wp2
    go_ret
    exact ⟨rfl, rfl⟩
  · have hb : (n == m) = false := by simpa using h
    rw [hb]
    have q1 := Is.eql n m
    rw [hb] at q1
    have q2 := Is.guard n m
    have a1 := Is.no1
    have a2 := Is.no2
    have a3 := Is.no3
    clear h hb
    go_enter Tryz.func115, Tryz.ntmps115
    go_wp2
    refine wp_loop_rounds 1 ?_
    rw [rounds_succ]
    go_wp2
    go_ret
    exact ⟨rfl, rfl⟩
theorem Is.comparable (w : World) : (ReflectliteType.method (fun t => do
    Rtype.noPackHeld "Comparable" t
    (fun a => Value.bool a.comparable) <$> typeInfo t) #[.agg #[.pointer (some ⟨12, 29, none⟩)]]).run Tryz.prog w = .ok (.bool true) w := by kernel_rfl
set_option maxHeartbeats 2000000 in
set_option maxRecDepth 20000 in
theorem errorsIs_any (n m : Int) (w : World) :
    Calls Tryz.prog 95 #[.iface 29 (.int .i64 n), .iface 29 (.int .i64 m)] w fun e w' => e = .returned (.bool (n == m)) ∧ w' = w := by
  have h10 := @run_callFunc_extern Tryz.prog 100 _ ReflectliteType.typeOf Tryz.func100 (by kernel_rfl) (by kernel_rfl) (by kernel_rfl) (by kernel_rfl)
  have h11 := @run_callFunc_extern Tryz.prog 189 _ (ReflectliteType.method (fun t => do Rtype.noPackHeld "Comparable" t; pure (.bool (← typeInfo t).comparable))) Tryz.func189 (by kernel_rfl) (by kernel_rfl) (by kernel_rfl) (by kernel_rfl)
  have tO := Is.typeOfE
  have mC := Is.methodComparable
  have cC := Is.comparable
  go_enter Tryz.func95, Tryz.ntmps95
  go_wp2_with fail
  refine (is_any n m _).mono ?_
  rintro e w' ⟨rfl, rfl⟩
  go_wp2
  go_ret
  exact ⟨rfl, rfl⟩
end Go.Proofs.YtnpinbpjfngknaaGreatDoor
namespace Go.Proofs.YtnpinbpjfngknaaGreatDoor
open Go.RowKit
set_option linter.unusedVariables false

theorem hd_at {p : UInt8 → Bool} {s : ByteArray} {k : Nat} (h : k < s.size) : hdB p (s.data.toList.drop k) = p s[k] := by rw [drop_cons s k h]; rfl
theorem hd_out {p : UInt8 → Bool} {s : ByteArray} {k : Nat} (h : s.size ≤ k) : hdB p (s.data.toList.drop k) = false := by rw [List.drop_eq_nil_of_le (by simp; omega)]; rfl
theorem head_at {s : ByteArray} (h : 0 < s.size) : s.data.toList.head? = some s[0] := by
  have e : s.data.toList = s[0] :: s.data.toList.drop 1 := by have := drop_cons s 0 h; simpa using this
  rw [e]; rfl
theorem u8_48 {c : UInt8} : (c.toNat : Int) = 48 ↔ c = 48 :=
  ⟨fun h => UInt8.toNat_inj.1 (by rw [show (48 : UInt8).toNat = 48 from rfl]; omega), fun h => by rw [h]; rfl⟩
theorem num_atoi {s X : ByteArray} (hp : 0 < s.size) (hN : 0 < goN digB s.data.toList) (hX : X.data.toList = s.data.toList.take (goN digB s.data.toList)) (hz : ¬ (1 < goN digB s.data.toList ∧ s.data.toList.head? = some 48)) :
    (val10 X.data.toList ≤ 9223372036854775807 → Lib.atoiAll X.data.toList = .ok (val10 X.data.toList : Nat)) ∧ (9223372036854775807 < val10 X.data.toList → ∀ n, Lib.atoiAll X.data.toList ≠ .ok n) := by
  have hle := goN_le digB s.data.toList
  have hlen : X.data.toList.length = goN digB s.data.toList := by rw [hX, List.length_take]; omega
  refine atoi_dig (fun e => by rw [e] at hlen; simp at hlen; omega) (by rw [hX]; exact goN_all _ _) ?_
  rintro ⟨h1, h2⟩
  refine hz ⟨by omega, ?_⟩
  rw [hX, List.head?_take, if_neg (by omega)] at h2
  exact h2
set_option maxHeartbeats 4000000 in
set_option maxRecDepth 20000 in
theorem number_letter (s : ByteArray) (N : Nat) (w : World) (hs : s.size ≤ 140737488355328) (hlt : N < s.size) (hN : goN digB s.data.toList = N) (hl : letB s[N] = true) :
    Calls Tryz.prog 68 #[.string s] w fun e w' => e = .returned (.tuple #[.int .i64 0, .int .i64 2]) ∧ w' = w := by
  have cG := fun W => goesOn_digit s W (by unfold maxLen; omega)
  rw [hN] at cG
  have cL := isLetter_any s[N]
  rw [hl] at cL
  have hltz : (N : Int) < (s.size : Int) := by omega
  have hp : 0 < s.size := by omega
  clear hN hl
  go_enter Tryz.func68, Tryz.ntmps68
  go_wp2_with (first | (go_at_call 41; refine (cG _).mono ?_; rintro e w' ⟨rfl, rfl⟩) | (go_at_call 65; refine (cL _).mono ?_; rintro e w' ⟨rfl, rfl⟩))
  all_goals
    go_ret2
    exact ⟨rfl, rfl⟩
set_option maxHeartbeats 4000000 in
set_option maxRecDepth 20000 in
theorem number_zero_in (s : ByteArray) (N : Nat) (w : World) (hs : s.size ≤ 140737488355328) (hp : 0 < s.size) (hlt : N < s.size) (hl : letB s[N] = false) (hN : goN digB s.data.toList = N) (h1 : 1 < N) (h0 : s[0] = 48) :
    Calls Tryz.prog 68 #[.string s] w fun e w' => e = .returned (.tuple #[.int .i64 0, .int .i64 2]) ∧ w' = w := by
  have cG := fun W => goesOn_digit s W (by unfold maxLen; omega)
  rw [hN] at cG
  have cL := isLetter_any s[N]
  rw [hl] at cL
  have hltz : (N : Int) < (s.size : Int) := by omega
  clear hl
  have h1z : (1 : Int) < (N : Int) := by omega
  have h0z : ((s[0].toNat : Int) == 48) = true := by rw [h0]; rfl
  clear hN h0
  go_enter Tryz.func68, Tryz.ntmps68
  go_wp2_with (first | (go_at_call 41; refine (cG _).mono ?_; rintro e w' ⟨rfl, rfl⟩) | (go_at_call 65; refine (cL _).mono ?_; rintro e w' ⟨rfl, rfl⟩))
  go_ret2
  exact ⟨rfl, rfl⟩
set_option maxHeartbeats 4000000 in
set_option maxRecDepth 20000 in
theorem number_ok_in_a (s X : ByteArray) (N : Nat) (w : World) (henv : Env w) (hs : s.size ≤ 140737488355328) (hp : 0 < s.size) (hNs : N ≤ s.size) (hlt : N < s.size) (hl : letB s[N] = false) (hN : goN digB s.data.toList = N) (hX : ∀ W : World, Sem.run Tryz.prog (Instr.slice 9 (.string s) none (some (.int .i64 (N : Int))) none) W = .ok (.string X) W) (hXs : X.size ≤ 140737488355328) (h1 : 1 < N) (h0 : s[0] ≠ 48) (hv : ∃ n, Lib.atoiAll X.data.toList = .ok n) :
    Calls Tryz.prog 68 #[.string s] w fun e w' => e = .returned (.tuple #[.int .i64 (N : Nat), .int .i64 0]) ∧ Below w.heap.size w w' := by
  have cG := fun W => goesOn_digit s W (by unfold maxLen; omega)
  rw [hN] at cG
  have cL := isLetter_any s[N]
  rw [hl] at cL
  have hltz : (N : Int) < (s.size : Int) := by omega
  clear hl
  have h1z : (1 : Int) < (N : Int) := by omega
  have h0z : ((s[0].toNat : Int) == 48) = false := by rw [beq_eq_false_iff_ne]; exact fun e => h0 (u8_48.1 e)
  clear h0
  obtain ⟨n, hn⟩ := hv
  have HV : Hid (Lib.atoiAll X.data.toList = .ok n) := hn
  clear hn
  clear hN
  go_enter Tryz.func68, Tryz.ntmps68
  go_wp2_with (first | (go_at_call 41; refine (cG _).mono ?_; rintro e w' ⟨rfl, hq⟩; obtain rfl : w = w' := hq.symm) | (go_at_call 65; refine (cL _).mono ?_; rintro e w' ⟨rfl, hq2⟩; obtain rfl : w = w' := hq2.symm))
  refine (atoi_ok X n _ hXs HV.out).mono ?_
  rintro e w1 ⟨rfl, b1⟩
  go_wp2
  go_ret2
  exact ⟨rfl, b1⟩
set_option maxHeartbeats 4000000 in
set_option maxRecDepth 20000 in
theorem number_bad_in_a (s X : ByteArray) (N : Nat) (w : World) (henv : Env w) (hs : s.size ≤ 140737488355328) (hp : 0 < s.size) (hNs : N ≤ s.size) (hlt : N < s.size) (hl : letB s[N] = false) (hN : goN digB s.data.toList = N) (hX : ∀ W : World, Sem.run Tryz.prog (Instr.slice 9 (.string s) none (some (.int .i64 (N : Int))) none) W = .ok (.string X) W) (hXs : X.size ≤ 140737488355328) (h1 : 1 < N) (h0 : s[0] ≠ 48) (hv : ∀ n, Lib.atoiAll X.data.toList ≠ .ok n) :
    Calls Tryz.prog 68 #[.string s] w fun e w' => e = .returned (.tuple #[.int .i64 0, .int .i64 1]) ∧ Below w.heap.size w w' := by
  have cG := fun W => goesOn_digit s W (by unfold maxLen; omega)
  rw [hN] at cG
  have cL := isLetter_any s[N]
  rw [hl] at cL
  have hltz : (N : Int) < (s.size : Int) := by omega
  clear hl
  have h1z : (1 : Int) < (N : Int) := by omega
  have h0z : ((s[0].toNat : Int) == 48) = false := by rw [beq_eq_false_iff_ne]; exact fun e => h0 (u8_48.1 e)
  clear h0
  have HV : Hid (∀ n, Lib.atoiAll X.data.toList ≠ .ok n) := hv
  clear hv
  clear hN
  go_enter Tryz.func68, Tryz.ntmps68
  go_wp2_with (first | (go_at_call 41; refine (cG _).mono ?_; rintro e w' ⟨rfl, hq⟩; obtain rfl : w = w' := hq.symm) | (go_at_call 65; refine (cL _).mono ?_; rintro e w' ⟨rfl, hq2⟩; obtain rfl : w = w' := hq2.symm))
  refine (atoi_bad X _ hXs HV.out henv).mono ?_
  rintro e w1 ⟨n, t, v, rfl, b1⟩
  go_wp2
  go_ret2
  exact ⟨rfl, b1⟩
set_option maxHeartbeats 4000000 in
set_option maxRecDepth 20000 in
theorem number_ok_in_b (s X : ByteArray) (N : Nat) (w : World) (henv : Env w) (hs : s.size ≤ 140737488355328) (hp : 0 < s.size) (hNs : N ≤ s.size) (hlt : N < s.size) (hl : letB s[N] = false) (hN : goN digB s.data.toList = N) (hX : ∀ W : World, Sem.run Tryz.prog (Instr.slice 9 (.string s) none (some (.int .i64 (N : Int))) none) W = .ok (.string X) W) (hXs : X.size ≤ 140737488355328) (h1 : ¬ 1 < N) (hv : ∃ n, Lib.atoiAll X.data.toList = .ok n) :
    Calls Tryz.prog 68 #[.string s] w fun e w' => e = .returned (.tuple #[.int .i64 (N : Nat), .int .i64 0]) ∧ Below w.heap.size w w' := by
  have cG := fun W => goesOn_digit s W (by unfold maxLen; omega)
  rw [hN] at cG
  have cL := isLetter_any s[N]
  rw [hl] at cL
  have hltz : (N : Int) < (s.size : Int) := by omega
  clear hl
  have h1z : ¬ (1 : Int) < (N : Int) := by omega
  obtain ⟨n, hn⟩ := hv
  have HV : Hid (Lib.atoiAll X.data.toList = .ok n) := hn
  clear hn
  clear hN
  go_enter Tryz.func68, Tryz.ntmps68
  go_wp2_with (first | (go_at_call 41; refine (cG _).mono ?_; rintro e w' ⟨rfl, hq⟩; obtain rfl : w = w' := hq.symm) | (go_at_call 65; refine (cL _).mono ?_; rintro e w' ⟨rfl, hq2⟩; obtain rfl : w = w' := hq2.symm))
  refine (atoi_ok X n _ hXs HV.out).mono ?_
  rintro e w1 ⟨rfl, b1⟩
  go_wp2
  go_ret2
  exact ⟨rfl, b1⟩
set_option maxHeartbeats 4000000 in
set_option maxRecDepth 20000 in
theorem number_bad_in_b (s X : ByteArray) (N : Nat) (w : World) (henv : Env w) (hs : s.size ≤ 140737488355328) (hp : 0 < s.size) (hNs : N ≤ s.size) (hlt : N < s.size) (hl : letB s[N] = false) (hN : goN digB s.data.toList = N) (hX : ∀ W : World, Sem.run Tryz.prog (Instr.slice 9 (.string s) none (some (.int .i64 (N : Int))) none) W = .ok (.string X) W) (hXs : X.size ≤ 140737488355328) (h1 : ¬ 1 < N) (hv : ∀ n, Lib.atoiAll X.data.toList ≠ .ok n) :
    Calls Tryz.prog 68 #[.string s] w fun e w' => e = .returned (.tuple #[.int .i64 0, .int .i64 1]) ∧ Below w.heap.size w w' := by
  have cG := fun W => goesOn_digit s W (by unfold maxLen; omega)
  rw [hN] at cG
  have cL := isLetter_any s[N]
  rw [hl] at cL
  have hltz : (N : Int) < (s.size : Int) := by omega
  clear hl
  have h1z : ¬ (1 : Int) < (N : Int) := by omega
  have HV : Hid (∀ n, Lib.atoiAll X.data.toList ≠ .ok n) := hv
  clear hv
  clear hN
  go_enter Tryz.func68, Tryz.ntmps68
  go_wp2_with (first | (go_at_call 41; refine (cG _).mono ?_; rintro e w' ⟨rfl, hq⟩; obtain rfl : w = w' := hq.symm) | (go_at_call 65; refine (cL _).mono ?_; rintro e w' ⟨rfl, hq2⟩; obtain rfl : w = w' := hq2.symm))
  refine (atoi_bad X _ hXs HV.out henv).mono ?_
  rintro e w1 ⟨n, t, v, rfl, b1⟩
  go_wp2
  go_ret2
  exact ⟨rfl, b1⟩
set_option maxHeartbeats 4000000 in
set_option maxRecDepth 20000 in
theorem number_zero_out (s : ByteArray) (N : Nat) (w : World) (hs : s.size ≤ 140737488355328) (hp : 0 < s.size) (hlt : s.size ≤ N) (hN : goN digB s.data.toList = N) (h1 : 1 < N) (h0 : s[0] = 48) :
    Calls Tryz.prog 68 #[.string s] w fun e w' => e = .returned (.tuple #[.int .i64 0, .int .i64 2]) ∧ w' = w := by
  have cG := fun W => goesOn_digit s W (by unfold maxLen; omega)
  rw [hN] at cG
  have hltz : ¬ (N : Int) < (s.size : Int) := by omega
  have h1z : (1 : Int) < (N : Int) := by omega
  have h0z : ((s[0].toNat : Int) == 48) = true := by rw [h0]; rfl
  clear hN h0
  go_enter Tryz.func68, Tryz.ntmps68
  go_wp2_with (first | (go_at_call 41; refine (cG _).mono ?_; rintro e w' ⟨rfl, rfl⟩))
  go_ret2
  exact ⟨rfl, rfl⟩
set_option maxHeartbeats 4000000 in
set_option maxRecDepth 20000 in
theorem number_ok_out_a (s X : ByteArray) (N : Nat) (w : World) (henv : Env w) (hs : s.size ≤ 140737488355328) (hp : 0 < s.size) (hNs : N ≤ s.size) (hlt : s.size ≤ N) (hN : goN digB s.data.toList = N) (hX : ∀ W : World, Sem.run Tryz.prog (Instr.slice 9 (.string s) none (some (.int .i64 (N : Int))) none) W = .ok (.string X) W) (hXs : X.size ≤ 140737488355328) (h1 : 1 < N) (h0 : s[0] ≠ 48) (hv : ∃ n, Lib.atoiAll X.data.toList = .ok n) :
    Calls Tryz.prog 68 #[.string s] w fun e w' => e = .returned (.tuple #[.int .i64 (N : Nat), .int .i64 0]) ∧ Below w.heap.size w w' := by
  have cG := fun W => goesOn_digit s W (by unfold maxLen; omega)
  rw [hN] at cG
  have hltz : ¬ (N : Int) < (s.size : Int) := by omega
  have h1z : (1 : Int) < (N : Int) := by omega
  have h0z : ((s[0].toNat : Int) == 48) = false := by rw [beq_eq_false_iff_ne]; exact fun e => h0 (u8_48.1 e)
  clear h0
  obtain ⟨n, hn⟩ := hv
  have HV : Hid (Lib.atoiAll X.data.toList = .ok n) := hn
  clear hn
  clear hN
  go_enter Tryz.func68, Tryz.ntmps68
  go_wp2_with (first | (go_at_call 41; refine (cG _).mono ?_; rintro e w' ⟨rfl, hq⟩; obtain rfl : w = w' := hq.symm))
  refine (atoi_ok X n _ hXs HV.out).mono ?_
  rintro e w1 ⟨rfl, b1⟩
  go_wp2
  go_ret2
  exact ⟨rfl, b1⟩
set_option maxHeartbeats 4000000 in
set_option maxRecDepth 20000 in
theorem number_bad_out_a (s X : ByteArray) (N : Nat) (w : World) (henv : Env w) (hs : s.size ≤ 140737488355328) (hp : 0 < s.size) (hNs : N ≤ s.size) (hlt : s.size ≤ N) (hN : goN digB s.data.toList = N) (hX : ∀ W : World, Sem.run Tryz.prog (Instr.slice 9 (.string s) none (some (.int .i64 (N : Int))) none) W = .ok (.string X) W) (hXs : X.size ≤ 140737488355328) (h1 : 1 < N) (h0 : s[0] ≠ 48) (hv : ∀ n, Lib.atoiAll X.data.toList ≠ .ok n) :
    Calls Tryz.prog 68 #[.string s] w fun e w' => e = .returned (.tuple #[.int .i64 0, .int .i64 1]) ∧ Below w.heap.size w w' := by
  have cG := fun W => goesOn_digit s W (by unfold maxLen; omega)
  rw [hN] at cG
  have hltz : ¬ (N : Int) < (s.size : Int) := by omega
  have h1z : (1 : Int) < (N : Int) := by omega
  have h0z : ((s[0].toNat : Int) == 48) = false := by rw [beq_eq_false_iff_ne]; exact fun e => h0 (u8_48.1 e)
  clear h0
  have HV : Hid (∀ n, Lib.atoiAll X.data.toList ≠ .ok n) := hv
  clear hv
  clear hN
  go_enter Tryz.func68, Tryz.ntmps68
  go_wp2_with (first | (go_at_call 41; refine (cG _).mono ?_; rintro e w' ⟨rfl, hq⟩; obtain rfl : w = w' := hq.symm))
  refine (atoi_bad X _ hXs HV.out henv).mono ?_
  rintro e w1 ⟨n, t, v, rfl, b1⟩
  go_wp2
  go_ret2
  exact ⟨rfl, b1⟩
set_option maxHeartbeats 4000000 in
set_option maxRecDepth 20000 in
theorem number_ok_out_b (s X : ByteArray) (N : Nat) (w : World) (henv : Env w) (hs : s.size ≤ 140737488355328) (hp : 0 < s.size) (hNs : N ≤ s.size) (hlt : s.size ≤ N) (hN : goN digB s.data.toList = N) (hX : ∀ W : World, Sem.run Tryz.prog (Instr.slice 9 (.string s) none (some (.int .i64 (N : Int))) none) W = .ok (.string X) W) (hXs : X.size ≤ 140737488355328) (h1 : ¬ 1 < N) (hv : ∃ n, Lib.atoiAll X.data.toList = .ok n) :
    Calls Tryz.prog 68 #[.string s] w fun e w' => e = .returned (.tuple #[.int .i64 (N : Nat), .int .i64 0]) ∧ Below w.heap.size w w' := by
  have cG := fun W => goesOn_digit s W (by unfold maxLen; omega)
  rw [hN] at cG
  have hltz : ¬ (N : Int) < (s.size : Int) := by omega
  have h1z : ¬ (1 : Int) < (N : Int) := by omega
  obtain ⟨n, hn⟩ := hv
  have HV : Hid (Lib.atoiAll X.data.toList = .ok n) := hn
  clear hn
  clear hN
  go_enter Tryz.func68, Tryz.ntmps68
  go_wp2_with (first | (go_at_call 41; refine (cG _).mono ?_; rintro e w' ⟨rfl, hq⟩; obtain rfl : w = w' := hq.symm))
  refine (atoi_ok X n _ hXs HV.out).mono ?_
  rintro e w1 ⟨rfl, b1⟩
  go_wp2
  go_ret2
  exact ⟨rfl, b1⟩
set_option maxHeartbeats 4000000 in
set_option maxRecDepth 20000 in
theorem number_bad_out_b (s X : ByteArray) (N : Nat) (w : World) (henv : Env w) (hs : s.size ≤ 140737488355328) (hp : 0 < s.size) (hNs : N ≤ s.size) (hlt : s.size ≤ N) (hN : goN digB s.data.toList = N) (hX : ∀ W : World, Sem.run Tryz.prog (Instr.slice 9 (.string s) none (some (.int .i64 (N : Int))) none) W = .ok (.string X) W) (hXs : X.size ≤ 140737488355328) (h1 : ¬ 1 < N) (hv : ∀ n, Lib.atoiAll X.data.toList ≠ .ok n) :
    Calls Tryz.prog 68 #[.string s] w fun e w' => e = .returned (.tuple #[.int .i64 0, .int .i64 1]) ∧ Below w.heap.size w w' := by
  have cG := fun W => goesOn_digit s W (by unfold maxLen; omega)
  rw [hN] at cG
  have hltz : ¬ (N : Int) < (s.size : Int) := by omega
  have h1z : ¬ (1 : Int) < (N : Int) := by omega
  have HV : Hid (∀ n, Lib.atoiAll X.data.toList ≠ .ok n) := hv
  clear hv
  clear hN
  go_enter Tryz.func68, Tryz.ntmps68
  go_wp2_with (first | (go_at_call 41; refine (cG _).mono ?_; rintro e w' ⟨rfl, hq⟩; obtain rfl : w = w' := hq.symm))
  refine (atoi_bad X _ hXs HV.out henv).mono ?_
  rintro e w1 ⟨n, t, v, rfl, b1⟩
  go_wp2
  go_ret2
  exact ⟨rfl, b1⟩
theorem numberAhead_any (s : ByteArray) (w : World) (henv : Env w) (hs : s.size ≤ 140737488355328) (hp : 0 < s.size) (hd : digB s[0] = true) :
    Calls Tryz.prog 68 #[.string s] w fun e w' => e = .returned (.tuple #[.int .i64 ((numTok s.data.toList).1 : Nat), .int .i64 (numTok s.data.toList).2]) ∧ Below w.heap.size w w' := by
  have h0 : 0 < goN digB s.data.toList := by
    have := drop_cons s 0 hp
    rw [List.drop_zero] at this
    rw [this, goN_yes _ hd]; omega
  have hle : goN digB s.data.toList ≤ s.size := by have := goN_le digB s.data.toList; simpa using this
  obtain ⟨X, hX, hX1, hX2⟩ := slice_to s (goN digB s.data.toList) hle
  have hXs : X.size ≤ 140737488355328 := by omega
  have key := num_atoi hp h0 hX1
  rw [hX1] at key
  obtain ⟨N, hN⟩ : ∃ N, goN digB s.data.toList = N := ⟨_, rfl⟩
  by_cases hlt : N < s.size
  · cases hl : letB s[N]
    · by_cases h1 : 1 < N
      · by_cases hz : s[0] = 48
        · rw [numTok, if_pos (Or.inr ⟨by omega, by rw [head_at hp, hz]⟩)]
          exact (number_zero_in s N w hs hp hlt hl hN h1 hz).mono fun e w' hh => ⟨hh.1, by rw [hh.2]; exact Below.refl _ _⟩
        · have hno : ¬ (1 < goN digB s.data.toList ∧ s.data.toList.head? = some 48) := fun e => hz (by rw [head_at hp] at e; exact Option.some.inj e.2)
          obtain ⟨k1, k2⟩ := key hno
          rw [numTok, if_neg (fun e => e.elim (fun e => by rw [hN, hd_at hlt, hl] at e; cases e) hno)]
          by_cases hv : 9223372036854775807 < val10 (s.data.toList.take (goN digB s.data.toList))
          · rw [if_pos hv]
            rw [hN] at hX
            exact number_bad_in_a s X N w henv hs hp (by omega) hlt hl hN hX hXs h1 hz (by rw [hX1]; exact k2 hv)
          · rw [if_neg hv]
            simp only [hN] at hX ⊢
            exact number_ok_in_a s X N w henv hs hp (by omega) hlt hl hN hX hXs h1 hz ⟨_, by rw [hX1]; exact k1 (by omega)⟩
      · have hno : ¬ (1 < goN digB s.data.toList ∧ s.data.toList.head? = some 48) := fun e => h1 (by omega)
        obtain ⟨k1, k2⟩ := key hno
        rw [numTok, if_neg (fun e => e.elim (fun e => by rw [hN, hd_at hlt, hl] at e; cases e) hno)]
        by_cases hv : 9223372036854775807 < val10 (s.data.toList.take (goN digB s.data.toList))
        · rw [if_pos hv]
          rw [hN] at hX
          exact number_bad_in_b s X N w henv hs hp (by omega) hlt hl hN hX hXs h1 (by rw [hX1]; exact k2 hv)
        · rw [if_neg hv]
          simp only [hN] at hX ⊢
          exact number_ok_in_b s X N w henv hs hp (by omega) hlt hl hN hX hXs h1 ⟨_, by rw [hX1]; exact k1 (by omega)⟩
    · rw [numTok, if_pos (Or.inl (by rw [hN, hd_at hlt]; exact hl))]
      exact (number_letter s N w hs hlt hN hl).mono fun e w' hh => ⟨hh.1, by rw [hh.2]; exact Below.refl _ _⟩
  · have hge : s.size ≤ N := by omega
    by_cases h1 : 1 < N
    · by_cases hz : s[0] = 48
      · rw [numTok, if_pos (Or.inr ⟨by omega, by rw [head_at hp, hz]⟩)]
        exact (number_zero_out s N w hs hp hge hN h1 hz).mono fun e w' hh => ⟨hh.1, by rw [hh.2]; exact Below.refl _ _⟩
      · have hno : ¬ (1 < goN digB s.data.toList ∧ s.data.toList.head? = some 48) := fun e => hz (by rw [head_at hp] at e; exact Option.some.inj e.2)
        obtain ⟨k1, k2⟩ := key hno
        rw [numTok, if_neg (fun e => e.elim (fun e => by rw [hN, hd_out hge] at e; cases e) hno)]
        by_cases hv : 9223372036854775807 < val10 (s.data.toList.take (goN digB s.data.toList))
        · rw [if_pos hv]
          rw [hN] at hX
          exact number_bad_out_a s X N w henv hs hp (by omega) hge hN hX hXs h1 hz (by rw [hX1]; exact k2 hv)
        · rw [if_neg hv]
          simp only [hN] at hX ⊢
          exact number_ok_out_a s X N w henv hs hp (by omega) hge hN hX hXs h1 hz ⟨_, by rw [hX1]; exact k1 (by omega)⟩
    · have hno : ¬ (1 < goN digB s.data.toList ∧ s.data.toList.head? = some 48) := fun e => h1 (by omega)
      obtain ⟨k1, k2⟩ := key hno
      rw [numTok, if_neg (fun e => e.elim (fun e => by rw [hN, hd_out hge] at e; cases e) hno)]
      by_cases hv : 9223372036854775807 < val10 (s.data.toList.take (goN digB s.data.toList))
      · rw [if_pos hv]
        rw [hN] at hX
        exact number_bad_out_b s X N w henv hs hp (by omega) hge hN hX hXs h1 (by rw [hX1]; exact k2 hv)
      · rw [if_neg hv]
        simp only [hN] at hX ⊢
        exact number_ok_out_b s X N w henv hs hp (by omega) hge hN hX hXs h1 ⟨_, by rw [hX1]; exact k1 (by omega)⟩
end Go.Proofs.YtnpinbpjfngknaaGreatDoor
namespace Go.Proofs.YtnpinbpjfngknaaGreatDoor
open Go.RowKit
set_option linter.unusedVariables false

/-- How far a Quote goes on, and all behind it that begins anew at once; b: is the beginning within? -/
def togN : Bool → List UInt8 → Nat
  | _, [] => 0
  | b, c :: l => if c = 39 then togN (!b) l + 1 else if b = true then togN b l + 1 else 0
theorem togN_le : ∀ (l : List UInt8) (b : Bool), togN b l ≤ l.length
  | [], b => by simp [togN]
  | c :: l, b => by
    rw [togN]
    split
    · have := togN_le l (!b); simp; omega
    · split
      · have := togN_le l b; simp; omega
      · simp
theorem tog_some : ∀ (n : Nat) (l : List UInt8) (k : Nat), l.length ≤ n → qscan l = some k → togN true l = k
  | _, [], k, _, h => by simp [qscan] at h
  | 0, _ :: _, _, hn, _ => by simp at hn
  | n + 1, c :: l, k, hn, h => by
    by_cases hc : c = 39
    · subst hc
      cases l with
      | nil => simp [qscan] at h; subst h; simp [togN]
      | cons d r =>
        by_cases hd : d = 39
        · subst hd
          rw [qscan_two, Option.map_eq_some_iff] at h
          obtain ⟨j, hj, rfl⟩ := h
          have := tog_some n r j (by simp at hn; omega) hj
          simp [togN, this]
        · rw [qscan_end _ (by simpa using hd)] at h
          cases h
          simp [togN, hd]
    · rw [qscan_ne c l hc, Option.map_eq_some_iff] at h
      obtain ⟨j, hj, rfl⟩ := h
      have := tog_some n l j (by simp at hn; omega) hj
      simp [togN, hc, this]
theorem tog_none : ∀ (n : Nat) (l : List UInt8), l.length ≤ n → qscan l = none → togN true l = l.length ∧ rd l = none
  | _, [], _, _ => by simp [togN, rd]
  | 0, _ :: _, hn, _ => by simp at hn
  | n + 1, c :: l, hn, h => by
    by_cases hc : c = 39
    · subst hc
      cases l with
      | nil => simp [qscan] at h
      | cons d r =>
        by_cases hd : d = 39
        · subst hd
          rw [qscan_two, Option.map_eq_none_iff] at h
          obtain ⟨h1, h2⟩ := tog_none n r (by simp at hn; omega) h
          exact ⟨by simp [togN, h1], by rw [rd_two, h2]; rfl⟩
        · rw [qscan_end _ (by simpa using hd)] at h
          cases h
    · rw [qscan_ne c l hc, Option.map_eq_none_iff] at h
      obtain ⟨h1, h2⟩ := tog_none n l (by simp at hn; omega) h
      exact ⟨by simp [togN, hc, h1], by rw [rd_ne c l hc, h2]; rfl⟩
theorem quo_tog (r : List UInt8) : quoTok r = if qE (r.take (togN true r)) = 0 then (togN true r + 1, 0) else (0, qE (r.take (togN true r))) := by
  rw [quoTok]
  cases h : qscan r with
  | none =>
    obtain ⟨h1, h2⟩ := tog_none _ r (Nat.le_refl _) h
    have : qE (r.take (togN true r)) = 2 := by rw [h1, List.take_length, qE, h2]
    rw [this]; rfl
  | some k => rw [tog_some _ r k (Nat.le_refl _) h]
theorem qE_cases (x : List UInt8) : qE x = 0 ∨ qE x = 2 ∨ qE x = 4 := by
  rw [qE]
  split
  · simp
  · split
    · simp
    · split <;> simp
theorem read_qE {X : ByteArray} {t : List UInt8} (h : X.data.toList = 39 :: t) : (readV X).2.2.2 = qE t := by
  have hz : X.size = t.length + 1 := by rw [Lib.size_eq, h, List.length_cons]
  have hp : 0 < X.size := by omega
  have h1 : X.data.toList ≠ [116, 114, 117, 101] := by rw [h]; intro e; injection e with e _; revert e; decide
  have h2 : X.data.toList ≠ [102, 97, 108, 115, 101] := by rw [h]; intro e; injection e with e _; revert e; decide
  have h0 : (X[0].toNat : Int) = 39 := by
    have := head_at hp
    rw [h] at this
    have : (39 : UInt8) = X[0] := Option.some.inj this
    rw [← this]; rfl
  have hd : X.data.toList.drop 1 = t := by rw [h]; rfl
  rw [qE]
  cases hr : rd t with
  | none => rw [read_rd_none h1 h2 hp h0 (by rw [hd]; exact hr)]
  | some l =>
    rw [read_rd_some h1 h2 hp h0 (by rw [hd]; exact hr)]
    simp only
    split
    · rfl
    · split <;> rfl
theorem quo1_quote (b : Bool) (p : Nat) (w : World) (hp : w.cell? ⟨p, 0, none⟩ = some (.bool b)) (hf : w.frozen? ⟨p, 0, none⟩ = false) :
    Calls Tryz.prog 93 #[.int .u8 39, .pointer (some ⟨p, 0, none⟩)] w fun e w' => e = .returned (.bool true) ∧ w' = w.setCell ⟨p, 0, none⟩ (.bool !b) := by
  go_enter Tryz.func93, Tryz.ntmps93
  go_wp2
  go_ret
  exact ⟨rfl, rfl⟩
theorem quo1_other (r : Int) (b : Bool) (p : Nat) (w : World) (hr : r ≠ 39) (hp : w.cell? ⟨p, 0, none⟩ = some (.bool b)) :
    Calls Tryz.prog 93 #[.int .u8 r, .pointer (some ⟨p, 0, none⟩)] w fun e w' => e = .returned (.bool b) ∧ w' = w := by
  have e1 : (r == 39) = false := by simpa using hr
  go_enter Tryz.func93, Tryz.ntmps93
  go_wp2
  go_ret
  exact ⟨rfl, rfl⟩
theorem tog_quote {s : ByteArray} {k : Nat} {b : Bool} (h : k < s.size) (hc : s[k] = 39) {E : Nat} (hE : E = k + togN b (s.data.toList.drop k)) : E = k + 1 + togN (!b) (s.data.toList.drop (k + 1)) := by
  rw [hE, drop_cons s k h, togN, if_pos hc]; omega
theorem tog_in {s : ByteArray} {k : Nat} (h : k < s.size) (hc : s[k] ≠ 39) {E : Nat} (hE : E = k + togN true (s.data.toList.drop k)) : E = k + 1 + togN true (s.data.toList.drop (k + 1)) := by
  rw [hE, drop_cons s k h, togN, if_neg hc, if_pos rfl]; omega
theorem tog_out {s : ByteArray} {k : Nat} (h : k < s.size) (hc : s[k] ≠ 39) {E : Nat} (hE : E = k + togN false (s.data.toList.drop k)) : E = k := by
  rw [hE, drop_cons s k h, togN, if_neg hc, if_neg (by decide)]; rfl
theorem tog_end {s : ByteArray} {k : Nat} {b : Bool} (h : s.size ≤ k) (hk : k ≤ s.size) {E : Nat} (hE : E = k + togN b (s.data.toList.drop k)) : E = s.size := by
  rw [hE, List.drop_eq_nil_of_le (by simp; omega)]; simp [togN]; omega
theorem u8_39n {c : UInt8} (h : c ≠ 39) : (c.toNat : Int) ≠ 39 := fun e => h (UInt8.toNat_inj.1 (by rw [show (39 : UInt8).toNat = 39 from rfl]; omega))
theorem cell_lt4 {w : World} {b o : Nat} {v : Value} (h : w.cell? ⟨b, o, none⟩ = some v) : b < w.heap.size := by
  rcases Nat.lt_or_ge b w.heap.size with h' | h'
  · exact h'
  · simp [World.cell?, Array.getElem?_eq_none h'] at h
set_option maxHeartbeats 4000000 in
theorem goesOn_quote (s : ByteArray) (p : Nat) (w : World) (hs : s.size ≤ maxLen) (hp : w.cell? ⟨p, 0, none⟩ = some (.bool false)) (hf : w.frozen? ⟨p, 0, none⟩ = false) :
    Calls Tryz.prog 41 #[.string s, .func (.func 93) #[] #[.pointer (some ⟨p, 0, none⟩)]] w fun e w' => e = .returned (.int .i64 (togN false s.data.toList : Nat)) ∧ Below p w w' := by
  unfold maxLen at hs
  obtain ⟨E, hE⟩ : ∃ E, togN false s.data.toList = E := ⟨_, rfl⟩
  rw [hE]
  go_enter Tryz.func41, Tryz.ntmps41
  go_wp2
  go_loopg [5, 8] s.size (fun gg _ s8 wr => ∃ (kk : Nat) (b : Bool), kk ≤ s.size ∧ s.size - kk ≤ gg ∧ s8 = .int .i64 kk ∧ Aside (Below p w wr) ∧ wr.cell? ⟨p, 0, none⟩ = some (.bool b) ∧ wr.frozen? ⟨p, 0, none⟩ = false ∧ Hid (E = kk + togN b (s.data.toList.drop kk)))
  case atStart => exact ⟨0, false, Nat.zero_le _, by omega, rfl, Below.refl _ w, hp, hf, (show Hid _ by simp [Hid, hE])⟩
  case round =>
    obtain ⟨kk, b, hkk, hg, rfl, BW, hpc, hpf, HE⟩ := hrel
    clear hp hf
    by_cases hlt : kk < s.size
    · have hltz : (kk : Int) < (s.size : Int) := by omega
      by_cases hc : s[kk] = 39
      · have HE2 : Hid (E = kk + 1 + togN (!b) (s.data.toList.drop (kk + 1))) := tog_quote hlt hc HE.out
        have hcz : (s[kk].toNat : Int) = 39 := by rw [hc]; rfl
        have cS := quo1_quote b p wr hpc hpf
        rw [← hcz] at cS
        have BW2 := BW.out.setCell (p := ⟨p, 0, none⟩) (Nat.le_refl _) (.bool !b)
        have hpc3 := World.cell?_setCell_same wr ⟨p, 0, none⟩ (.bool !b) hpc
        have hpf3 : (wr.setCell ⟨p, 0, none⟩ (.bool !b)).frozen? ⟨p, 0, none⟩ = false := by
          have : (wr.setCell ⟨p, 0, none⟩ (.bool !b)).frozen? ⟨p, 0, none⟩ = wr.frozen? ⟨p, 0, none⟩ := by simp
          rw [this]; exact hpf
        clear hc HE hcz
        go_wp2_with fail
        refine cS.mono ?_
        rintro e w' ⟨rfl, rfl⟩
        go_wp2
        go_roundg (s.size - (kk + 1))
        case measure => omega
        case rel => exact ⟨kk + 1, !b, by omega, by omega, by go_num, BW2, hpc3, hpf3, HE2⟩
      · have hcz := u8_39n hc
        have cS := quo1_other _ b p wr hcz hpc
        cases b
        · obtain rfl : kk = E := (tog_out hlt hc HE.out).symm
          clear hc HE hcz
          go_wp2_with fail
          refine cS.mono ?_
          rintro e w' ⟨rfl, hq⟩
          obtain rfl : wr = w' := hq.symm
          go_wp2
          go_ret
          exact ⟨rfl, BW.out⟩
        · have HE2 : Hid (E = kk + 1 + togN true (s.data.toList.drop (kk + 1))) := tog_in hlt hc HE.out
          clear hc HE hcz
          go_wp2_with fail
          refine cS.mono ?_
          rintro e w' ⟨rfl, hq⟩
          obtain rfl : wr = w' := hq.symm
          go_wp2
          go_roundg (s.size - (kk + 1))
          case measure => omega
          case rel => exact ⟨kk + 1, true, by omega, by omega, by go_num, BW, hpc, hpf, HE2⟩
    · have hltz : ¬ (kk : Int) < (s.size : Int) := by omega
      obtain rfl : s.size = E := (tog_end (by omega) hkk HE.out).symm
      clear HE
      go_wp2
      go_ret
      exact ⟨rfl, BW.out⟩
theorem parse_lex (s : ByteArray) (w : World) (hs : s.size ≤ 140737488355328) (henv : Env w) :
    Calls Tryz.prog 94 #[.string s] w fun e w' => (∃ (t n : Int) (x : ByteArray) (k : Int), e = .returned (.tuple #[.agg #[.int .i64 t, .int .i64 n, .string x], errV k]) ∧ Hid ((readV s).2.2.2 = k)) ∧ Below w.heap.size w w' :=
  (parse_any s w hs henv).mono fun e w' hh => ⟨⟨_, _, ⟨(readV s).2.2.1.toArray⟩, _, hh.1, rfl⟩, hh.2⟩
set_option maxHeartbeats 4000000 in
set_option maxRecDepth 20000 in
theorem quoteAhead_any (s : ByteArray) (r : List UInt8) (w : World) (henv : Env w) (hs : s.size ≤ 140737488355328) (hr : s.data.toList = 39 :: r) :
    Calls Tryz.prog 69 #[.string s] w fun e w' => (∃ (n : Nat) (k : Int), e = .returned (.tuple #[.int .i64 n, .int .i64 k]) ∧ Hid (quoTok r = (n, k))) ∧ Below w.heap.size w w' := by
  have hsz : s.size = r.length + 1 := by rw [Lib.size_eq, hr, List.length_cons]
  have hN : togN false s.data.toList = togN true r + 1 := by rw [hr, togN, if_pos rfl]; rfl
  have hle := togN_le r true
  obtain ⟨X, hX, hX1, hX2⟩ := slice_to s (togN true r + 1) (by omega)
  have HX : Hid ((readV X).2.2.2 = qE (r.take (togN true r))) := read_qE (by rw [hX1, hr, List.take_succ_cons])
  have HQ : Hid (quoTok r = if qE (r.take (togN true r)) = 0 then (togN true r + 1, 0) else (0, qE (r.take (togN true r)))) := quo_tog r
  have HC : Hid (qE (r.take (togN true r)) = 0 ∨ qE (r.take (togN true r)) = 2 ∨ qE (r.take (togN true r)) = 4) := qE_cases _
  have cG := goesOn_quote s w.heap.size (w.alloc (.cells #[.bool false] 4)) (by unfold maxLen; omega) (by simp) (by simp)
  rw [hN] at cG
  obtain ⟨N, hNN⟩ : ∃ N, togN true r + 1 = N := ⟨_, rfl⟩
  rw [hNN] at cG hX HQ
  clear hN hX1
  go_enter Tryz.func69, Tryz.ntmps69
  go_wp2_with fail
  refine cG.mono ?_
  rintro e w1 ⟨rfl, b1⟩
  have B1 : Below w.heap.size w w1 := ((Below.refl _ _).alloc (Nat.le_refl _) _).trans b1
  clear b1
  go_wp2_with fail
  refine (parse_lex X _ (by omega) (henv.on B1)).mono ?_
  rintro e w2 ⟨⟨t, n, x, k, rfl, HK⟩, b2⟩
  have B2 := B1.trans (b2.mono B1.size)
  have hk : qE (r.take (togN true r)) = k := by rw [← HX.out]; exact HK.out
  rw [hk] at HQ HC
  have hc := HC.out
  clear hk HK HX HC b2 B1
  rcases hc with rfl | rfl | rfl
  · have HQ2 : Hid (quoTok r = (N, 0)) := by have := HQ.out; rwa [if_pos rfl] at this
    rw [show errV 0 = .nilIface from rfl]
    clear HQ
    go_wp2
    go_ret2
    exact ⟨⟨N, 0, rfl, HQ2⟩, by repeat (first | exact B2 | (refine Below.alloc ?_ (by have := B2.size; simp; omega) _))⟩
  · have HQ2 : Hid (quoTok r = (0, 2)) := by have := HQ.out; rwa [if_neg (by decide)] at this
    rw [show errV 2 = .iface 29 (.int .i64 2) from rfl]
    have cI := fun W => errorsIs_any 2 4 W
    rw [show ((2 : Int) == 4) = false from rfl] at cI
    clear HQ
    go_wp2_with (go_at_call 95; refine (cI _).mono ?_; rintro e W' ⟨rfl, rfl⟩)
    go_ret2
    exact ⟨⟨0, 2, rfl, HQ2⟩, by repeat (first | exact B2 | (refine Below.alloc ?_ (by have := B2.size; simp; omega) _))⟩
  · have HQ2 : Hid (quoTok r = (0, 4)) := by have := HQ.out; rwa [if_neg (by decide)] at this
    rw [show errV 4 = .iface 29 (.int .i64 4) from rfl]
    have cI := fun W => errorsIs_any 4 4 W
    rw [show ((4 : Int) == 4) = true from rfl] at cI
    clear HQ
    go_wp2_with (go_at_call 95; refine (cI _).mono ?_; rintro e W' ⟨rfl, rfl⟩)
    go_ret2
    exact ⟨⟨0, 4, rfl, HQ2⟩, by repeat (first | exact B2 | (refine Below.alloc ?_ (by have := B2.size; simp; omega) _))⟩
set_option maxHeartbeats 4000000 in
set_option maxRecDepth 20000 in
theorem tokenAhead_any (s : ByteArray) (w : World) (henv : Env w) (hw : SG w) (hs : s.size ≤ 140737488355328) (hp : 0 < s.size) :
    Calls Tryz.prog 43 #[.string s] w fun e w' => (∃ (k : Int) (n : Nat) (h : Int), e = .returned (.tuple #[.int .i64 k, .int .i64 n, .int .i64 h]) ∧ Hid (tokAt s.data.toList = (k, n, h))) ∧ Below w.heap.size w w' := by
  have hcons : s.data.toList = s[0] :: s.data.toList.drop 1 := by have := drop_cons s 0 hp; simpa using this
  have HT : Hid (tokAt s.data.toList = if letB s[0] = true then (1, goN ldB s.data.toList, 0) else if digB s[0] = true then (2, numTok s.data.toList) else if s[0] = 39 then (3, quoTok (s.data.toList.drop 1)) else (4, sgN signsL s.data.toList, if sgN signsL s.data.toList = 0 then 2 else 0)) := by
    show _ = _
    rw [hcons, tokAt, ← hcons]
  have cL := isLetter_any s[0]
  have cD := isDigit_any s[0]
  cases hl : letB s[0]
  · rw [hl] at cL HT
    cases hd : digB s[0]
    · rw [hd] at cD HT
      by_cases hq : s[0] = 39
      · have hqz : ((s[0].toNat : Int) == 39) = true := by rw [hq]; rfl
        have cQ := quoteAhead_any s (s.data.toList.drop 1) w henv hs (by rw [← hq]; exact hcons)
        have HT2 : Hid (tokAt s.data.toList = (3, quoTok (s.data.toList.drop 1))) := by have := HT.out; rwa [if_neg (by decide), if_neg (by decide), if_pos hq] at this
        clear hl hd hq HT hcons
        go_enter Tryz.func43, Tryz.ntmps43
        go_wp2_with (first | (go_at_call 65; refine (cL _).mono ?_; rintro e w' ⟨rfl, hq1⟩; obtain rfl : w = w' := hq1.symm) | (go_at_call 67; refine (cD _).mono ?_; rintro e w' ⟨rfl, hq2⟩; obtain rfl : w = w' := hq2.symm))
        refine cQ.mono ?_
        rintro e w1 ⟨⟨n, k, rfl, HQ⟩, b1⟩
        go_wp2
        refine bodyPost_ret (v := .tuple #[.int .i64 3, .int .i64 n, .int .i64 k]) (by simp [results, Tryz.results43, go_sem]) rfl ⟨⟨3, n, k, rfl, ?_⟩, b1⟩
        show _ = _
        rw [HT2.out, HQ.out]
      · have hqz : ((s[0].toNat : Int) == 39) = false := by rw [beq_eq_false_iff_ne]; exact u8_39n hq
        have cQ := signAhead_any s w hw
        obtain ⟨n, hn⟩ : ∃ n, sgN signsL s.data.toList = n := ⟨_, rfl⟩
        obtain ⟨k, hk⟩ : ∃ k : Int, (if n = 0 then 2 else 0) = k := ⟨_, rfl⟩
        rw [hn, hk] at cQ
        have HT2 : Hid (tokAt s.data.toList = (4, n, k)) := by have := HT.out; rwa [if_neg (by decide), if_neg (by decide), if_neg hq, hn, hk] at this
        clear hl hd hq HT hcons hn hk
        go_enter Tryz.func43, Tryz.ntmps43
        go_wp2_with (first | (go_at_call 65; refine (cL _).mono ?_; rintro e w' ⟨rfl, hq1⟩; obtain rfl : w = w' := hq1.symm) | (go_at_call 67; refine (cD _).mono ?_; rintro e w' ⟨rfl, hq2⟩; obtain rfl : w = w' := hq2.symm))
        refine cQ.mono ?_
        rintro e w1 ⟨rfl, hq3⟩
        obtain rfl : w = w1 := hq3.symm
        go_wp2
        exact bodyPost_ret (v := .tuple #[.int .i64 4, .int .i64 n, .int .i64 k]) (by simp [results, Tryz.results43, go_sem]) rfl ⟨⟨4, n, k, rfl, HT2⟩, Below.refl _ _⟩
    · rw [hd] at cD HT
      have cQ := numberAhead_any s w henv hs hp hd
      obtain ⟨n, k, hn⟩ : ∃ n k, numTok s.data.toList = (n, k) := ⟨_, _, rfl⟩
      rw [hn] at cQ
      have HT2 : Hid (tokAt s.data.toList = (2, n, k)) := by have := HT.out; rwa [if_neg (by decide), if_pos rfl, hn] at this
      clear hl hd HT hcons hn
      go_enter Tryz.func43, Tryz.ntmps43
      go_wp2_with (first | (go_at_call 65; refine (cL _).mono ?_; rintro e w' ⟨rfl, hq1⟩; obtain rfl : w = w' := hq1.symm) | (go_at_call 67; refine (cD _).mono ?_; rintro e w' ⟨rfl, hq2⟩; obtain rfl : w = w' := hq2.symm))
      refine cQ.mono ?_
      rintro e w1 ⟨rfl, b1⟩
      go_wp2
      exact bodyPost_ret (v := .tuple #[.int .i64 2, .int .i64 n, .int .i64 k]) (by simp [results, Tryz.results43, go_sem]) rfl ⟨⟨2, n, k, rfl, HT2⟩, b1⟩
  · rw [hl] at cL HT
    have cG := goesOn_lod s w (by unfold maxLen; omega)
    obtain ⟨n, hn⟩ : ∃ n, goN ldB s.data.toList = n := ⟨_, rfl⟩
    rw [hn] at cG
    have HT2 : Hid (tokAt s.data.toList = (1, n, 0)) := by have := HT.out; rwa [if_pos rfl, hn] at this
    clear hl HT hcons hn
    go_enter Tryz.func43, Tryz.ntmps43
    go_wp2_with (first | (go_at_call 65; refine (cL _).mono ?_; rintro e w' ⟨rfl, hq1⟩; obtain rfl : w = w' := hq1.symm))
    refine cG.mono ?_
    rintro e w1 ⟨rfl, hq3⟩
    obtain rfl : w = w1 := hq3.symm
    go_wp2
    exact bodyPost_ret (v := .tuple #[.int .i64 1, .int .i64 n, .int .i64 0]) (by simp [results, Tryz.results43, go_sem]) rfl ⟨⟨1, n, 0, rfl, HT2⟩, Below.refl _ _⟩
end Go.Proofs.YtnpinbpjfngknaaGreatDoor
namespace Go.Proofs.YtnpinbpjfngknaaGreatDoor
open Go.RowKit

theorem clone_any (s : ByteArray) (w : World) (hs : s.size ≤ 281474976710656) :
    Calls Tryz.prog 44 #[.string s] w fun e w' => e = .returned (.string s) ∧ Below w.heap.size w w' := by
  go_enter Tryz.func44, Tryz.ntmps44
  go_wp2_with fail
  refine (Tryz.stringslite_Clone s _ hs).mono ?_
  rintro e w1 ⟨rfl, b1⟩
  go_wp2
  go_ret
  exact ⟨rfl, b1⟩
end Go.Proofs.YtnpinbpjfngknaaGreatDoor
namespace Go.Proofs.YtnpinbpjfngknaaGreatDoor
open Go.RowKit
set_option linter.unusedVariables false

/-- A slice is no longer than its room. -/
def capOk (v : Value) : Prop := match v with
  | .slice _ n c => n ≤ c
  | _ => True
theorem own_cap {W : World} {base : Nat} {e : TypeId} {size : Nat} {v : Value} {n : Nat} {xs : List Value} (h : W.ownsRow base e size v n xs) : capOk v := by
  rcases h.2 with ⟨rfl, h0⟩ | ⟨g, cap, cur, rfl, _, _, hcap, _⟩
  · exact Nat.le_refl _
  · exact hcap
/-- What the result's cell is between the calls. -/
theorem fault_kept {w wr : World} (h : Below (w.heap.size + 1) (w.alloc (.cells #[.int .i64 0, .int .i64 0] 31)) wr) :
    wr.cell? ⟨w.heap.size, 0, none⟩ = some (.int .i64 0) ∧ wr.cell? ⟨w.heap.size, 1, none⟩ = some (.int .i64 0) ∧ wr.frozen? ⟨w.heap.size, 0, none⟩ = false ∧ wr.frozen? ⟨w.heap.size, 1, none⟩ = false ∧ w.heap.size < wr.heap.size := by
  have hz := h.size
  simp at hz
  refine ⟨?_, ?_, ?_, ?_, by omega⟩
  · rw [h.cell (p := ⟨w.heap.size, 0, none⟩) (Nat.lt_succ_self _), World.cell?_alloc_at _ _ _ _ rfl]; rfl
  · rw [h.cell (p := ⟨w.heap.size, 1, none⟩) (Nat.lt_succ_self _), World.cell?_alloc_at _ _ _ _ rfl]; rfl
  · rw [h.frozen (p := ⟨w.heap.size, 0, none⟩) (Nat.lt_succ_self _)]; simp
  · rw [h.frozen (p := ⟨w.heap.size, 1, none⟩) (Nat.lt_succ_self _)]; simp
theorem fault_below {w wr : World} (h : Below (w.heap.size + 1) (w.alloc (.cells #[.int .i64 0, .int .i64 0] 31)) wr) : Below w.heap.size w wr :=
  ((Below.refl _ _).alloc (Nat.le_refl _) _).trans (h.mono (Nat.le_succ _))
set_option maxHeartbeats 1000000 in
theorem tokens_full (s : ByteArray) (w : World) (h : 400 < s.size) :
    Calls Tryz.prog 19 #[.string s] w fun e w' => e = .returned (.tuple #[.slice none 0 0, .agg #[.int .i64 4, .int .i64 0]]) ∧ Below w.heap.size w w' := by
  have hz : (400 : Int) < (s.size : Int) := by omega
  go_enter Tryz.func19, Tryz.ntmps19
  go_wp2
  refine bodyPost_ret (v := .tuple #[.slice none 0 0, .agg #[.int .i64 4, .int .i64 0]]) (by simp [results, Tryz.results19, go_sem]) rfl ⟨rfl, ?_⟩
  exact (Below.refl _ _).alloc (Nat.le_refl _) _
set_option maxHeartbeats 8000000 in
set_option maxRecDepth 20000 in
theorem tokens_loop (s : ByteArray) (w : World) (henv : Env w) (hw : SG w) (h400 : s.size ≤ 400) :
    Calls Tryz.prog 19 #[.string s] w fun e w' => (∃ v, e = .returned (.tuple #[v, .agg #[.int .i64 (lexS (s.size + 1) 0 s.data.toList []).2.1, .int .i64 ((lexS (s.size + 1) 0 s.data.toList []).2.2 : Nat)]]) ∧ IsToks w' v (lexS (s.size + 1) 0 s.data.toList []).1 ∧ capOk v) ∧ Below w.heap.size w w' := by
  obtain ⟨R, E, P, hR⟩ : ∃ R E P, lexS (s.size + 1) 0 s.data.toList [] = (R, E, P) := ⟨_, _, _, rfl⟩
  rw [hR]
  simp only
  obtain ⟨i0, hi, hz0, hz1, hz2⟩ := info_parts info_tok
  have hz : ¬ (400 : Int) < (s.size : Int) := by omega
  have hgo : goN blB s.data.toList ≤ s.size := by have := goN_le blB s.data.toList; simpa using this
  obtain ⟨A0, hA0⟩ : ∃ A, goN blB s.data.toList = A := ⟨_, rfl⟩
  have cB := fun W => goesOn_blank s W (by unfold maxLen; omega)
  have HR0 : Hid ((R, E, P) = lexA (s.size + 1) A0 (s.data.toList.drop A0) []) := by
    show _ = _
    rw [← hR, lexS, hA0, Nat.zero_add]
  rw [hA0] at hgo cB
  clear hR hA0
  go_enter Tryz.func19, Tryz.ntmps19
  go_wp2_with (go_at_call 41; refine (cB _).mono ?_; rintro e w' ⟨rfl, rfl⟩)
  go_loopg [4, 5, 6, 7, 8] (s.size + 1) (fun gg s4 s5 _ _ _ wr => ∃ (a : Nat) (acc : List Tok), s5 = .int .i64 a ∧ a ≤ s.size ∧ s.size - a < gg ∧ wr.ownsRow (w.heap.size + 1) 79 3 s4 acc.length (tokCells acc) ∧ Aside (Below (w.heap.size + 1) (w.alloc (.cells #[.int .i64 0, .int .i64 0] 31)) wr) ∧ Hid ((R, E, P) = lexA gg a (s.data.toList.drop a) acc) ∧ acc.length ≤ a)
  case atStart => exact ⟨A0, [], rfl, hgo, by omega, World.ownsRow_nil _ _ _ _, (show Aside _ from Below.refl _ _), HR0, Nat.zero_le _⟩
  case round =>
    obtain ⟨a, acc, rfl, ha, hg, hown, BW, HR, hacc⟩ := hrel
    obtain ⟨vp, vc, rfl⟩ := lown_slice hown
    obtain ⟨g', rfl⟩ : ∃ g', gk = g' + 1 := ⟨gk - 1, by omega⟩
    clear HR0 cB
    by_cases hlt : a < s.size
    · have hltz : (a : Int) < (s.size : Int) := by omega
      obtain ⟨X, hX, hX1, hX2⟩ := slice_off s a ha
      have hne : s.data.toList.drop a ≠ [] := by rw [drop_cons s a hlt]; simp
      have HX1 : Hid (X.data.toList = s.data.toList.drop a) := hX1
      have BW0 := fault_below BW.out
      have cT := tokenAhead_any X wr (henv.on BW0) (hw.on BW0) (by omega) (by omega)
      clear hX1 BW0
      have HNE : Hid (s.data.toList.drop a ≠ []) := hne
      clear hne
      go_wp2_with fail
      refine cT.mono ?_
      rintro e w1 ⟨⟨k, n, h, rfl, HT⟩, b1⟩
      have B1 := BW.out.trans (b1.mono (by have := BW.out.size; simpa using this))
      have o1 := lown_below hown b1
      clear b1 hown cT BW
      have ht : tokAt (s.data.toList.drop a) = (k, n, h) := by rw [← HX1.out]; exact HT.out
      by_cases h0 : h = 0
      · subst h0
        obtain ⟨hn1, hn2⟩ := tokAt_len ht
        have hn3 : a + n ≤ s.size := by rw [List.length_drop] at hn2; simp at hn2; omega
        obtain ⟨Y, hY, hY1, hY2⟩ := slice_mid s a (a + n) (by omega) hn3
        obtain ⟨Z, hZ, hZ1, hZ2⟩ := slice_off s (a + n) hn3
        have hYz : ∀ W : World, Sem.run Tryz.prog (Instr.slice 9 (.string s) (some (.int .i64 (a : Int))) (some (.int .i64 ((a : Int) + (n : Int)))) none) W = .ok (.string Y) W := by
          have e : ((a + n : Nat) : Int) = (a : Int) + (n : Int) := by omega
          rw [e] at hY; exact hY
        have hZz : ∀ W : World, Sem.run Tryz.prog (Instr.slice 9 (.string s) (some (.int .i64 ((a : Int) + (n : Int)))) none none) W = .ok (.string Z) W := by
          have e : ((a + n : Nat) : Int) = (a : Int) + (n : Int) := by omega
          rw [e] at hZ; exact hZ
        have hYe : Y = ⟨((s.data.toList.drop a).take n).toArray⟩ := eq_of_list (by rw [hY1, show a + n - a = n from by omega])
        have HR2 : Hid ((R, E, P) = lexS g' (a + n) (s.data.toList.drop (a + n)) (acc ++ [(k, Y, a)])) := by
          show _ = _
          rw [HR.out, lexA_tok g' a _ acc HNE.out ht, ← hYe, List.drop_drop]
        have hgz : goN blB Z.data.toList ≤ s.size - (a + n) := by have := goN_le blB Z.data.toList; simp at this; omega
        obtain ⟨G, hG⟩ : ∃ G, goN blB Z.data.toList = G := ⟨_, rfl⟩
        have cB2 := fun W => goesOn_blank Z W (by unfold maxLen; omega)
        rw [hG] at cB2 hgz
        have HR3 : Hid ((R, E, P) = lexA g' (a + n + G) (s.data.toList.drop (a + n + G)) (acc ++ [(k, Y, a)])) := by
          show _ = _
          rw [HR2.out, lexS, ← hZ1, hG, hZ1, List.drop_drop]
        clear HR HR2 hY hZ hY1 hZ1 hYe hG ht HT hn2
        go_wp2_with fail
        refine (clone_any Y _ (by omega)).mono ?_
        rintro e w2 ⟨rfl, b2⟩
        have B2 := B1.trans (b2.mono (by have := B1.size; simpa using this))
        have o2 := lown_below o1 b2
        clear b2 o1 B1
        go_wp2_with (at_builtin; refine wpList_append_own _ rfl _ _ 45 rfl (w.heap.size + 1) 79 i0 (.agg #[.int .i64 0, .string ⟨#[]⟩, .int .i64 0]) 3 32 Tryz.underlying45 hi hz0 hz1 hz2 rfl (by decide) _ _ _ rfl (o2.alloc _) ⟨w2.heap.size, 0, none⟩ 1 1 [.int .i64 k, .string Y, .int .i64 (a : Int)] rfl rfl ?c1 ?c2 ?c3 ?c4 ?c5 ?_)
        case c1 =>
          intro i u hu
          rw [Go.WideShapes.add_plain]
          match i, hu with
          | 0, hu => simp at hu; subst hu; rw [World.cell?_alloc_at _ _ _ _ (by simp)]; rfl
          | 1, hu => simp at hu; subst hu; rw [World.cell?_alloc_at _ _ _ _ (by simp)]; rfl
          | 2, hu => simp at hu; subst hu; rw [World.cell?_alloc_at _ _ _ _ (by simp)]; rfl
        case c2 =>
          intro u hu
          simp at hu
          rcases hu with rfl | rfl | rfl <;> rfl
        case c3 => unfold maxLen; omega
        case c4 => omega
        case c5 => have := B2.size; simp at this ⊢; omega
        · intro v' w3 hown' hgrow _
          have RR := rel_tok o2 B2 (by have := B2.size; simp at this; omega) hown' hgrow
          clear hown' hgrow o2
          go_wp2_with fail
          refine (cB2 _).mono ?_
          rintro e w4 ⟨rfl, hq4⟩
          obtain rfl : w3 = w4 := hq4.symm
          go_wp2
          go_roundg g'
          case measure => omega
          case rel => exact ⟨a + n + G, acc ++ [(k, Y, a)], by go_num, by omega, by omega, RR.1, RR.2, HR3, by rw [List.length_append, List.length_singleton]; omega⟩
      · have hF : (R, E, P) = ([], h, a) := by rw [HR.out, lexA_bad g' a _ acc HNE.out ht h0]
        have he := Prod.mk.inj hF
        obtain ⟨rfl, he⟩ := he
        obtain ⟨rfl, rfl⟩ := Prod.mk.inj he
        have hz0 : (E != 0) = true := by simpa using h0
        obtain ⟨q0, q1, q2, q3, ql⟩ := fault_kept B1
        clear HR ht HT h0 hF he o1
        go_wp2
        refine bodyPost_ret (v := .tuple #[.slice none 0 0, .agg #[.int .i64 E, .int .i64 (P : Nat)]]) (by simp [results, Tryz.results19, go_sem, q0, q1]) rfl ⟨⟨_, rfl, isToks_nil _, Nat.le_refl _⟩, ?_⟩
        exact ((fault_below B1).setCell (Nat.le_refl _) _).setCell (Nat.le_refl _) _
    · have hltz : ¬ (a : Int) < (s.size : Int) := by omega
      have hF : (R, E, P) = (acc, 0, 0) := by
        have h := HR.out
        rw [List.drop_eq_nil_of_le (by simp; omega), lexA_nil] at h
        exact h
      obtain ⟨rfl, he⟩ := Prod.mk.inj hF
      obtain ⟨rfl, rfl⟩ := Prod.mk.inj he
      obtain ⟨q0, q1, q2, q3, ql⟩ := fault_kept BW.out
      clear HR hF he
      go_wp2
      refine bodyPost_ret (v := .tuple #[.slice vp R.length vc, .agg #[.int .i64 0, .int .i64 0]]) (by simp [results, Tryz.results19, go_sem, q0, q1]) rfl ⟨⟨_, rfl, ?_, own_cap hown⟩, ?_⟩
      · exact own_toks (lown_set (lown_set hown 0 (.int .i64 0)) 1 (.int .i64 0))
      · exact ((fault_below BW.out).setCell (Nat.le_refl _) _).setCell (Nat.le_refl _) _
theorem tokens_any (s : ByteArray) (w : World) (henv : Env w) (hw : SG w) :
    Calls Tryz.prog 19 #[.string s] w fun e w' => (∃ v, e = .returned (.tuple #[v, .agg #[.int .i64 (lexAll s.data.toList).2.1, .int .i64 ((lexAll s.data.toList).2.2 : Nat)]]) ∧ IsToks w' v (lexAll s.data.toList).1 ∧ capOk v) ∧ Below w.heap.size w w' := by
  have hl : s.data.toList.length = s.size := by simp
  by_cases h : 400 < s.size
  · rw [lexAll, if_pos (by omega)]
    exact (tokens_full s w h).mono fun e w' hh => ⟨⟨_, hh.1, isToks_nil _, Nat.le_refl _⟩, hh.2⟩
  · rw [lexAll, if_neg (by omega), hl]
    exact tokens_loop s w henv hw (by omega)
/-- The same, the answer under a name. -/
theorem tokens_cap (s : ByteArray) (R : List Tok) (E : Int) (P : Nat) (w : World) (henv : Env w) (hw : SG w) (h : lexAll s.data.toList = (R, E, P)) :
    Calls Tryz.prog 19 #[.string s] w fun e w' => (∃ v, e = .returned (.tuple #[v, .agg #[.int .i64 E, .int .i64 (P : Nat)]]) ∧ IsToks w' v R ∧ capOk v) ∧ Below w.heap.size w w' := by
  have := tokens_any s w henv hw
  rw [h] at this
  exact this
theorem tokens_as (s : ByteArray) (R : List Tok) (E : Int) (P : Nat) (w : World) (henv : Env w) (hw : SG w) (h : lexAll s.data.toList = (R, E, P)) :
    Calls Tryz.prog 19 #[.string s] w fun e w' => (∃ v, e = .returned (.tuple #[v, .agg #[.int .i64 E, .int .i64 (P : Nat)]]) ∧ IsToks w' v R) ∧ Below w.heap.size w w' :=
  (tokens_cap s R E P w henv hw h).mono fun e w' hh => by
    obtain ⟨⟨v, h1, h2, _⟩, h3⟩ := hh
    exact ⟨⟨v, h1, h2⟩, h3⟩
end Go.Proofs.YtnpinbpjfngknaaGreatDoor
