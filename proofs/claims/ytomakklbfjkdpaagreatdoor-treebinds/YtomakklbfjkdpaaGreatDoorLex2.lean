/-
  What signAhead and numberAhead of package lex say of any text.
-/
import Derived.Test.YtomakklbfjkdpaaGreatDoorLex1
import Derived.WalkSmall
namespace Go.Proofs.YtomakklbfjkdpaaGreatDoor
open Go.RowKit
set_option linter.unusedVariables false

/-- The signs, as the package's variable holds them. -/
structure SG (w : World) : Prop where
  c0 : w.cell? ⟨2, 0, none⟩ = some (.string ⟨#[60, 62]⟩)
  c1 : w.cell? ⟨2, 1, none⟩ = some (.string ⟨#[60, 61]⟩)
  c2 : w.cell? ⟨2, 2, none⟩ = some (.string ⟨#[62, 61]⟩)
  c3 : w.cell? ⟨2, 3, none⟩ = some (.string ⟨#[60]⟩)
  c4 : w.cell? ⟨2, 4, none⟩ = some (.string ⟨#[62]⟩)
  c5 : w.cell? ⟨2, 5, none⟩ = some (.string ⟨#[61]⟩)
  c6 : w.cell? ⟨2, 6, none⟩ = some (.string ⟨#[40]⟩)
  c7 : w.cell? ⟨2, 7, none⟩ = some (.string ⟨#[41]⟩)
  c8 : w.cell? ⟨2, 8, none⟩ = some (.string ⟨#[44]⟩)
  c9 : w.cell? ⟨2, 9, none⟩ = some (.string ⟨#[43]⟩)
  c10 : w.cell? ⟨2, 10, none⟩ = some (.string ⟨#[45]⟩)
  c11 : w.cell? ⟨2, 11, none⟩ = some (.string ⟨#[42]⟩)
  c12 : w.cell? ⟨2, 12, none⟩ = some (.string ⟨#[47]⟩)
  c13 : w.cell? ⟨2, 13, none⟩ = some (.string ⟨#[37]⟩)
  lt : 2 < w.heap.size
theorem SG.on {w w' : World} (h : SG w) (hb : Below w.heap.size w w') : SG w' := by
  have hl := h.lt
  have hz := hb.size
  have key : ∀ o : Nat, w'.cell? ⟨2, o, none⟩ = w.cell? ⟨2, o, none⟩ := fun o => hb.cell (p := ⟨2, o, none⟩) hl
  refine ⟨?_, ?_, ?_, ?_, ?_, ?_, ?_, ?_, ?_, ?_, ?_, ?_, ?_, ?_, by omega⟩
  · rw [key]; exact h.c0
  · rw [key]; exact h.c1
  · rw [key]; exact h.c2
  · rw [key]; exact h.c3
  · rw [key]; exact h.c4
  · rw [key]; exact h.c5
  · rw [key]; exact h.c6
  · rw [key]; exact h.c7
  · rw [key]; exact h.c8
  · rw [key]; exact h.c9
  · rw [key]; exact h.c10
  · rw [key]; exact h.c11
  · rw [key]; exact h.c12
  · rw [key]; exact h.c13
theorem SG.alloc {w : World} (h : SG w) (o : Obj) : SG (w.alloc o) := h.on ((Below.refl _ _).alloc (Nat.le_refl _) o)
theorem sgN_hit {l g : List UInt8} {k : Nat} (hk : k < signsL.length) (hg : signsL[k] = g) (hp : Lib.hasPrefix l g = true) {E : Nat} (hE : E = sgN (signsL.drop k) l) : E = g.length := by
  rw [hE, List.drop_eq_getElem_cons hk, sgN, hg, if_pos hp]
theorem sgN_next {l g : List UInt8} {k : Nat} (hk : k < signsL.length) (hg : signsL[k] = g) (hp : Lib.hasPrefix l g = false) {E : Nat} (hE : E = sgN (signsL.drop k) l) : E = sgN (signsL.drop (k + 1)) l := by
  rw [hE, List.drop_eq_getElem_cons hk, sgN, hg, if_neg (by rw [hp]; decide)]
theorem sign_at (k : Nat) (hk : k < 14) : ∃ S : ByteArray, (∀ W : World, Sem.run Tryz.prog (Instr.index 140 (.agg #[.string ⟨#[60, 62]⟩, .string ⟨#[60, 61]⟩, .string ⟨#[62, 61]⟩, .string ⟨#[60]⟩, .string ⟨#[62]⟩, .string ⟨#[61]⟩, .string ⟨#[40]⟩, .string ⟨#[41]⟩, .string ⟨#[44]⟩, .string ⟨#[43]⟩, .string ⟨#[45]⟩, .string ⟨#[42]⟩, .string ⟨#[47]⟩, .string ⟨#[37]⟩]) (.int .i64 (k : Int))) W = .ok (.string S) W) ∧ signsL[k]'hk = S.data.toList ∧ 1 ≤ S.size ∧ S.size ≤ 2 := by
  have h : k = 0 ∨ k = 1 ∨ k = 2 ∨ k = 3 ∨ k = 4 ∨ k = 5 ∨ k = 6 ∨ k = 7 ∨ k = 8 ∨ k = 9 ∨ k = 10 ∨ k = 11 ∨ k = 12 ∨ k = 13 := by omega
  rcases h with rfl | rfl | rfl | rfl | rfl | rfl | rfl | rfl | rfl | rfl | rfl | rfl | rfl | rfl
  · exact ⟨⟨#[60, 62]⟩, fun W => by kernel_rfl, rfl, by decide, by decide⟩
  · exact ⟨⟨#[60, 61]⟩, fun W => by kernel_rfl, rfl, by decide, by decide⟩
  · exact ⟨⟨#[62, 61]⟩, fun W => by kernel_rfl, rfl, by decide, by decide⟩
  · exact ⟨⟨#[60]⟩, fun W => by kernel_rfl, rfl, by decide, by decide⟩
  · exact ⟨⟨#[62]⟩, fun W => by kernel_rfl, rfl, by decide, by decide⟩
  · exact ⟨⟨#[61]⟩, fun W => by kernel_rfl, rfl, by decide, by decide⟩
  · exact ⟨⟨#[40]⟩, fun W => by kernel_rfl, rfl, by decide, by decide⟩
  · exact ⟨⟨#[41]⟩, fun W => by kernel_rfl, rfl, by decide, by decide⟩
  · exact ⟨⟨#[44]⟩, fun W => by kernel_rfl, rfl, by decide, by decide⟩
  · exact ⟨⟨#[43]⟩, fun W => by kernel_rfl, rfl, by decide, by decide⟩
  · exact ⟨⟨#[45]⟩, fun W => by kernel_rfl, rfl, by decide, by decide⟩
  · exact ⟨⟨#[42]⟩, fun W => by kernel_rfl, rfl, by decide, by decide⟩
  · exact ⟨⟨#[47]⟩, fun W => by kernel_rfl, rfl, by decide, by decide⟩
  · exact ⟨⟨#[37]⟩, fun W => by kernel_rfl, rfl, by decide, by decide⟩
set_option maxHeartbeats 4000000 in
set_option maxRecDepth 20000 in
theorem signAhead_any (s : ByteArray) (w : World) (hw : SG w) :
    Calls Tryz.prog 72 #[.string s] w fun e w' => e = .returned (.tuple #[.int .i64 (sgN signsL s.data.toList : Nat), .int .i64 (if sgN signsL s.data.toList = 0 then 2 else 0)]) ∧ w' = w := by
  obtain ⟨E, hE⟩ : ∃ E, sgN signsL s.data.toList = E := ⟨_, rfl⟩
  rw [hE]
  obtain ⟨Z, hZ⟩ : ∃ Z : Int, (if E = 0 then 2 else 0) = Z := ⟨_, rfl⟩
  rw [hZ]
  have HZ : Hid ((if E = 0 then 2 else 0) = Z) := hZ
  have HE0 : Hid (sgN signsL s.data.toList = E) := hE
  clear hZ hE
  obtain ⟨g0, g1, g2, g3, g4, g5, g6, g7, g8, g9, g10, g11, g12, g13, gl⟩ := hw
  go_enter Tryz.func72, Tryz.ntmps72
  go_wp2
  go_loopg [5, 7] 14 (fun gg _ s7 wr => ∃ kk : Nat, kk ≤ 14 ∧ 14 - kk ≤ gg ∧ s7 = .int .i64 kk ∧ wr = w ∧ Hid (E = sgN (signsL.drop kk) s.data.toList))
  case atStart => exact ⟨0, Nat.zero_le _, by omega, rfl, rfl, HE0.out.symm⟩
  case round =>
    obtain ⟨kk, hkk, hg, rfl, rfl, HE⟩ := hrel
    by_cases hlt : kk < 14
    · have hltz : (kk : Int) < 14 := by omega
      obtain ⟨S, hS, hS1, hS2, hS3⟩ := sign_at kk hlt
      have cP := fun W => Tryz.strings_HasPrefix s S W
      cases hp : Lib.hasPrefix s.data.toList S.data.toList
      · rw [hp] at cP
        have HE2 : Hid (E = sgN (signsL.drop (kk + 1)) s.data.toList) := sgN_next hlt hS1 hp HE.out
        clear hp HE hS1 g0 g1 g2 g3 g4 g5 g6 g7 g8 g9 g10 g11 g12 g13
        go_wp2_with fail
        refine (cP _).mono ?_
        rintro e w' ⟨rfl, rfl⟩
        go_wp2
        go_roundg (14 - (kk + 1))
        case measure => omega
        case rel => exact ⟨kk + 1, by omega, by omega, by go_num, rfl, HE2⟩
      · rw [hp] at cP
        have HE2 : E = S.size := by rw [sgN_hit hlt hS1 hp HE.out, Lib.size_eq]
        have HE3 : Hid (E = S.size) := HE2
        clear hp HE hS1 HE2 g0 g1 g2 g3 g4 g5 g6 g7 g8 g9 g10 g11 g12 g13
        go_wp2_with fail
        refine (cP _).mono ?_
        rintro e w' ⟨rfl, rfl⟩
        go_wp2
        go_ret2
        refine ⟨?_, rfl⟩
        have hz := HZ.out
        rw [HE3.out, if_neg (by omega)] at hz
        rw [HE3.out, ← hz]
        rfl
    · have hltz : ¬ (kk : Int) < 14 := by omega
      have HE2 : E = 0 := by
        rw [HE.out, List.drop_eq_nil_of_le (by show 14 ≤ kk; omega)]; rfl
      subst HE2
      have hz : 2 = Z := by have := HZ.out; rwa [if_pos rfl] at this
      subst hz
      clear HE HZ HE0 g0 g1 g2 g3 g4 g5 g6 g7 g8 g9 g10 g11 g12 g13
      go_wp2
      go_ret2
      exact ⟨rfl, rfl⟩
theorem parse_val : ∀ (l : List UInt8) (a u : Nat), l.all digB = true → Lib.parseUint10 a l = .ok u → u = l.foldl (fun a c => a * 10 + (c.toNat - 48)) a
  | [], a, u, _, h => by
    simp only [Lib.parseUint10] at h
    injection h with h
    exact h.symm
  | c :: r, a, u, ha, h => by
    rw [List.all_cons, Bool.and_eq_true] at ha
    simp only [Lib.parseUint10] at h
    split at h
    · split at h
      · cases h
      · split at h
        · cases h
        · exact parse_val r _ u ha.2 h
    · cases h
theorem atoi_dig {t : List UInt8} (hne : t ≠ []) (ha : t.all digB = true) (hz : ¬ (1 < t.length ∧ t.head? = some 48)) : (val10 t ≤ 9223372036854775807 → Lib.atoiAll t = .ok (val10 t : Nat)) ∧ (9223372036854775807 < val10 t → ∀ n, Lib.atoiAll t ≠ .ok n) := by
  constructor
  · intro hv
    have hl : t.length ≠ 0 := fun e => hne (List.length_eq_zero_iff.1 e)
    have hd := dec_val (t.length - 1) t (by omega) ha (fun r e => Classical.byContradiction fun hr => hz ⟨by rw [e]; cases r with | nil => exact absurd rfl hr | cons _ _ => simp, by rw [e]; rfl⟩)
    have hi : Lib.itoa (val10 t : Nat) = t := by rw [Lib.itoa, if_neg (by omega), show ((val10 t : Nat) : Int).toNat = val10 t from by omega, hd]
    have := atoi_itoa (val10 t : Nat) (by omega)
    rwa [hi] at this
  · intro hv n hn
    cases t with
    | nil => exact hne rfl
    | cons c r =>
      have hc := (digB_iff c).1 (by rw [List.all_cons, Bool.and_eq_true] at ha; exact ha.1)
      simp only [Lib.atoiAll] at hn
      rw [if_neg (by omega)] at hn
      split at hn
      · cases hn
      · cases hn
      · rename_i u hu
        rw [Lib.parseMag, if_neg (by simp)] at hu
        have hu2 : u = val10 (c :: r) := parse_val _ 0 u ha hu
        rw [if_pos ⟨by omega, by omega⟩] at hn
        cases hn
theorem slice_to (s : ByteArray) (n : Nat) (h : n ≤ s.size) : ∃ X : ByteArray, (∀ W : World, Sem.run Tryz.prog (Instr.slice 9 (.string s) none (some (.int .i64 (n : Int))) none) W = .ok (.string X) W) ∧ X.data.toList = s.data.toList.take n ∧ X.size = n := by
  refine ⟨s.extract 0 n, fun W => ?_, ?_, ?_⟩
  · have := run_slice_string_h (P := Tryz.prog) W 9 s Tryz.underlying9 .i64 (n : Int) (by omega) (by omega)
    rw [this]
    simp
  · simp
  · simp; omega
theorem slice_off (s : ByteArray) (n : Nat) (h : n ≤ s.size) : ∃ X : ByteArray, (∀ W : World, Sem.run Tryz.prog (Instr.slice 9 (.string s) (some (.int .i64 (n : Int))) none none) W = .ok (.string X) W) ∧ X.data.toList = s.data.toList.drop n ∧ X.size = s.size - n := by
  refine ⟨s.extract n s.size, fun W => ?_, ?_, ?_⟩
  · have := run_slice_string_l (P := Tryz.prog) W 9 s Tryz.underlying9 .i64 (n : Int) (by omega) (by omega)
    rw [this]
    simp
  · have : (s.extract n s.size).data.toList = (s.data.toList.drop n).take (s.size - n) := by simp
    rw [this, List.take_of_length_le (by simp)]
  · simp
theorem slice_mid (s : ByteArray) (a b : Nat) (h1 : a ≤ b) (h : b ≤ s.size) : ∃ X : ByteArray, (∀ W : World, Sem.run Tryz.prog (Instr.slice 9 (.string s) (some (.int .i64 (a : Int))) (some (.int .i64 (b : Int))) none) W = .ok (.string X) W) ∧ X.data.toList = (s.data.toList.drop a).take (b - a) ∧ X.size = b - a := by
  refine ⟨s.extract a b, fun W => ?_, ?_, ?_⟩
  · have := run_slice_string (P := Tryz.prog) W 9 s .i64 .i64 (a : Int) (b : Int) Tryz.underlying9 (by omega) (by omega) (by omega)
    rw [this]
    simp
  · simp
  · simp; omega
end Go.Proofs.YtomakklbfjkdpaaGreatDoor
