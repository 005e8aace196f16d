/-
  The walk of sluicelaw1.LexTells, for all texts.
-/
import Derived.Test.YtacfgibmdobnpabDoorRefLex2
import Derived.Test.YtacfgibmdobnpabDoorLexSame
import Derived.Test.YtacfgibmdobnpabDoorLexBk
namespace Go.Proofs.YtacfgibmdobnpabDoor
open Go.RowKit
set_option linter.unusedVariables false

theorem lexAll_sized {s : List UInt8} {R : List Tok} {E : Int} {P : Nat} (h : lexAll s = (R, E, P)) : R.length ≤ 400 ∧ ∀ t ∈ R, t.2.1.size ≤ 400 := by
  by_cases hE : E = 0
  · subst hE
    obtain ⟨h1, _, h3, _⟩ := lexAll_ok h
    obtain ⟨h5, h6⟩ := stand_small _ R 0 (Nat.zero_le _) h3
    exact ⟨by omega, fun t ht => by have := (h6 t ht).1; omega⟩
  · obtain ⟨rfl, _, _⟩ := lexAll_bad h hE
    exact ⟨by simp, fun t ht => by simp at ht⟩
set_option maxHeartbeats 16000000 in
set_option maxRecDepth 20000 in
theorem lextells_any (s : ByteArray) (w : World) (henv : Env w) (hw : SG w) :
    Calls Tryd.prog 4 #[.string s] w fun e w' => e = .returned (.bool true) ∧ Below w.heap.size w w' := by
  obtain ⟨R, E, P, hR⟩ : ∃ R E P, lexAll s.data.toList = (R, E, P) := ⟨_, _, _, rfl⟩
  obtain ⟨hrn, hrz⟩ := lexAll_sized hR
  have HR : Hid (lexAll s.data.toList = (R, E, P)) := hR
  have HZ : Hid (∀ t ∈ R, t.2.1.size ≤ 400) := hrz
  clear hR hrz
  go_enter Tryd.func4, Tryd.ntmps4
  go_wp2_with fail
  refine (refTok_any s R E P _ HR.out).mono ?_
  rintro e w1 ⟨⟨v1, rfl, hv1⟩, b1⟩
  go_wp2_with fail
  refine (tokens_as s R E P _ (henv.on b1) (hw.on b1) HR.out).mono ?_
  rintro e w2 ⟨⟨v2, rfl, hv2⟩, b2⟩
  have B2 : Below w.heap.size w (w2.alloc (.cells #[.int .i64 E, .int .i64 (P : Int)] 36)) := (b1.trans (b2.mono b1.size)).alloc (b1.trans (b2.mono b1.size)).size _
  have H1 : IsToks (w2.alloc (.cells #[.int .i64 E, .int .i64 (P : Int)] 36)) v1 R := (hv1.on b2).on ((Below.refl _ _).alloc (Nat.le_refl _) _)
  have H2 : IsToks (w2.alloc (.cells #[.int .i64 E, .int .i64 (P : Int)] 36)) v2 R := hv2.on ((Below.refl _ _).alloc (Nat.le_refl _) _)
  have f0 : (w2.alloc (.cells #[.int .i64 E, .int .i64 (P : Int)] 36)).cell? ⟨w2.heap.size, 0, none⟩ = some (.int .i64 E) := by rw [World.cell?_alloc_at _ _ _ _ rfl]; rfl
  have f1 : (w2.alloc (.cells #[.int .i64 E, .int .i64 (P : Int)] 36)).cell? ⟨w2.heap.size, 1, none⟩ = some (.int .i64 (P : Int)) := by rw [World.cell?_alloc_at _ _ _ _ rfl]; rfl
  clear b1 b2 hv1 hv2 HR
  go_wp2_with fail
  refine (toks_v v2 v1 R _ H2 H1).mono ?_
  rintro e w3 ⟨rfl, b3⟩
  have B3 := B2.trans (b3.mono B2.size)
  have H3 := H2.on b3
  have g0 : w3.cell? ⟨w2.heap.size, 0, none⟩ = some (.int .i64 E) := by rw [b3.cell (p := ⟨w2.heap.size, 0, none⟩) (by simp)]; exact f0
  have g1 : w3.cell? ⟨w2.heap.size, 1, none⟩ = some (.int .i64 (P : Int)) := by rw [b3.cell (p := ⟨w2.heap.size, 1, none⟩) (by simp)]; exact f1
  have gl : w2.heap.size < w3.heap.size := cell_lt4 g0
  clear f0 f1 H1 H2 b3 B2
  have H3' := H3
  obtain ⟨p2, c2, rfl, hm2, hin2⟩ := H3
  go_wp2
  go_loopg [9, 10] R.length (fun gg s9 s10 wr => ∃ (kk : Nat) (T : ByteArray), kk ≤ R.length ∧ R.length - kk ≤ gg ∧ s10 = .int .i64 kk ∧ s9 = .string T ∧ wr = w3 ∧ Hid (T.data.toList = joinL (R.take kk)) ∧ T.size ≤ kk * 401)
  case atStart => exact ⟨0, ⟨#[]⟩, Nat.zero_le _, by omega, rfl, rfl, rfl, rfl, by decide⟩
  case round =>
    obtain ⟨kk, T, hkk, hg, rfl, rfl, rfl, HT, hT⟩ := hrel
    by_cases hlt : kk < R.length
    · have hltz : (kk : Int) < (R.length : Int) := by omega
      have k0 : (0 : Int) ≤ (kk : Int) := by omega
      rcases hin2 with h0 | ⟨b, off, rfl, hin⟩
      · exact absurd h0 (by omega)
      obtain ⟨d0, d1, d2⟩ := hin.2 kk hlt
      have hbl := hin.1
      have HS : Hid (joinL (R.take (kk + 1)) = (if kk = 0 then [] else joinL (R.take kk) ++ [32]) ++ R[kk].2.1.data.toList) := join_step hlt
      have hys := HZ.out _ (List.getElem_mem hlt)
      generalize R[kk] = y at d0 d1 d2 HS hys
      obtain ⟨yk, yx, ya⟩ := y
      simp only at d0 d1 d2 HS hys
      by_cases h0 : kk = 0
      · have hz0 : ¬ (0 : Int) < (kk : Int) := by omega
        have HA : Hid ((T ++ yx).data.toList = joinL (R.take (kk + 1))) := by
          show _ = _
          rw [app_l, HS.out, if_pos h0, HT.out, h0]; rfl
        have hs3 : (T ++ yx).size ≤ (kk + 1) * 401 := by rw [app_z]; omega
        have hs4 : T.size + yx.size ≤ 1000000 := by omega
        clear HS HT h0
        go_wp2
        go_roundg (R.length - (kk + 1))
        case measure => omega
        case rel => exact ⟨kk + 1, _, by omega, by omega, by go_num, rfl, rfl, HA, hs3⟩
      · have hz0 : (0 : Int) < (kk : Int) := by omega
        have h32 : (⟨#[32]⟩ : ByteArray).size = 1 := rfl
        have hs1 : (T ++ ⟨#[32]⟩).size = T.size + 1 := by rw [app_z, h32]
        have hs2 : (T ++ ⟨#[32]⟩).size ≤ 1000000 := by omega
        have HA : Hid ((T ++ ⟨#[32]⟩ ++ yx).data.toList = joinL (R.take (kk + 1))) := by
          show _ = _
          rw [app_l, app_l, HS.out, if_neg h0, HT.out]
        have hs3 : (T ++ ⟨#[32]⟩ ++ yx).size ≤ (kk + 1) * 401 := by rw [app_z, hs1]; omega
        clear HS HT h0 hs1 h32
        go_wp2
        go_roundg (R.length - (kk + 1))
        case measure => omega
        case rel => exact ⟨kk + 1, _, by omega, by omega, by go_num, rfl, rfl, HA, hs3⟩
    · have hltz : ¬ (kk : Int) < (R.length : Int) := by omega
      have HT2 : Hid (T.data.toList = joinL R) := by
        have := HT.out
        rwa [List.take_of_length_le (by omega)] at this
      have cJ := join_v _ R T _ H3' hrn HZ.out HT2.out
      clear HT hin2
      go_wp2_with (first | (go_at_call 12; refine cJ.mono ?_; rintro e w4 ⟨rfl, b4⟩))
      go_ret
      exact ⟨rfl, B3.trans (b4.mono B3.size)⟩
end Go.Proofs.YtacfgibmdobnpabDoor
