/-
  The document's Uses, the program's, and sluicesame's Texts of two lists that are the same.
-/
import Derived.Test.YtknibfhoecgjlaaGreatDoorQRfU
import Derived.Test.YtknibfhoecgjlaaGreatDoorGrAo
namespace Go.Proofs.YtknibfhoecgjlaaGreatDoor
open Go.RowKit
set_option linter.unusedVariables false

def baT (l : List UInt8) : ByteArray := ⟨l.toArray⟩
theorem ba_back {bs : List ByteArray} {ss : List (List UInt8)} (h : bs.map toL = ss) : bs = ss.map baT := by
  subst h
  rw [List.map_map]
  conv => lhs; rw [← List.map_id bs]
  exact List.map_congr_left fun b _ => by cases b; simp [toL, baT]
mutual
theorem cols_len : ∀ x : Ex, (colsP x).length ≤ x.size
  | .node op nm vt vn vs pos l => by
    have := colss_len l
    rw [colsP, Ex.size, List.length_append]
    split
    · simp; omega
    · simp; omega
theorem colss_len : ∀ l : List Ex, (colssP l).length ≤ Ex.sizes l
  | [] => by rw [colssP]; simp
  | x :: xs => by
    have := cols_len x
    have := colss_len xs
    rw [colssP, Ex.sizes, List.length_append]
    omega
end
theorem us_len (x : Ex) : (usP x).length ≤ x.size := by
  have := foldl_insN_len (colsP x) []
  have := cols_len x
  rw [usP]
  simp at *
  omega
theorem refUses_any (x : Ex) (lo : Nat → Prop) (v : Value) (w : World) (hA : AllN (fun q => q.op.data.toList = [99, 111, 108] → q.args = []) x) (hx : ExIn w lo v x) (hsz : x.size + 1 ≤ 1048576) :
    Calls Tryz.prog 11 #[v] w fun e w' => (∃ u, e = .returned u ∧ StsA w' u ((usP x).map baT)) ∧ Below w.heap.size w w' := by
  obtain ⟨o1, n1, t1, k1, s1, p1, m1, c1, a1, rfl⟩ := hx.agg
  have b1 : Below w.heap.size w (w.alloc (.cells #[.string o1, .string n1, .int .i64 t1, .int .i64 k1, .string s1, .slice p1 m1 c1, .int .i64 a1] 26)) := (Below.refl _ w).alloc (Nat.le_refl _) _
  have cR := refUses_rec x lo _ _ [] _ hA (hx.on b1) (StsA.nil _) List.Pairwise.nil (by have := cols_len x; simp; omega)
  clear hA hx hsz
  go_enter Tryz.func11, Tryz.ntmps11
  go_wp2_with fail
  refine cR.mono ?_
  rintro e w1 ⟨⟨u, rfl, bs, hs, hb⟩, b2⟩
  have hb' : bs.map toL = usP x := hb
  have HS : Aside (StsA w1 u ((usP x).map baT)) := by rw [← ba_back hb']; exact hs
  have HB : Aside (Below w.heap.size w w1) := b1.trans (b2.mono (by simp))
  clear cR hs hb hb' b2 b1
  go_wp2
  go_ret
  exact ⟨⟨_, rfl, HS.out⟩, HB.out⟩
/-- The program's names, as they lie there. -/
theorem uses_sts (x : Ex) (lo : Nat → Prop) (v : Value) (w : World) (henv : TEnv w) (hx : ExIn w lo v x) (hsz : (x.pre 1).length ≤ 1048576) (hs2 : x.size ≤ 1048576) :
    Calls Tryz.prog 12 #[v] w fun e w' => (∃ u, e = .returned (.tuple #[u, errV (ckP x)]) ∧ StsA w' u (if ckP x = 0 then (usP x).map baT else [])) ∧ Below w.heap.size w w' := by
  refine (uses_any x lo v w henv hx hsz).mono ?_
  rintro e w' ⟨⟨u, rfl, h1, h2⟩, hb⟩
  refine ⟨⟨u, rfl, ?_⟩, hb⟩
  by_cases hc : ckP x = 0
  · rw [if_pos hc]
    obtain ⟨ss, hs, hrow⟩ := h1.out hc
    obtain rfl := nmS_eq hs
    refine sts_own (B := w.heap.size) (n := (usP x).length) (by simp) (by have := us_len x; omega) ?_
    rw [List.map_map]
    exact hrow
  · rw [if_neg hc, h2.out hc]
    exact StsA.nil _
set_option maxHeartbeats 2000000 in
theorem texts_sts (u v : Value) (bs : List ByteArray) (w : World) (hu : StsA w u bs) (hv : StsA w v bs) :
    Calls Tryz.prog 13 #[u, v] w fun e w' => e = .returned (.bool true) ∧ Below w.heap.size w w' := by
  obtain ⟨p, c, rfl⟩ := sts_form hu
  obtain ⟨q, d, rfl⟩ := sts_form hv
  obtain ⟨N, hN⟩ : ∃ N, bs.length = N := ⟨_, rfl⟩
  have HN : Hid (bs.length = N) := hN
  simp only [hN] at hu hv ⊢
  have HU : Aside (StsA w (.slice p N c) bs) := hu
  have HV : Aside (StsA w (.slice q N d) bs) := hv
  have hN2 : N ≤ 1048576 := by
    obtain ⟨p', c', e, ⟨_, h⟩, _⟩ := hu
    omega
  have hNz : (N : Int) ≤ 1048576 := by omega
  have qn : ((N : Int) != (N : Int)) = false := by simp
  clear hu hv hN
  go_enter Tryz.func13, Tryz.ntmps13
  go_wp2
  go_loopg [5] N (fun gg s5 wr => ∃ kk : Nat, kk ≤ N ∧ N - kk ≤ gg ∧ s5 = .int .i64 kk ∧ Aside (Below w.heap.size w wr))
  case atStart => exact ⟨0, Nat.zero_le _, by omega, rfl, (show Aside _ from Below.refl _ _)⟩
  case round =>
    obtain ⟨kk, hkk, hg, rfl, BW⟩ := hrel
    by_cases hlt : kk < N
    · have hltz : (kk : Int) < (N : Int) := by omega
      have h0z : (0 : Int) ≤ (kk : Int) := by omega
      have hk2 : kk < bs.length := by rw [HN.out]; exact hlt
      obtain ⟨b1, o1, rfl, l1, h1⟩ := sts_some HU.out hk2
      obtain ⟨b2, o2, rfl, l2, h2⟩ := sts_some HV.out hk2
      have e1 : wr.cell? ⟨b1, o1 + kk, none⟩ = some (.string bs[kk]) := by rw [BW.out.cell (p := ⟨b1, _, none⟩) l1]; exact h1 kk hk2
      have e2 : wr.cell? ⟨b2, o2 + kk, none⟩ = some (.string bs[kk]) := by rw [BW.out.cell (p := ⟨b2, _, none⟩) l2]; exact h2 kk hk2
      clear h1 h2
      generalize bs[kk] = S at e1 e2
      have qs : (S.toList == S.toList) = true := by simp
      go_wp2
      go_quiet (fail)
      go_wp2
      go_roundg (N - (kk + 1))
      case measure => omega
      case rel => exact ⟨kk + 1, by omega, by omega, by go_num, (show Aside _ from below_drewN BW.out _)⟩
    · have hltz : ¬ (kk : Int) < (N : Int) := by omega
      go_wp2
      go_ret
      exact ⟨rfl, BW.out⟩
end Go.Proofs.YtknibfhoecgjlaaGreatDoor
