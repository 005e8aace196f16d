/-
  What byWord and parseCol of package row say of any text.
-/
import Derived.Test.YtggabncpedcmdaaGreatDoorRowCutC
import Derived.Test.YtggabncpedcmdaaGreatDoorRow4
import Derived.Test.YtggabncpedcmdaaGreatDoorClone
import Derived.Deep.RegionWith
namespace Go.Proofs.YtggabncpedcmdaaGreatDoor
open Go.RowKit
set_option linter.unusedVariables false

/-- The type of a word; 0: it is none. -/
def typeOfW (l : List UInt8) : Int := if l = [105, 110, 116] then 1 else if l = [98, 111, 111, 108] then 2 else if l = [116, 101, 120, 116] then 3 else 0
theorem byWord_yes (nm : ByteArray) (w : World) (hw : TW w) (h : typeOfW nm.data.toList ≠ 0) :
    Calls Tryz.prog 87 #[.string nm] w fun e w' => (∃ s, e = .returned (.tuple #[.agg #[.int .i64 (typeOfW nm.data.toList), .string s], .bool true])) ∧ Below w.heap.size w w' := by
  rw [typeOfW] at h ⊢
  by_cases h1 : nm.data.toList = [105, 110, 116]
  · rw [if_pos h1]
    have hq : (([105, 110, 116] : List UInt8) == nm.data.toList) = true := by rw [h1]; rfl
    exact (byWord_as nm 1 _ true w hw fun p W hW hp => findW_1 nm p W hW hp hq).mono fun e w' hh => ⟨⟨_, hh.1⟩, hh.2⟩
  · have n1 : (([105, 110, 116] : List UInt8) == nm.data.toList) = false := by simpa using fun e => h1 e.symm
    rw [if_neg h1] at h ⊢
    by_cases h2 : nm.data.toList = [98, 111, 111, 108]
    · rw [if_pos h2]
      have hq : (([98, 111, 111, 108] : List UInt8) == nm.data.toList) = true := by rw [h2]; rfl
      exact (byWord_as nm 2 _ true w hw fun p W hW hp => findW_2 nm p W hW hp n1 hq).mono fun e w' hh => ⟨⟨_, hh.1⟩, hh.2⟩
    · have n2 : (([98, 111, 111, 108] : List UInt8) == nm.data.toList) = false := by simpa using fun e => h2 e.symm
      rw [if_neg h2] at h ⊢
      by_cases h3 : nm.data.toList = [116, 101, 120, 116]
      · rw [if_pos h3]
        have hq : (([116, 101, 120, 116] : List UInt8) == nm.data.toList) = true := by rw [h3]; rfl
        exact (byWord_as nm 3 _ true w hw fun p W hW hp => findW_3 nm p W hW hp n1 n2 hq).mono fun e w' hh => ⟨⟨_, hh.1⟩, hh.2⟩
      · rw [if_neg h3] at h
        exact absurd rfl h
theorem byWord_no (nm : ByteArray) (w : World) (hw : TW w) (h : typeOfW nm.data.toList = 0) :
    Calls Tryz.prog 87 #[.string nm] w fun e w' => e = .returned (.tuple #[.agg #[.int .i64 0, .string ⟨#[]⟩], .bool false]) ∧ Below w.heap.size w w' := by
  rw [typeOfW] at h
  by_cases h1 : nm.data.toList = [105, 110, 116]
  · rw [if_pos h1] at h; exact absurd h (by decide)
  · rw [if_neg h1] at h
    by_cases h2 : nm.data.toList = [98, 111, 111, 108]
    · rw [if_pos h2] at h; exact absurd h (by decide)
    · rw [if_neg h2] at h
      by_cases h3 : nm.data.toList = [116, 101, 120, 116]
      · rw [if_pos h3] at h; exact absurd h (by decide)
      · have n1 : (([105, 110, 116] : List UInt8) == nm.data.toList) = false := by simpa using fun e => h1 e.symm
        have n2 : (([98, 111, 111, 108] : List UInt8) == nm.data.toList) = false := by simpa using fun e => h2 e.symm
        have n3 : (([116, 101, 120, 116] : List UInt8) == nm.data.toList) = false := by simpa using fun e => h3 e.symm
        exact byWord_as nm 0 _ false w hw fun p W hW hp => findW_0 nm p W hW hp n1 n2 n3
/-- The result's cell between the calls. -/
structure Res2 (w wi : World) : Prop where
  below : Below w.heap.size w wi
  lt : w.heap.size < wi.heap.size
  c0 : wi.cell? ⟨w.heap.size, 0, none⟩ = some (.string ⟨#[]⟩)
  c1 : wi.cell? ⟨w.heap.size, 1, none⟩ = some (.int .i64 0)
  f0 : wi.frozen? ⟨w.heap.size, 0, none⟩ = false
  f1 : wi.frozen? ⟨w.heap.size, 1, none⟩ = false
theorem Res2.first (w : World) : Res2 w (w.alloc (.cells #[.string ⟨#[]⟩, .int .i64 0] 86)) := by
  obtain ⟨r0, r1, r2, r3⟩ := Pair.new w (.string ⟨#[]⟩) (.int .i64 0) 86
  exact ⟨(Below.refl _ _).alloc (Nat.le_refl _) _, by simp, r0, r1, r2, r3⟩
theorem Res2.next {w wi wj : World} (h : Res2 w wi) (b : Below wi.heap.size wi wj) : Res2 w wj := by
  obtain ⟨hc, hf⟩ := bcells b
  have hz := b.size
  exact ⟨h.below.trans (b.mono h.below.size), by have := h.lt; omega, by rw [hc _ _ h.lt]; exact h.c0, by rw [hc _ _ h.lt]; exact h.c1, by rw [hf _ _ h.lt]; exact h.f0, by rw [hf _ _ h.lt]; exact h.f1⟩
theorem Res2.alloc {w wi : World} (h : Res2 w wi) (o : Obj) : Res2 w (wi.alloc o) := h.next ((Below.refl _ _).alloc (Nat.le_refl _) o)
/-- The column of a text: its name, its type, and the fault. -/
def colRd (l : List UInt8) : List UInt8 × Int × Int := if typeOfW (cut1 32 l).2.1 = 0 ∨ nameB (cut1 32 l).1 = false then ([], 0, 2) else ((cut1 32 l).1, typeOfW (cut1 32 l).2.1, 0)
set_option maxHeartbeats 2000000 in
theorem parseCol_any (s : ByteArray) (w : World) (hs : s.size ≤ maxLen) (hw : TW w) :
    Calls Tryz.prog 63 #[.string s] w fun e w' => (∃ (nm : ByteArray) (t k : Int), e = .returned (.tuple #[.agg #[.string nm, .int .i64 t], errR k]) ∧ Hid (colRd s.data.toList = (nm.data.toList, t, k)) ∧ nm.size ≤ s.size) ∧ Below w.heap.size w w' := by
  have F0 := Res2.first w
  go_enter Tryz.func63, Tryz.ntmps63
  go_wp2_with fail
  refine (cut_one s 32 _ hs).mono ?_
  rintro e w1 ⟨⟨P, r, m, rfl, HC, hPs, hrs, _⟩, b1⟩
  have F1 := F0.next b1
  clear b1 F0
  by_cases ht : typeOfW r.data.toList = 0
  · have cB := byWord_no r w1 (hw.on F1.below) ht
    have HR : Hid (colRd s.data.toList = ([], 0, 2)) := by
      show _ = _
      rw [colRd, HC.out, if_pos (Or.inl ht)]
    clear ht HC
    go_wp2_with fail
    refine cB.mono ?_
    rintro e w2 ⟨rfl, b2⟩
    have F3 := (F1.next b2).alloc (.cells #[.int .i64 0, .string ⟨#[]⟩] 94)
    clear b2
    have q0 := F3.c0
    have q1 := F3.c1
    have q2 := F3.f0
    have q3 := F3.f1
    have ql := F3.lt
    go_wp2
    refine bodyPost_ret (v := .tuple #[.agg #[.string ⟨#[]⟩, .int .i64 0], errR 2]) (by simp [results, Tryz.results63, go_sem, q0, q1, errR]) rfl ⟨⟨⟨#[]⟩, 0, 2, rfl, HR, Nat.zero_le _⟩, ?_⟩
    exact (F3.below.setCell (Nat.le_refl _) _).setCell (Nat.le_refl _) _
  · have cB := byWord_yes r w1 (hw.on F1.below) ht
    obtain ⟨T, hT⟩ : ∃ T, typeOfW r.data.toList = T := ⟨_, rfl⟩
    obtain ⟨N, hN⟩ : ∃ N, nameB P.data.toList = N := ⟨_, rfl⟩
    have HR : Hid (colRd s.data.toList = if N = false then ([], 0, 2) else (P.data.toList, T, 0)) := by
      show _ = _
      rw [colRd, HC.out]
      simp only [hN, hT]
      rw [hT] at ht
      cases N
      · rw [if_pos (Or.inr rfl), if_pos rfl]
      · rw [if_neg (by simpa using ht), if_neg (by decide)]
    rw [hT] at cB
    have cN := fun W => isName_any P W (by unfold maxLen at hs ⊢; omega)
    rw [hN] at cN
    have HN : Hid (nameB P.data.toList = N) := hN
    clear ht HC hT hN
    go_wp2_with fail
    refine cB.mono ?_
    rintro e w2 ⟨⟨wd, rfl⟩, b2⟩
    have F3 := (F1.next b2).alloc (.cells #[.int .i64 T, .string wd] 94)
    obtain ⟨t0, _, _, _⟩ := Pair.new w2 (.int .i64 T) (.string wd) 94
    clear b2
    go_wp2_with fail
    refine (cN _).mono ?_
    rintro e w3 ⟨rfl, b3⟩
    have F4 := F3.next b3
    have g0 : w3.cell? ⟨w2.heap.size, 0, none⟩ = some (.int .i64 T) := by rw [(bcells b3).1 _ _ (by simp)]; exact t0
    have gl : w2.heap.size < w3.heap.size := by have := b3.size; simp at this; omega
    have q0 := F4.c0
    have q1 := F4.c1
    have q2 := F4.f0
    have q3 := F4.f1
    have ql := F4.lt
    clear b3 cN cB F1 F3 t0
    cases N
    · have HR2 : Hid (colRd s.data.toList = ([], 0, 2)) := by
        show _ = _
        rw [HR.out, if_pos rfl]
      clear HR
      go_wp2
      refine bodyPost_ret (v := .tuple #[.agg #[.string ⟨#[]⟩, .int .i64 0], errR 2]) (by simp [results, Tryz.results63, go_sem, q0, q1, errR]) rfl ⟨⟨⟨#[]⟩, 0, 2, rfl, HR2, Nat.zero_le _⟩, ?_⟩
      exact (F4.below.setCell (Nat.le_refl _) _).setCell (Nat.le_refl _) _
    · have HR2 : Hid (colRd s.data.toList = (P.data.toList, T, 0)) := by
        show _ = _
        rw [HR.out, if_neg (by decide)]
      clear HR
      have h8 : P.size ≤ 8 := by
        have h := HN.out
        rw [nameB] at h
        simp at h
        have hp8 : P.data.toList.length = P.size := by simp
        have := h.2.1
        omega
      have cC : ∀ q, Calls Tryz.prog 88 #[.string P] (w3.drewN q) fun e w' => e = .returned (.string P) ∧ Res2 w w' ∧ w'.cell? ⟨w2.heap.size, 0, none⟩ = some (.int .i64 T) ∧ w2.heap.size < w'.heap.size := fun q => (clone_any P _ (by omega)).mono fun e w' hh => by
        have b4 : Below w3.heap.size w3 w' := (below_drewN (Below.refl w3.heap.size w3) q).trans (hh.2.mono (below_drewN (Below.refl w3.heap.size w3) q).size)
        exact ⟨hh.1, F4.next b4, by rw [(bcells b4).1 _ _ gl]; exact g0, by have := b4.size; omega⟩
      go_wp2
      go_region_with (go_at_call 88; refine (cC _).mono ?_; rintro e w' ⟨rfl, F5, g4, gl4⟩; have p0 := F5.c0; have p1 := F5.c1; have p2 := F5.f0; have p3 := F5.f1; have pl := F5.lt)
      all_goals
        go_wp2
        refine bodyPost_ret (v := .tuple #[.agg #[.string P, .int .i64 T], errR 0]) (by simp [results, Tryz.results63, go_sem, p0, p1, errR]) rfl ⟨⟨P, T, 0, rfl, HR2, hPs⟩, ?_⟩
        exact (F5.below.setCell (Nat.le_refl _) _).setCell (Nat.le_refl _) _
end Go.Proofs.YtggabncpedcmdaaGreatDoor
