/-
  The operations that there are: the program's Ops, the document's, and sluicesame's Texts of two lists that are the same.
-/
import Derived.Test.YtnpinbpjfngknaaDoorKdR0
import Derived.Test.YtnpinbpjfngknaaDoorOwnS
import Derived.Deep.QuietTactic
import Derived.BigQuiet
namespace Go.Proofs.YtnpinbpjfngknaaDoor
open Go.RowKit Go.BigFrame
set_option linter.unusedVariables false

def opsS : List ByteArray := kdRules.map fun r => ⟨r.1.toArray⟩
/-- Texts one behind the other. -/
def StrsAt (w : World) (p : Option Addr) (ss : List ByteArray) : Prop := ∃ b off, p = some ⟨b, off, none⟩ ∧ b < w.heap.size ∧ ∀ j (h : j < ss.length), w.cell? ⟨b, off + j, none⟩ = some (.string ss[j])
theorem StrsAt.on {w w' : World} {p : Option Addr} {ss : List ByteArray} (h : StrsAt w p ss) (hb : Below w.heap.size w w') : StrsAt w' p ss := by
  obtain ⟨b, off, e, hl, h⟩ := h
  exact ⟨b, off, e, by have := hb.size; omega, fun j hj => by rw [hb.cell (p := ⟨b, _, none⟩) hl]; exact h j hj⟩
theorem info_strO : (Tryd.prog.info? 9).map (fun i => (i.zero, i.size, i.bytes)) = some (some (.string ⟨#[]⟩), 1, 16) := by kernel_rfl
theorem ownStrs {W : World} {B : Nat} {q : Option Addr} {c n : Nat} {ss : List ByteArray} (hn : ss.length = n) (h0 : 0 < n) (h : W.ownsRow B 9 1 (.slice q n c) n (ss.map .string)) : StrsAt W q ss := by
  rcases h.2 with ⟨e1, _⟩ | ⟨g, cap, cur, e1, hb, hg, hm, hx, hs, ht⟩
  · injection e1 with e1 e2; omega
  · injection e1 with e1 e2 e3
    subst e1
    refine ⟨g, 0, rfl, (Array.getElem?_eq_some_iff.1 hg).1, fun j hj => ?_⟩
    have h1 := h.cells (g := g) rfl j (.string ss[j]) (by rw [List.getElem?_map, List.getElem?_eq_getElem hj]; rfl)
    rw [Go.WideShapes.add_plain] at h1
    simpa using h1
theorem opsS_take {k : Nat} (hk : k < 17) {S : ByteArray} (h : (kdRules[k]'hk).1 = S.data.toList) : opsS.take k ++ [S] = opsS.take (k + 1) := by
  have hl : k < opsS.length := hk
  rw [List.take_add_one, List.getElem?_eq_getElem hl]
  have : opsS[k] = S := by
    have h1 : opsS[k] = (⟨(kdRules[k]'hk).1.toArray⟩ : ByteArray) := List.getElem_map (l := kdRules) (fun r : KRule => (⟨r.1.toArray⟩ : ByteArray))
    rw [h1, h]
  rw [this]
  rfl
set_option maxHeartbeats 2000000 in
set_option maxRecDepth 20000 in
theorem kindOps_any (w : World) (henv : REnv w) :
    Calls Tryd.prog 54 #[] w fun e w' => (∃ q c, e = .returned (.slice q 17 c) ∧ Aside (StrsAt w' q opsS)) ∧ Below w.heap.size w w' := by
  obtain ⟨i0, hi, hz0, hz1, hzz⟩ := info_parts info_strO
  obtain ⟨tt, fr, hgl⟩ := henv
  go_enter Tryd.func54, Tryd.ntmps54
  go_wp2_with (refine wpList_load_row rfl 126 _ rfl 2 rfl tt _ fr _ hgl Tryd.underlying126 rfl (by kernel_rfl) ?_)
  have hat := rule_at
  generalize Value.agg rulesC = AR at hat ⊢
  clear hgl
  go_loopg [1, 3, 5] 17 (fun gg s1 _ s5 wr => ∃ (kk : Nat) (acc : List ByteArray) (q : Option Addr) (cp : Nat), kk ≤ 17 ∧ 17 - kk ≤ gg ∧ s5 = .int .i64 kk ∧ s1 = .slice q kk cp ∧ Aside (wr.ownsRow w.heap.size 9 1 (.slice q kk cp) kk (acc.map .string)) ∧ Aside (Below w.heap.size w wr) ∧ Hid (acc = opsS.take kk))
  case atStart => exact ⟨0, [], none, 0, Nat.zero_le _, by omega, rfl, rfl, (show Aside _ from ⟨rfl, .inl ⟨rfl, rfl⟩⟩), (show Aside _ from Below.refl _ _), (show Hid _ from rfl)⟩
  case round =>
    obtain ⟨kk, acc, q, cp, hkk, hg, rfl, rfl, OW, BW, HE⟩ := hrel
    have hzr : w.heap.size ≤ wr.heap.size := BW.out.size
    by_cases hlt : kk < 17
    · have hltz : (kk : Int) < 17 := by omega
      obtain ⟨S, a0, a1, a2, ty, hix, hkr, _⟩ := hat kk hlt
      have HT : Hid (acc ++ [S] = opsS.take (kk + 1)) := by
        show _ = _
        rw [HE.out]; exact opsS_take hlt (by rw [hkr])
      have hix2 := fun W => hix W
      have OW4 := OW.out.alloc (.cells #[.string S, .int .i64 a0, .int .i64 a1, .int .i64 a2, .int .i64 ty] 125)
      have BW4 : Aside (Below w.heap.size w (wr.alloc (.cells #[.string S, .int .i64 a0, .int .i64 a1, .int .i64 a2, .int .i64 ty] 125))) := BW.out.alloc hzr _
      clear HE hkr OW
      go_wp2_with (at_builtin; refine wpList_append_own _ rfl _ _ 59 rfl w.heap.size 9 i0 (.string ⟨#[]⟩) 1 16 Tryd.underlying59 hi hz0 hz1 hzz rfl (by decide) _ _ _ rfl (OW4.alloc _) ⟨wr.heap.size + 1, 0, none⟩ 1 1 [.string S] rfl rfl ?c1 ?c2 ?c3 ?c4 ?c5 ?_)
      case c1 =>
        intro i u hu
        rw [Go.WideShapes.add_plain, World.cell?_alloc_at _ _ _ _ (by simp)]
        simpa using hu
      case c2 =>
        intro u hu
        simp at hu
        subst hu; rfl
      case c3 => simp [maxLen]; omega
      case c4 => omega
      case c5 => simp; omega
      · intro v' w5 hown' hgrow _
        have hlo3 : ∀ j, (Value.slice q kk cp).ownBlock = some j → w.heap.size ≤ j := fun j hj => (OW4.lt j hj).1
        have bg : Below w.heap.size (wr.alloc (.cells #[.string S, .int .i64 a0, .int .i64 a1, .int .i64 a2, .int .i64 ty] 125)) w5 := ((Below.refl _ _).alloc (by simp; omega) _).grown hgrow (by simp; omega) hlo3
        have BW6 : Aside (Below w.heap.size w w5) := BW4.out.trans bg
        obtain ⟨q5, c5, rfl⟩ := lown_slice hown'
        have ow6 : w5.ownsRow w.heap.size 9 1 (.slice q5 (kk + 1) c5) (kk + 1) ((acc ++ [S]).map .string) := by rw [List.map_append]; exact hown'
        clear hown' hgrow OW4 bg BW4
        go_wp2
        go_roundg (17 - (kk + 1))
        case measure => omega
        case rel => exact ⟨kk + 1, acc ++ [S], q5, c5, by omega, by omega, by go_num, rfl, (show Aside _ from ow6), BW6, HT⟩
    · have hltz : ¬ (kk : Int) < 17 := by omega
      obtain rfl : kk = 17 := by omega
      have hacc : acc = opsS := by rw [HE.out]; rfl
      subst hacc
      have hst : Aside (StrsAt wr q opsS) := ownStrs rfl (by decide) OW.out
      clear HE OW hat
      go_wp2
      go_ret
      exact ⟨⟨q, ⟨cp, rfl⟩, hst⟩, BW.out⟩
theorem refOps_any (w : World) : Calls Tryd.prog 21 #[] w fun e w' => (∃ q c, e = .returned (.slice q 17 c) ∧ Aside (StrsAt w' q opsS)) ∧ Below w.heap.size w w' := by
  go_enter Tryd.func21, Tryd.ntmps21
  go_wp2
  go_ret
  refine ⟨⟨_, _, rfl, (show Aside _ from ⟨w.heap.size, 0, rfl, by simp, fun j hj => ?_⟩)⟩, (Below.refl _ w).alloc (Nat.le_refl _) _⟩
  rw [World.cell?_alloc_at _ _ _ _ rfl]
  have h17 : j < 17 := hj
  have : j = 0 ∨ j = 1 ∨ j = 2 ∨ j = 3 ∨ j = 4 ∨ j = 5 ∨ j = 6 ∨ j = 7 ∨ j = 8 ∨ j = 9 ∨ j = 10 ∨ j = 11 ∨ j = 12 ∨ j = 13 ∨ j = 14 ∨ j = 15 ∨ j = 16 := by omega
  rcases this with rfl | rfl | rfl | rfl | rfl | rfl | rfl | rfl | rfl | rfl | rfl | rfl | rfl | rfl | rfl | rfl | rfl <;> rfl
end Go.Proofs.YtnpinbpjfngknaaDoor
