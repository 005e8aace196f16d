/-
  What Print of package val says of any value: its text, or its first fault; what was in memory stays.
-/
import Derived.Test.YtggabncpedcmdaaGreatDoorCmp
import Derived.Test.YtggabncpedcmdaaGreatDoorText
import Derived.Test.YtggabncpedcmdaaGreatDoorShelf
import Derived.WalkSmall
import Derived.Lib.LaidTab
import Derived.Lib.AppendIntMem
namespace Go.Proofs.YtggabncpedcmdaaGreatDoor
open Go.RowKit

/-- What the library reads of its own variables. -/
structure Env (w : World) : Prop where
  tab : Lib.TabIs Tryz.prog w "internal/strconv.uint64pow10" .u64 Lib.pow10Tab
  syn : ∃ tp p, w.var? Tryz.prog "strconv.ErrSyntax" = some #[.iface tp p]
  ran : ∃ tp p, w.var? Tryz.prog "strconv.ErrRange" = some #[.iface tp p]
  mx : ∃ m : Int, w.cell? ⟨2, 0, none⟩ = some (.int .i64 m)
  big : 3 < w.heap.size ∧ 6 < w.heap.size ∧ 7 < w.heap.size ∧ 2 < w.heap.size
theorem g_tab : Tryz.prog.globalNamed "internal/strconv.uint64pow10" = some 3 := by kernel_rfl
theorem g_syn : Tryz.prog.globalNamed "strconv.ErrSyntax" = some 6 := by kernel_rfl
theorem g_ran : Tryz.prog.globalNamed "strconv.ErrRange" = some 7 := by kernel_rfl
theorem Env.on {w w' : World} (h : Env w) (hb : Below w.heap.size w w') : Env w' := by
  have hbig := h.big
  refine ⟨?_, ?_, ?_, ?_, ?_⟩
  · exact var?_below hb g_tab (by omega) h.tab
  · obtain ⟨tp, p, hv⟩ := h.syn; exact ⟨tp, p, var?_below hb g_syn (by omega) hv⟩
  · obtain ⟨tp, p, hv⟩ := h.ran; exact ⟨tp, p, var?_below hb g_ran (by omega) hv⟩
  · obtain ⟨m, hm⟩ := h.mx; exact ⟨m, by rw [hb.cell (p := ⟨2, 0, none⟩) (by simp; omega)]; exact hm⟩
  · have := hb.size; omega
theorem Env.alloc {w : World} (h : Env w) (o : Obj) : Env (w.alloc o) := h.on ((Below.refl _ _).alloc (Nat.le_refl _) o)

/-- The text of a value that is right. -/
def shown (t n : Int) (l : List UInt8) : List UInt8 :=
  if t = 1 then Lib.itoa n
  else if t = 2 then (if n = 1 then [116, 114, 117, 101] else [102, 97, 108, 115, 101])
  else 39 :: (esc l ++ [39])
def prS (t n : Int) (l : List UInt8) : List UInt8 := if chk t n l = 0 then shown t n l else []

theorem chk_type {t n : Int} {l : List UInt8} (h : chk t n l = 0) : (t = 1 ∧ l = []) ∨ (t = 2 ∧ l = [] ∧ (n = 0 ∨ n = 1)) ∨ (t = 3 ∧ n = 0 ∧ l.length ≤ 40 ∧ plainB l = true) := by
  rw [chk] at h
  split at h
  · omega
  · rename_i h1
    split at h
    · omega
    · rename_i h2
      split at h
      · omega
      · rename_i h3
        split at h
        · omega
        · rename_i h4
          by_cases e3 : t = 3
          · have h3' : plainB l = true := by
              cases hp : plainB l with
              | true => rfl
              | false => exact absurd ⟨e3, hp⟩ h3
            exact Or.inr (Or.inr ⟨e3, by omega, by omega, h3'⟩)
          · have hl : l = [] := Classical.byContradiction fun e => h4 (Or.inl ⟨e3, e⟩)
            by_cases e2 : t = 2
            · exact Or.inr (Or.inl ⟨e2, hl, by omega⟩)
            · exact Or.inl ⟨by omega, hl⟩

theorem grow_below {w w' : World} (h : ∃ k os, w' = Sort.grow (w.drewN k) os) : Below w.heap.size w w' := by
  obtain ⟨k, os, rfl⟩ := h
  exact Lib.below_grow _ w (Nat.le_refl _) k os
theorem esc_len (l : List UInt8) : (esc l).length ≤ 2 * l.length := by
  induction l with
  | nil => simp [esc]
  | cons c l ih =>
    rw [esc_cons]
    split <;> simp <;> omega
theorem quoted (l : List UInt8) : (⟨#[39]⟩ : ByteArray) ++ ⟨(esc l).toArray⟩ ++ ⟨#[39]⟩ = ⟨(39 :: (esc l ++ [39])).toArray⟩ := by
  rfl

set_option maxHeartbeats 1000000 in
theorem print_any (t n : Int) (s : ByteArray) (w : World) (hs : s.size ≤ maxLen) (hn : -9223372036854775808 ≤ n ∧ n ≤ 9223372036854775807) (henv : Env w) :
    Calls Tryz.prog 10 #[.agg #[.int .i64 t, .int .i64 n, .string s]] w fun e w' => e = .returned (.tuple #[.string ⟨(prS t n s.data.toList).toArray⟩, errV (chk t n s.data.toList)]) ∧ Below w.heap.size w w' := by
  by_cases h1 : chk t n s.data.toList = 0
  · have H1 : Hid (chk t n s.data.toList = 0) := h1
    rw [prS, if_pos h1, h1]
    rcases chk_type h1 with ⟨rfl, hl⟩ | ⟨rfl, hl, hb⟩ | ⟨rfl, rfl, hlen, hp⟩
    · clear h1 hl
      have hsh : shown 1 n s.data.toList = Lib.itoa n := by rw [shown, if_pos rfl]
      rw [hsh, errV, if_pos rfl]
      go_enter Tryz.func10, Tryz.ntmps10
      go_wp2_with fail
      refine (check_ok _ _ _ _ hs H1.out).mono ?_
      rintro e w1 ⟨rfl, b1⟩
      obtain ⟨hc, hf⟩ := bcell b1
      have hy : w.heap.size < w1.heap.size := by have := b1.size; simp at this; omega
      go_wp2_with fail
      refine (Tryz.strconv_Itoa n hn.1 hn.2 _ ((henv.alloc _).on b1).tab).mono ?_
      rintro e w2 ⟨rfl, h2⟩
      have b2 := grow_below h2
      clear h2
      go_wp2
      go_ret2
      refine ⟨rfl, ?_⟩
      exact ((Below.refl _ _).alloc (Nat.le_refl _) _).trans ((b1.mono (by simp)).trans (b2.mono (by omega)))
    · clear h1 hl
      have hsh : shown 2 n s.data.toList = if n = 1 then [116, 114, 117, 101] else [102, 97, 108, 115, 101] := by rw [shown, if_neg (by decide), if_pos rfl]
      rw [hsh, errV, if_pos rfl]
      clear hsh
      rcases hb with rfl | rfl
      all_goals
        go_enter Tryz.func10, Tryz.ntmps10
        go_wp2_with fail
        refine (check_ok _ _ _ _ hs H1.out).mono ?_
        rintro e w1 ⟨rfl, b1⟩
        obtain ⟨hc, hf⟩ := bcell b1
        have hy : w.heap.size < w1.heap.size := by have := b1.size; simp at this; omega
        go_wp2_with fail
        refine (Tryz.strconv_FormatBool _ _).mono ?_
        rintro e w2 ⟨rfl, rfl⟩
        go_wp2
        go_ret2
        refine ⟨rfl, ?_⟩
        exact ((Below.refl _ _).alloc (Nat.le_refl _) _).trans (b1.mono (by simp))
    · clear h1
      have hsh : shown 3 0 s.data.toList = 39 :: (esc s.data.toList ++ [39]) := by rw [shown, if_neg (by decide), if_neg (by decide)]
      rw [hsh, errV, if_pos rfl]
      clear hsh
      have hs40 : s.size ≤ 40 := by simpa using hlen
      have hcl : Lib.countB s ⟨#[39]⟩ ≤ s.size := Lib.countB_le ⟨#[39]⟩ (by decide) s.size s (Nat.le_refl _)
      have hel : (esc s.data.toList).length ≤ 80 := by have := esc_len s.data.toList; omega
      have HQ : Hid ((⟨#[39]⟩ : ByteArray) ++ ⟨(esc s.data.toList).toArray⟩ ++ ⟨#[39]⟩ = ⟨(39 :: (esc s.data.toList ++ [39])).toArray⟩) := quoted _
      have HR : Hid (Lib.replaceAll s.data.toList [39] [39, 39] = esc s.data.toList) := replaceAll_esc _
      generalize esc s.data.toList = E at HQ HR hel ⊢
      go_enter Tryz.func10, Tryz.ntmps10
      go_wp2_with fail
      refine (check_ok _ _ _ _ hs H1.out).mono ?_
      rintro e w1 ⟨rfl, b1⟩
      obtain ⟨hc, hf⟩ := bcell b1
      have hy : w.heap.size < w1.heap.size := by have := b1.size; simp at this; omega
      obtain ⟨m, hm⟩ := ((henv.alloc _).on b1).mx
      go_wp2_with fail
      refine (Tryz.strings_ReplaceAll s ⟨#[39]⟩ ⟨#[39, 39]⟩ m _ (by omega) hm (by decide) (by have : (⟨#[39, 39]⟩ : ByteArray).size = 2 := rfl; rw [this]; omega)).mono ?_
      rintro e w2 ⟨rfl, b2⟩
      rw [show Lib.replaceAll s.data.toList (⟨#[39]⟩ : ByteArray).data.toList (⟨#[39, 39]⟩ : ByteArray).data.toList = E from HR.out]
      go_wp2
      go_ret2
      refine ⟨by rw [HQ.out]; rfl, ?_⟩
      exact ((Below.refl _ _).alloc (Nat.le_refl _) _).trans ((b1.mono (by simp)).trans (b2.mono (by omega)))
  · have H1 : Hid (chk t n s.data.toList ≠ 0) := h1
    rw [prS, if_neg h1]
    clear h1
    go_enter Tryz.func10, Tryz.ntmps10
    go_wp2_with fail
    refine (check_bad _ _ _ _ hs H1.out).mono ?_
    rintro e w1 ⟨rfl, b1⟩
    go_wp2
    go_ret2
    refine ⟨by rw [errV, if_neg H1.out]; rfl, ?_⟩
    exact ((Below.refl _ _).alloc (Nat.le_refl _) _).trans (b1.mono (by simp))
end Go.Proofs.YtggabncpedcmdaaGreatDoor
