/-
  What Parse of package val says of any text: the value, or the first fault; what was in memory stays.
-/
import Derived.Test.YtggabncpedcmdaaGreatDoorPrint
import Derived.Lib.AtoiAllCases
import Derived.Test.YtggabncpedcmdaaGreatDoorUnquote
namespace Go.Proofs.YtggabncpedcmdaaGreatDoor
open Go.RowKit

theorem atoi_ok (s : ByteArray) (n : Int) (w : World) (hs : s.size ≤ 140737488355328) (h : Lib.atoiAll s.data.toList = .ok n) :
    Calls Tryz.prog 75 #[.string s] w fun e w' => e = .returned (.tuple #[.int .i64 n, .nilIface]) ∧ Below w.heap.size w w' :=
  (Tryz.strconv_Atoi_ok s (by omega) n h w).mono fun e w' hh => ⟨hh.1, (by
    rcases hh.2 with rfl | ⟨t, rfl⟩
    · exact Below.refl _ _
    · exact Lib.bytesWorld_below _ _ _)⟩
theorem atoi_bad (s : ByteArray) (w : World) (hs : s.size ≤ 140737488355328) (h : ∀ n, Lib.atoiAll s.data.toList ≠ .ok n) (henv : Env w) :
    Calls Tryz.prog 75 #[.string s] w fun e w' => ∃ n t v, e = .returned (.tuple #[.int .i64 n, .iface t v]) ∧ Below w.heap.size w w' := by
  cases hh : Lib.atoiAll s.data.toList
  · exact absurd hh (h _)
  · obtain ⟨tp, p, hv⟩ := henv.syn
    exact (Any.strconv_Atoi_syntax_var Tryz.laysC172 s (by omega) hh tp p w hv).mono fun e w' ⟨N, he, _, _, hb⟩ => ⟨_, _, _, he, hb⟩
  · obtain ⟨tp, p, hv⟩ := henv.ran
    exact (Any.strconv_Atoi_range_var Tryz.laysC172 s (by omega) hh tp p w hv).mono fun e w' ⟨N, he, _, _, hb⟩ => ⟨_, _, _, he, hb⟩

theorem two_below {w w1 w2 : World} {o : Obj} (b1 : Below (w.alloc o).heap.size (w.alloc o) w1) (b2 : Below w1.heap.size w1 w2) : Below w.heap.size w w2 := by
  have := b1.size
  simp at this
  exact ((Below.refl _ _).alloc (Nat.le_refl _) _).trans ((b1.mono (by simp)).trans (b2.mono (by omega)))
theorem one_below {w w1 : World} {o : Obj} (b1 : Below (w.alloc o).heap.size (w.alloc o) w1) : Below w.heap.size w w1 :=
  ((Below.refl _ _).alloc (Nat.le_refl _) _).trans (b1.mono (by simp))

set_option maxHeartbeats 1000000 in
theorem parseInt_ok (s : ByteArray) (n : Int) (w : World) (hs : s.size ≤ 140737488355328) (hn : -9223372036854775808 ≤ n ∧ n ≤ 9223372036854775807) (h : Lib.atoiAll s.data.toList = .ok n) (hi : Lib.itoa n = s.data.toList) (henv : Env w) :
    Calls Tryz.prog 46 #[.string s] w fun e w' => e = .returned (.tuple #[.agg #[.int .i64 1, .int .i64 n, .string ⟨#[]⟩], .nilIface]) ∧ Below w.heap.size w w' := by
  have H : Hid (Lib.atoiAll s.data.toList = .ok n) := h
  have he : (⟨(Lib.itoa n).toArray⟩ : ByteArray) = s := by rw [hi]
  have HE : Hid ((⟨(Lib.itoa n).toArray⟩ : ByteArray) = s) := he
  clear h he hi
  go_enter Tryz.func46, Tryz.ntmps46
  go_wp2_with fail
  refine (atoi_ok s n _ hs H.out).mono ?_
  rintro e w1 ⟨rfl, b1⟩
  obtain ⟨hc, hf⟩ := bcell b1
  have hy : w.heap.size < w1.heap.size := by have := b1.size; simp at this; omega
  go_wp2_with fail
  refine (Tryz.strconv_Itoa n hn.1 hn.2 _ ((henv.alloc _).on b1).tab).mono ?_
  rintro e w2 ⟨rfl, h2⟩
  have b2 := grow_below h2
  clear h2
  rw [HE.out]
  obtain ⟨hc2, hf2⟩ := bcell b2
  go_wp2
  refine bodyPost_ret (v := .tuple #[.agg #[.int .i64 1, .int .i64 n, .string ⟨#[]⟩], .nilIface]) (by simp [results, Tryz.results46, go_sem, hc, hc2, hy]) rfl ⟨rfl, ?_⟩
  exact ((((two_below b1 b2).setCell (Nat.le_refl _) _).setCell (Nat.le_refl _) _).setCell (Nat.le_refl _) _)

set_option maxHeartbeats 1000000 in
theorem parseInt_other (s : ByteArray) (n : Int) (w : World) (hs : s.size ≤ 140737488355328) (hn : -9223372036854775808 ≤ n ∧ n ≤ 9223372036854775807) (h : Lib.atoiAll s.data.toList = .ok n) (hi : Lib.itoa n ≠ s.data.toList) (henv : Env w) :
    Calls Tryz.prog 46 #[.string s] w fun e w' => e = .returned (.tuple #[.agg #[.int .i64 0, .int .i64 0, .string ⟨#[]⟩], .iface 69 (.int .i64 2)]) ∧ Below w.heap.size w w' := by
  have H : Hid (Lib.atoiAll s.data.toList = .ok n) := h
  obtain ⟨I, hI⟩ : ∃ I : ByteArray, I = ⟨(Lib.itoa n).toArray⟩ := ⟨_, rfl⟩
  have hq : (I.toList == s.toList) = false := by
    rw [hI, Lib.toList_data, Lib.toList_data]
    simpa using hi
  have HI : Hid (I = ⟨(Lib.itoa n).toArray⟩) := hI
  clear h hI hi
  go_enter Tryz.func46, Tryz.ntmps46
  go_wp2_with fail
  refine (atoi_ok s n _ hs H.out).mono ?_
  rintro e w1 ⟨rfl, b1⟩
  obtain ⟨hc, hf⟩ := bcell b1
  have hy : w.heap.size < w1.heap.size := by have := b1.size; simp at this; omega
  go_wp2_with fail
  refine (Tryz.strconv_Itoa n hn.1 hn.2 _ ((henv.alloc _).on b1).tab).mono ?_
  rintro e w2 ⟨rfl, h2⟩
  have b2 := grow_below h2
  clear h2
  rw [← HI.out]
  obtain ⟨hc2, hf2⟩ := bcell b2
  go_wp2
  refine bodyPost_ret (v := .tuple #[.agg #[.int .i64 0, .int .i64 0, .string ⟨#[]⟩], .iface 69 (.int .i64 2)]) (by simp [results, Tryz.results46, go_sem, hc, hc2, hy]) rfl ⟨rfl, ?_⟩
  exact ((((two_below b1 b2).setCell (Nat.le_refl _) _).setCell (Nat.le_refl _) _).setCell (Nat.le_refl _) _)
set_option maxHeartbeats 1000000 in
theorem parseInt_none (s : ByteArray) (w : World) (hs : s.size ≤ 140737488355328) (h : ∀ n, Lib.atoiAll s.data.toList ≠ .ok n) (henv : Env w) :
    Calls Tryz.prog 46 #[.string s] w fun e w' => e = .returned (.tuple #[.agg #[.int .i64 0, .int .i64 0, .string ⟨#[]⟩], .iface 69 (.int .i64 2)]) ∧ Below w.heap.size w w' := by
  have H : Hid (∀ n, Lib.atoiAll s.data.toList ≠ .ok n) := h
  clear h
  go_enter Tryz.func46, Tryz.ntmps46
  go_wp2_with fail
  refine (atoi_bad s _ hs H.out (henv.alloc _)).mono ?_
  rintro e w1 ⟨n, t, v, rfl, b1⟩
  obtain ⟨hc, hf⟩ := bcell b1
  have hy : w.heap.size < w1.heap.size := by have := b1.size; simp at this; omega
  go_wp2
  refine bodyPost_ret (v := .tuple #[.agg #[.int .i64 0, .int .i64 0, .string ⟨#[]⟩], .iface 69 (.int .i64 2)]) (by simp [results, Tryz.results46, go_sem, hc]) rfl ⟨rfl, ?_⟩
  exact ((((one_below b1).setCell (Nat.le_refl _) _).setCell (Nat.le_refl _) _).setCell (Nat.le_refl _) _)

set_option maxHeartbeats 1000000 in
theorem parseText_none (s : ByteArray) (w : World) (hs : s.size ≤ 140737488355328) (h : unqT s = none) :
    Calls Tryz.prog 45 #[.string s] w fun e w' => e = .returned (.tuple #[.agg #[.int .i64 0, .int .i64 0, .string ⟨#[]⟩], .iface 69 (.int .i64 2)]) ∧ Below w.heap.size w w' := by
  have H : Hid (unqT s = none) := h
  clear h
  go_enter Tryz.func45, Tryz.ntmps45
  go_wp2_with fail
  refine (unquote_none s _ hs H.out).mono ?_
  rintro e w1 ⟨rfl, b1⟩
  obtain ⟨hc, hf⟩ := bcell b1
  have hy : w.heap.size < w1.heap.size := by have := b1.size; simp at this; omega
  go_wp2
  refine bodyPost_ret (v := .tuple #[.agg #[.int .i64 0, .int .i64 0, .string ⟨#[]⟩], .iface 69 (.int .i64 2)]) (by simp [results, Tryz.results45, go_sem, hc]) rfl ⟨rfl, ?_⟩
  exact ((((one_below b1).setCell (Nat.le_refl _) _).setCell (Nat.le_refl _) _).setCell (Nat.le_refl _) _)

set_option maxHeartbeats 1000000 in
theorem parseText_some (s : ByteArray) (l : List UInt8) (w : World) (hs : s.size ≤ 140737488355328) (h : unqT s = some l) (hl : l.length ≤ 140737488355328) :
    Calls Tryz.prog 45 #[.string s] w fun e w' => e = .returned (.tuple (if plainB l = false then #[.agg #[.int .i64 0, .int .i64 0, .string ⟨#[]⟩], .iface 69 (.int .i64 2)]
      else if 40 < l.length then #[.agg #[.int .i64 0, .int .i64 0, .string ⟨#[]⟩], .iface 69 (.int .i64 4)] else #[.agg #[.int .i64 3, .int .i64 0, .string ⟨l.toArray⟩], .nilIface])) ∧ Below w.heap.size w w' := by
  have H : Hid (unqT s = some l) := h
  clear h
  have hll : (⟨l.toArray⟩ : ByteArray).size = l.length := rfl
  by_cases hp : plainB l = false
  · rw [if_pos hp]
    have HP : Hid (plainB (⟨l.toArray⟩ : ByteArray).data.toList = false) := hp
    clear hp
    go_enter Tryz.func45, Tryz.ntmps45
    go_wp2_with fail
    refine (unquote_some s l _ hs H.out).mono ?_
    rintro e w1 ⟨rfl, b1⟩
    obtain ⟨hc, hf⟩ := bcell b1
    have hy : w.heap.size < w1.heap.size := by have := b1.size; simp at this; omega
    go_wp2_with fail
    refine (hasTextBytes_any _ _ (by rw [hll]; unfold maxLen; omega)).mono ?_
    rintro e w2 ⟨rfl, rfl⟩
    rw [HP.out]
    go_wp2
    refine bodyPost_ret (v := .tuple #[.agg #[.int .i64 0, .int .i64 0, .string ⟨#[]⟩], .iface 69 (.int .i64 2)]) (by simp [results, Tryz.results45, go_sem, hc]) rfl ⟨rfl, ?_⟩
    exact ((((one_below b1).setCell (Nat.le_refl _) _).setCell (Nat.le_refl _) _).setCell (Nat.le_refl _) _)
  · rw [if_neg hp]
    have hp2 : plainB l = true := by simpa using hp
    have HP : Hid (plainB (⟨l.toArray⟩ : ByteArray).data.toList = true) := hp2
    clear hp2
    clear hp
    by_cases h4 : 40 < l.length
    · rw [if_pos h4]
      go_enter Tryz.func45, Tryz.ntmps45
      go_wp2_with fail
      refine (unquote_some s l _ hs H.out).mono ?_
      rintro e w1 ⟨rfl, b1⟩
      obtain ⟨hc, hf⟩ := bcell b1
      have hy : w.heap.size < w1.heap.size := by have := b1.size; simp at this; omega
      go_wp2_with fail
      refine (hasTextBytes_any _ _ (by rw [hll]; unfold maxLen; omega)).mono ?_
      rintro e w2 ⟨rfl, rfl⟩
      rw [HP.out]
      go_wp2
      refine bodyPost_ret (v := .tuple #[.agg #[.int .i64 0, .int .i64 0, .string ⟨#[]⟩], .iface 69 (.int .i64 4)]) (by simp [results, Tryz.results45, go_sem, hc]) rfl ⟨rfl, ?_⟩
      exact ((((one_below b1).setCell (Nat.le_refl _) _).setCell (Nat.le_refl _) _).setCell (Nat.le_refl _) _)
    · rw [if_neg h4]
      go_enter Tryz.func45, Tryz.ntmps45
      go_wp2_with fail
      refine (unquote_some s l _ hs H.out).mono ?_
      rintro e w1 ⟨rfl, b1⟩
      obtain ⟨hc, hf⟩ := bcell b1
      have hy : w.heap.size < w1.heap.size := by have := b1.size; simp at this; omega
      go_wp2_with fail
      refine (hasTextBytes_any _ _ (by rw [hll]; unfold maxLen; omega)).mono ?_
      rintro e w2 ⟨rfl, rfl⟩
      rw [HP.out]
      go_wp2
      refine bodyPost_ret (v := .tuple #[.agg #[.int .i64 3, .int .i64 0, .string ⟨l.toArray⟩], .nilIface]) (by simp [results, Tryz.results45, go_sem, hc]) rfl ⟨rfl, ?_⟩
      exact ((((one_below b1).setCell (Nat.le_refl _) _).setCell (Nat.le_refl _) _).setCell (Nat.le_refl _) _)

/-- What a text is read as: type, number, text; and the fault. -/
def readV (s : ByteArray) : Int × Int × List UInt8 × Int :=
  if s.data.toList = [116, 114, 117, 101] then (2, 1, [], 0)
  else if s.data.toList = [102, 97, 108, 115, 101] then (2, 0, [], 0)
  else if Lib.hasPrefix s.data.toList [39] = true then
    (match unqT s with
    | none => (0, 0, [], 2)
    | some l => if plainB l = false then (0, 0, [], 2) else if 40 < l.length then (0, 0, [], 4) else (3, 0, l, 0))
  else (match Lib.atoiAll s.data.toList with
    | .ok n => if Lib.itoa n = s.data.toList then (1, n, [], 0) else (0, 0, [], 2)
    | _ => (0, 0, [], 2))
def readR (r : Int × Int × List UInt8 × Int) : Value := .tuple #[.agg #[.int .i64 r.1, .int .i64 r.2.1, .string ⟨r.2.2.1.toArray⟩], errV r.2.2.2]

theorem unqT_len {s : ByteArray} {l : List UInt8} (h : unqT s = some l) : l.length ≤ s.size := by
  rw [unqT] at h
  split at h
  · split at h
    · have h1 := unq_len _ _ h
      rw [rest] at h1
      simp at h1
      omega
    · cases h
  · cases h
theorem atoi_bounds {s : ByteArray} {n : Int} (h : Lib.atoiAll s.data.toList = .ok n) : -9223372036854775808 ≤ n ∧ n ≤ 9223372036854775807 := by
  have := Lib.atoiAll_bounds h
  omega

theorem eq_of_list {s : ByteArray} {l : List UInt8} (h : s.data.toList = l) : s = ⟨l.toArray⟩ := by subst h; simp
set_option maxHeartbeats 1000000 in
theorem parse_true (s : ByteArray) (w : World) (h : s.data.toList = [116, 114, 117, 101]) :
    Calls Tryz.prog 14 #[.string s] w fun e w' => e = .returned (.tuple #[.agg #[.int .i64 2, .int .i64 1, .string ⟨#[]⟩], .nilIface]) ∧ Below w.heap.size w w' := by
  obtain rfl : s = ⟨#[116, 114, 117, 101]⟩ := eq_of_list h
  clear h
  go_enter Tryz.func14, Tryz.ntmps14
  go_wp2
  exact bodyPost_ret (v := .tuple #[.agg #[.int .i64 2, .int .i64 1, .string ⟨#[]⟩], .nilIface]) (by simp [results, Tryz.results14, go_sem]) rfl ⟨rfl, (Below.refl _ _).alloc (Nat.le_refl _) _⟩
set_option maxHeartbeats 1000000 in
theorem parse_false (s : ByteArray) (w : World) (h : s.data.toList = [102, 97, 108, 115, 101]) :
    Calls Tryz.prog 14 #[.string s] w fun e w' => e = .returned (.tuple #[.agg #[.int .i64 2, .int .i64 0, .string ⟨#[]⟩], .nilIface]) ∧ Below w.heap.size w w' := by
  obtain rfl : s = ⟨#[102, 97, 108, 115, 101]⟩ := eq_of_list h
  clear h
  go_enter Tryz.func14, Tryz.ntmps14
  go_wp2
  exact bodyPost_ret (v := .tuple #[.agg #[.int .i64 2, .int .i64 0, .string ⟨#[]⟩], .nilIface]) (by simp [results, Tryz.results14, go_sem]) rfl ⟨rfl, (Below.refl _ _).alloc (Nat.le_refl _) _⟩
set_option maxHeartbeats 1000000 in
theorem parse_text (s x : ByteArray) (t n : Int) (er : Value) (w : World) (h1 : s.data.toList ≠ [116, 114, 117, 101]) (h2 : s.data.toList ≠ [102, 97, 108, 115, 101]) (h3 : Lib.hasPrefix s.data.toList [39] = true) 
    (hc0 : ∀ W : World, Calls Tryz.prog 45 #[.string s] W fun e w' => e = .returned (.tuple #[.agg #[.int .i64 t, .int .i64 n, .string x], er]) ∧ Below W.heap.size W w') :
    Calls Tryz.prog 14 #[.string s] w fun e w' => e = .returned (.tuple #[.agg #[.int .i64 t, .int .i64 n, .string x], er]) ∧ Below w.heap.size w w' := by
  have q1 : (s.toList == [116, 114, 117, 101]) = false := by rw [Lib.toList_data]; simpa using h1
  have q2 : (s.toList == [102, 97, 108, 115, 101]) = false := by rw [Lib.toList_data]; simpa using h2
  have H3 : Hid (Lib.hasPrefix s.data.toList [39] = true) := h3
  have HC := hc0
  clear hc0 h1 h2 h3
  go_enter Tryz.func14, Tryz.ntmps14
  go_wp2_with fail
  refine (Tryz.strings_HasPrefix s ⟨#[39]⟩ _).mono ?_
  rintro e w0 ⟨rfl, rfl⟩
  rw [show Lib.hasPrefix s.data.toList (⟨#[39]⟩ : ByteArray).data.toList = true from H3.out]
  go_wp2_with fail
  refine (HC _).mono ?_
  rintro e w1 ⟨rfl, b1⟩
  obtain ⟨hc, hf⟩ := bcell b1
  have hy : w.heap.size < w1.heap.size := by have := b1.size; simp at this; omega
  go_wp2
  refine bodyPost_ret (v := .tuple #[.agg #[.int .i64 t, .int .i64 n, .string x], er]) (by simp [results, Tryz.results14, go_sem, hc]) rfl ⟨rfl, ?_⟩
  exact ((((one_below b1).setCell (Nat.le_refl _) _).setCell (Nat.le_refl _) _).setCell (Nat.le_refl _) _)
set_option maxHeartbeats 1000000 in
theorem parse_int (s x : ByteArray) (t n : Int) (er : Value) (w : World) (h1 : s.data.toList ≠ [116, 114, 117, 101]) (h2 : s.data.toList ≠ [102, 97, 108, 115, 101]) (h3 : Lib.hasPrefix s.data.toList [39] = false) (henv : Env w)
    (hc0 : ∀ W : World, Env W → Calls Tryz.prog 46 #[.string s] W fun e w' => e = .returned (.tuple #[.agg #[.int .i64 t, .int .i64 n, .string x], er]) ∧ Below W.heap.size W w') :
    Calls Tryz.prog 14 #[.string s] w fun e w' => e = .returned (.tuple #[.agg #[.int .i64 t, .int .i64 n, .string x], er]) ∧ Below w.heap.size w w' := by
  have q1 : (s.toList == [116, 114, 117, 101]) = false := by rw [Lib.toList_data]; simpa using h1
  have q2 : (s.toList == [102, 97, 108, 115, 101]) = false := by rw [Lib.toList_data]; simpa using h2
  have H3 : Hid (Lib.hasPrefix s.data.toList [39] = false) := h3
  have HC := hc0
  clear hc0 h1 h2 h3
  go_enter Tryz.func14, Tryz.ntmps14
  go_wp2_with fail
  refine (Tryz.strings_HasPrefix s ⟨#[39]⟩ _).mono ?_
  rintro e w0 ⟨rfl, rfl⟩
  rw [show Lib.hasPrefix s.data.toList (⟨#[39]⟩ : ByteArray).data.toList = false from H3.out]
  go_wp2_with fail
  refine (HC _ (henv.alloc _)).mono ?_
  rintro e w1 ⟨rfl, b1⟩
  obtain ⟨hc, hf⟩ := bcell b1
  have hy : w.heap.size < w1.heap.size := by have := b1.size; simp at this; omega
  go_wp2
  refine bodyPost_ret (v := .tuple #[.agg #[.int .i64 t, .int .i64 n, .string x], er]) (by simp [results, Tryz.results14, go_sem, hc]) rfl ⟨rfl, ?_⟩
  exact ((((one_below b1).setCell (Nat.le_refl _) _).setCell (Nat.le_refl _) _).setCell (Nat.le_refl _) _)

theorem parse_any (s : ByteArray) (w : World) (hs : s.size ≤ 140737488355328) (henv : Env w) :
    Calls Tryz.prog 14 #[.string s] w fun e w' => e = .returned (readR (readV s)) ∧ Below w.heap.size w w' := by
  by_cases h1 : s.data.toList = [116, 114, 117, 101]
  · rw [readV, if_pos h1]; exact parse_true s w h1
  · by_cases h2 : s.data.toList = [102, 97, 108, 115, 101]
    · rw [readV, if_neg h1, if_pos h2]; exact parse_false s w h2
    · by_cases h3 : Lib.hasPrefix s.data.toList [39] = true
      · rw [readV, if_neg h1, if_neg h2, if_pos h3]
        cases hu : unqT s with
        | none => exact parse_text s ⟨#[]⟩ 0 0 _ w h1 h2 h3 fun W => parseText_none s W hs hu
        | some l =>
          have hl := unqT_len hu
          have hp := fun W => parseText_some s l W hs hu (by omega)
          by_cases p1 : plainB l = false
          · simp only [if_pos p1] at hp ⊢
            exact parse_text s ⟨#[]⟩ 0 0 _ w h1 h2 h3 hp
          · simp only [if_neg p1] at hp ⊢
            by_cases p2 : 40 < l.length
            · simp only [if_pos p2] at hp ⊢
              exact parse_text s ⟨#[]⟩ 0 0 _ w h1 h2 h3 hp
            · simp only [if_neg p2] at hp ⊢
              exact parse_text s ⟨l.toArray⟩ 3 0 _ w h1 h2 h3 hp
      · have h3' : Lib.hasPrefix s.data.toList [39] = false := by simpa using h3
        rw [readV, if_neg h1, if_neg h2, if_neg h3]
        cases ha : Lib.atoiAll s.data.toList
        · rename_i n
          have hn := atoi_bounds ha
          by_cases hi : Lib.itoa n = s.data.toList
          · simp only [if_pos hi]
            exact parse_int s ⟨#[]⟩ 1 n _ w h1 h2 h3' henv fun W he => parseInt_ok s n W hs hn ha hi he
          · simp only [if_neg hi]
            exact parse_int s ⟨#[]⟩ 0 0 _ w h1 h2 h3' henv fun W he => parseInt_other s n W hs hn ha hi he
        · exact parse_int s ⟨#[]⟩ 0 0 _ w h1 h2 h3' henv fun W he => parseInt_none s W hs (fun n e => by rw [ha] at e; cases e) he
        · exact parse_int s ⟨#[]⟩ 0 0 _ w h1 h2 h3' henv fun W he => parseInt_none s W hs (fun n e => by rw [ha] at e; cases e) he
end Go.Proofs.YtggabncpedcmdaaGreatDoor
