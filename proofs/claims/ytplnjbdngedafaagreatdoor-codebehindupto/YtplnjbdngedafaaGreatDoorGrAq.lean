/-
  TreeSg, TreeSz, RefNd, CpD, VmQ, in one text.
-/
import Derived.Test.YtplnjbdngedafaaGreatDoorGrAc
import Derived.WalkSmall
import Derived.Test.YtplnjbdngedafaaGreatDoorGrAk
import Derived.Test.YtplnjbdngedafaaGreatDoorQCpC
import Derived.Test.YtplnjbdngedafaaGreatDoorGrAn
namespace Go.Proofs.YtplnjbdngedafaaGreatDoor
open Go.RowKit
set_option linter.unusedVariables false

theorem signs_0 (w : World) : Calls Tryz.prog 96 #[.int .i64 0] w fun e w' => e = .returned (.slice (some ⟨w.heap.size, 0, none⟩) 1 1) ∧ w' = w.alloc (.cells #[.string ⟨#[111, 114]⟩] 9) := by
  go_enter Tryz.func96, Tryz.ntmps96
  go_wp2
  go_ret
  exact ⟨rfl, rfl⟩
theorem signs_1 (w : World) : Calls Tryz.prog 96 #[.int .i64 1] w fun e w' => e = .returned (.slice (some ⟨w.heap.size, 0, none⟩) 1 1) ∧ w' = w.alloc (.cells #[.string ⟨#[97, 110, 100]⟩] 9) := by
  go_enter Tryz.func96, Tryz.ntmps96
  go_wp2
  go_ret
  exact ⟨rfl, rfl⟩
theorem signs_2 (w : World) : Calls Tryz.prog 96 #[.int .i64 2] w fun e w' => e = .returned (.slice (some ⟨w.heap.size, 0, none⟩) 6 6) ∧ w' = w.alloc (.cells #[.string ⟨#[61]⟩, .string ⟨#[60, 62]⟩, .string ⟨#[60]⟩, .string ⟨#[60, 61]⟩, .string ⟨#[62]⟩, .string ⟨#[62, 61]⟩] 9) := by
  go_enter Tryz.func96, Tryz.ntmps96
  go_wp2
  go_ret
  exact ⟨rfl, rfl⟩
theorem signs_3 (w : World) : Calls Tryz.prog 96 #[.int .i64 3] w fun e w' => e = .returned (.slice (some ⟨w.heap.size, 0, none⟩) 2 2) ∧ w' = w.alloc (.cells #[.string ⟨#[43]⟩, .string ⟨#[45]⟩] 9) := by
  go_enter Tryz.func96, Tryz.ntmps96
  go_wp2
  go_ret
  exact ⟨rfl, rfl⟩
theorem signs_4 (w : World) : Calls Tryz.prog 96 #[.int .i64 4] w fun e w' => e = .returned (.slice (some ⟨w.heap.size, 0, none⟩) 3 3) ∧ w' = w.alloc (.cells #[.string ⟨#[42]⟩, .string ⟨#[47]⟩, .string ⟨#[37]⟩] 9) := by
  go_enter Tryz.func96, Tryz.ntmps96
  go_wp2
  go_ret
  exact ⟨rfl, rfl⟩
/-- Does an operation stand among the signs of the levels? -/
def inSigns (l : List UInt8) : Bool := (sgl 0 ++ sgl 1 ++ sgl 2 ++ sgl 3 ++ sgl 4).any (· == l)
/-- How many parts an operation has; below 0: it is none. -/
def arityT (l : List UInt8) : Int :=
  if l = [99, 111, 108] ∨ l = [118, 97, 108] then 0
  else if l = [110, 111, 116] ∨ l = [110, 101, 103] ∨ l = [108, 101, 110] then 1
  else if l = [105, 102] then 3
  else if inSigns l = true then 2 else -1
/-- The same for every level, the texts in memory. -/
theorem signs_any (lv : Nat) (h : lv < 5) (w : World) : ∃ S : List ByteArray, S.map (·.data.toList) = sgl lv ∧ S.length ≤ 6 ∧ Calls Tryz.prog 96 #[.int .i64 (lv : Int)] w fun e w' => e = .returned (.slice (some ⟨w.heap.size, 0, none⟩) S.length S.length) ∧ (∀ j (hj : j < S.length), w'.cell? ⟨w.heap.size, j, none⟩ = some (.string S[j])) ∧ w.heap.size < w'.heap.size ∧ Below w.heap.size w w' := by
  have h : lv = 0 ∨ lv = 1 ∨ lv = 2 ∨ lv = 3 ∨ lv = 4 := by omega
  have fin : ∀ (S : List ByteArray) (F : Nat), (Calls Tryz.prog 96 #[.int .i64 (F : Int)] w fun e w' => e = .returned (.slice (some ⟨w.heap.size, 0, none⟩) S.length S.length) ∧ w' = w.alloc (.cells (S.map Value.string).toArray 9)) → Calls Tryz.prog 96 #[.int .i64 (F : Int)] w fun e w' => e = .returned (.slice (some ⟨w.heap.size, 0, none⟩) S.length S.length) ∧ (∀ j (hj : j < S.length), w'.cell? ⟨w.heap.size, j, none⟩ = some (.string S[j])) ∧ w.heap.size < w'.heap.size ∧ Below w.heap.size w w' := fun S F c => c.mono fun e w' hh => by
    obtain ⟨he, rfl⟩ := hh
    refine ⟨he, fun j hj => ?_, by simp, (Below.refl _ _).alloc (Nat.le_refl _) _⟩
    rw [World.cell?_alloc_at _ _ _ _ rfl]
    simp [hj]
  rcases h with rfl | rfl | rfl | rfl | rfl
  · exact ⟨[⟨#[111, 114]⟩], rfl, by decide, fin [⟨#[111, 114]⟩] 0 (signs_0 w)⟩
  · exact ⟨[⟨#[97, 110, 100]⟩], rfl, by decide, fin [⟨#[97, 110, 100]⟩] 1 (signs_1 w)⟩
  · exact ⟨[⟨#[61]⟩, ⟨#[60, 62]⟩, ⟨#[60]⟩, ⟨#[60, 61]⟩, ⟨#[62]⟩, ⟨#[62, 61]⟩], rfl, by decide, fin [⟨#[61]⟩, ⟨#[60, 62]⟩, ⟨#[60]⟩, ⟨#[60, 61]⟩, ⟨#[62]⟩, ⟨#[62, 61]⟩] 2 (signs_2 w)⟩
  · exact ⟨[⟨#[43]⟩, ⟨#[45]⟩], rfl, by decide, fin [⟨#[43]⟩, ⟨#[45]⟩] 3 (signs_3 w)⟩
  · exact ⟨[⟨#[42]⟩, ⟨#[47]⟩, ⟨#[37]⟩], rfl, by decide, fin [⟨#[42]⟩, ⟨#[47]⟩, ⟨#[37]⟩] 4 (signs_4 w)⟩
/-- Up to a level. -/
def upTo (lv : Nat) : List (List UInt8) := (List.range lv).flatMap sgl
theorem upTo_succ (lv : Nat) : upTo (lv + 1) = upTo lv ++ sgl lv := by simp [upTo, List.range_succ]
theorem upTo_all (l : List UInt8) : (upTo 5).any (· == l) = inSigns l := by
  rw [inSigns]
  rfl
set_option maxHeartbeats 8000000 in
set_option maxRecDepth 20000 in
theorem arity_late (s : ByteArray) (w : World) (h1 : s.data.toList ≠ [99, 111, 108]) (h2 : s.data.toList ≠ [118, 97, 108]) (h3 : s.data.toList ≠ [110, 111, 116]) (h4 : s.data.toList ≠ [110, 101, 103]) (h5 : s.data.toList ≠ [108, 101, 110]) (h6 : s.data.toList ≠ [105, 102]) :
    Calls Tryz.prog 66 #[.string s] w fun e w' => e = .returned (.int .i64 (if inSigns s.data.toList = true then 2 else -1)) ∧ Below w.heap.size w w' := by
  have q1 : (s.toList == [99, 111, 108]) = false := by rw [Lib.toList_data]; simpa using h1
  have q2 : (s.toList == [118, 97, 108]) = false := by rw [Lib.toList_data]; simpa using h2
  have q3 : (s.toList == [110, 111, 116]) = false := by rw [Lib.toList_data]; simpa using h3
  have q4 : (s.toList == [110, 101, 103]) = false := by rw [Lib.toList_data]; simpa using h4
  have q5 : (s.toList == [108, 101, 110]) = false := by rw [Lib.toList_data]; simpa using h5
  have q6 : (s.toList == [105, 102]) = false := by rw [Lib.toList_data]; simpa using h6
  clear h1 h2 h3 h4 h5 h6
  obtain ⟨Z, hZ⟩ : ∃ Z : Int, (if inSigns s.data.toList = true then 2 else -1) = Z := ⟨_, rfl⟩
  have HZ : Hid ((if inSigns s.data.toList = true then 2 else -1) = Z) := hZ
  rw [hZ]
  clear hZ
  go_enter Tryz.func66, Tryz.ntmps66
  go_wp2
  go_loopg [3, 4, 5] 5 (fun gg s3 _ _ wr => ∃ lv : Nat, lv ≤ 5 ∧ 5 - lv ≤ gg ∧ s3 = .int .i64 lv ∧ Aside (Below w.heap.size w wr) ∧ Hid ((upTo lv).any (· == s.data.toList) = false))
  case atStart => exact ⟨0, Nat.zero_le _, by omega, rfl, Below.refl _ _, rfl⟩
  case round =>
    obtain ⟨lv, hlv, hg, rfl, BW, HU⟩ := hrel
    by_cases hlt : lv < 5
    · have hltz : (lv : Int) < 5 := by omega
      obtain ⟨S, hS, hSl, cS⟩ := signs_any lv hlt wr
      have HSg : Hid (S.map (·.data.toList) = sgl lv) := hS
      clear hS
      go_wp2_with fail
      refine cS.mono ?_
      rintro e w1 ⟨rfl, hc, hgl, b1⟩
      have B1 := BW.out.trans (b1.mono BW.out.size)
      have HC : Hid (∀ j (hj : j < S.length), w1.cell? ⟨wr.heap.size, j, none⟩ = some (.string S[j])) := hc
      clear cS hc
      go_wp2
      go_loopg [5] S.length (fun gg s5 wx => ∃ kk : Nat, kk ≤ S.length ∧ S.length - kk ≤ gg ∧ s5 = .int .i64 kk ∧ wx = w1 ∧ Hid (((S.take kk).map (·.data.toList)).any (· == s.data.toList) = false))
      case atStart => exact ⟨0, Nat.zero_le _, by omega, rfl, rfl, rfl⟩
      case round =>
        obtain ⟨kk, hkk, hgk, rfl, rfl, HK⟩ := hrel
        by_cases hk : kk < S.length
        · have hkz : (kk : Int) < (S.length : Int) := by omega
          have k0 : (0 : Int) ≤ (kk : Int) := by omega
          have c0 := HC.out kk hk
          cases hb : S[kk].data.toList == s.data.toList
          · have hbt : (S[kk].toList == s.toList) = false := by rw [Lib.toList_data, Lib.toList_data]; exact hb
            have HK2 : Hid (((S.take (kk + 1)).map (·.data.toList)).any (· == s.data.toList) = false) := by
              show _ = _
              rw [List.take_succ_eq_append_getElem hk, List.map_append, List.any_append, HK.out]
              simp only [List.map_cons, List.map_nil, List.any_cons, List.any_nil, Bool.or_false, Bool.false_or]
              exact hb
            generalize S[kk] = y at c0 hbt
            clear hb HK
            go_wp2
            go_roundg (S.length - (kk + 1))
            case measure => omega
            case rel => exact ⟨kk + 1, by omega, by omega, by go_num, rfl, HK2⟩
          · have hbt : (S[kk].toList == s.toList) = true := by rw [Lib.toList_data, Lib.toList_data]; exact hb
            have hin : inSigns s.data.toList = true := by
              rw [← upTo_all, List.any_eq_true]
              refine ⟨S[kk].data.toList, ?_, hb⟩
              rw [upTo, List.mem_flatMap]
              exact ⟨lv, List.mem_range.2 hlt, by rw [← HSg.out]; exact List.mem_map.2 ⟨S[kk], List.getElem_mem hk, rfl⟩⟩
            have hz : 2 = Z := by have := HZ.out; rwa [if_pos hin] at this
            subst hz
            generalize S[kk] = y at c0 hbt
            clear hb HK hin
            go_wp2
            go_ret
            exact ⟨rfl, B1⟩
        · have hkz : ¬ (kk : Int) < (S.length : Int) := by omega
          have HU2 : Hid ((upTo (lv + 1)).any (· == s.data.toList) = false) := by
            show _ = _
            have h := HK.out
            rw [List.take_of_length_le (by omega), HSg.out] at h
            rw [upTo_succ, List.any_append, HU.out, h]; rfl
          clear HK
          go_wp2
          go_roundg (5 - (lv + 1))
          case measure => omega
          case rel => exact ⟨lv + 1, by omega, by omega, by go_num, B1, HU2⟩
    · have hltz : ¬ (lv : Int) < 5 := by omega
      have hlv5 : lv = 5 := by omega
      have hz : -1 = Z := by
        have h := HU.out
        rw [hlv5, upTo_all] at h
        have := HZ.out
        rwa [if_neg (by rw [h]; decide)] at this
      subst hz
      clear HU hlv5
      go_wp2
      go_ret
      exact ⟨rfl, BW.out⟩
set_option maxHeartbeats 1000000 in
theorem refArity_any (s : ByteArray) (w : World) :
    Calls Tryz.prog 66 #[.string s] w fun e w' => e = .returned (.int .i64 (arityT s.data.toList)) ∧ Below w.heap.size w w' := by
  by_cases h1 : s.data.toList = [99, 111, 108]
  · obtain rfl : s = ⟨#[99, 111, 108]⟩ := by have := congrArg List.toArray h1; cases s; simpa using this
    go_enter Tryz.func66, Tryz.ntmps66
    go_wp2
    go_ret
    exact ⟨rfl, Below.refl _ _⟩
  · by_cases h2 : s.data.toList = [118, 97, 108]
    · obtain rfl : s = ⟨#[118, 97, 108]⟩ := by have := congrArg List.toArray h2; cases s; simpa using this
      go_enter Tryz.func66, Tryz.ntmps66
      go_wp2
      go_ret
      exact ⟨rfl, Below.refl _ _⟩
    · by_cases h3 : s.data.toList = [110, 111, 116]
      · obtain rfl : s = ⟨#[110, 111, 116]⟩ := by have := congrArg List.toArray h3; cases s; simpa using this
        go_enter Tryz.func66, Tryz.ntmps66
        go_wp2
        go_ret
        exact ⟨rfl, Below.refl _ _⟩
      · by_cases h4 : s.data.toList = [110, 101, 103]
        · obtain rfl : s = ⟨#[110, 101, 103]⟩ := by have := congrArg List.toArray h4; cases s; simpa using this
          go_enter Tryz.func66, Tryz.ntmps66
          go_wp2
          go_ret
          exact ⟨rfl, Below.refl _ _⟩
        · by_cases h5 : s.data.toList = [108, 101, 110]
          · obtain rfl : s = ⟨#[108, 101, 110]⟩ := by have := congrArg List.toArray h5; cases s; simpa using this
            go_enter Tryz.func66, Tryz.ntmps66
            go_wp2
            go_ret
            exact ⟨rfl, Below.refl _ _⟩
          · by_cases h6 : s.data.toList = [105, 102]
            · obtain rfl : s = ⟨#[105, 102]⟩ := by have := congrArg List.toArray h6; cases s; simpa using this
              go_enter Tryz.func66, Tryz.ntmps66
              go_wp2
              go_ret
              exact ⟨rfl, Below.refl _ _⟩
            · have hA : arityT s.data.toList = if inSigns s.data.toList = true then 2 else -1 := by
                rw [arityT, if_neg (by simp [h1, h2]), if_neg (by simp [h3, h4, h5]), if_neg h6]
              rw [hA]
              exact arity_late s w h1 h2 h3 h4 h5 h6
end Go.Proofs.YtplnjbdngedafaaGreatDoor
namespace Go.Proofs.YtplnjbdngedafaaGreatDoor
open Go.RowKit
set_option linter.unusedVariables false

theorem sizes_take {l : List Ex} {k : Nat} (h : k < l.length) : Ex.sizes (l.take (k + 1)) = Ex.sizes (l.take k) + l[k].size := by
  induction l generalizing k with
  | nil => simp at h
  | cons x xs ih =>
    cases k with
    | zero => simp [Ex.sizes]
    | succ k =>
      rw [List.take_succ_cons, List.take_succ_cons, Ex.sizes, Ex.sizes, ih (by simpa using h)]
      simp only [List.getElem_cons_succ]
      omega
theorem sizes_take_le (l : List Ex) (k : Nat) : Ex.sizes (l.take k) ≤ Ex.sizes l := by
  induction l generalizing k with
  | nil => simp
  | cons x xs ih =>
    cases k with
    | zero => simp [Ex.sizes]
    | succ k =>
      rw [List.take_succ_cons, Ex.sizes, Ex.sizes]
      have := ih k
      omega
theorem size_arg {l : List Ex} {k : Nat} (h : k < l.length) : l[k].size ≤ Ex.sizes l := by
  have h1 := sizes_take h
  have h2 := sizes_take_le l (k + 1)
  omega
theorem deeps_take {l : List Ex} {k : Nat} (h : k < l.length) : Ex.deeps (l.take (k + 1)) = max (Ex.deeps (l.take k)) l[k].deep := by
  induction l generalizing k with
  | nil => simp at h
  | cons x xs ih =>
    cases k with
    | zero => simp [Ex.deeps]
    | succ k =>
      rw [List.take_succ_cons, List.take_succ_cons, Ex.deeps, Ex.deeps, ih (by simpa using h)]
      simp only [List.getElem_cons_succ]
      omega
theorem deep_le : ∀ x : Ex, x.deep ≤ x.size := by
  refine Ex.ind fun op nm vt vn vs pos args ih => ?_
  rw [Ex.deep, Ex.size]
  have key : ∀ l : List Ex, (∀ y ∈ l, y.deep ≤ y.size) → Ex.deeps l ≤ Ex.sizes l := by
    intro l
    induction l with
    | nil => intro _; simp [Ex.deeps, Ex.sizes]
    | cons x xs ih2 =>
      intro h
      rw [Ex.deeps, Ex.sizes]
      have h1 := h x List.mem_cons_self
      have h2 := ih2 (fun y hy => h y (List.mem_cons_of_mem _ hy))
      omega
  have := key args ih
  omega
/-- The cells of an expression that was handed in stay in its own block. -/
theorem box_kept {w wr : World} {cs : Array Value} (h : Below (w.heap.size + 1) (w.alloc (.cells cs 26)) wr) (i : Nat) : wr.cell? ⟨w.heap.size, i, none⟩ = cs[i]? := by
  rw [h.cell (p := ⟨w.heap.size, i, none⟩) (Nat.lt_succ_self _), World.cell?_alloc_at _ _ _ _ rfl]
theorem box_below {w wr : World} {cs : Array Value} (h : Below (w.heap.size + 1) (w.alloc (.cells cs 26)) wr) : Below w.heap.size w wr :=
  ((Below.refl _ _).alloc (Nat.le_refl _) _).trans (h.mono (Nat.le_succ _))
theorem box_size {w wr : World} {cs : Array Value} (h : Below (w.heap.size + 1) (w.alloc (.cells cs 26)) wr) : w.heap.size + 1 ≤ wr.heap.size := by
  have := h.size
  simpa using this
set_option maxHeartbeats 4000000 in
set_option maxRecDepth 20000 in
theorem refSize_any : ∀ (x : Ex) (lo : Nat → Prop) (v : Value) (w : World), ExIn w lo v x → x.size ≤ 1048576 →
    Calls Tryz.prog 64 #[v] w fun e w' => e = .returned (.int .i64 (x.size : Nat)) ∧ Below w.heap.size w w' := by
  refine Ex.ind fun op nm vt vn vs pos args ih lo v w h hsz => ?_
  rw [ExIn] at h
  obtain ⟨p, c, rfl, ⟨hm, _⟩, _, _, _, h5⟩ := h
  rw [Ex.size] at hsz ⊢
  obtain ⟨S, hS⟩ : ∃ S, 1 + Ex.sizes args = S := ⟨_, rfl⟩
  have HS : Hid (1 + Ex.sizes args = S) := hS
  rw [hS] at hsz ⊢
  have HI : Hid (∀ y ∈ args, ∀ (lo : Nat → Prop) (v : Value) (w : World), ExIn w lo v y → y.size ≤ 1048576 → Calls Tryz.prog 64 #[v] w fun e w' => e = .returned (.int .i64 (y.size : Nat)) ∧ Below w.heap.size w w') := ih
  unfold maxLen at hm
  clear ih hS
  go_enter Tryz.func64, Tryz.ntmps64
  go_wp2
  go_loopg [3, 4, 5] args.length (fun gg s3 s4 _ wr => ∃ (kk N : Nat), kk ≤ args.length ∧ args.length - kk ≤ gg ∧ s4 = .int .i64 kk ∧ s3 = .int .i64 N ∧ N ≤ S ∧ Hid (N = 1 + Ex.sizes (args.take kk)) ∧ Aside (Below (w.heap.size + 1) (w.alloc (.cells #[.string op, .string nm, .int .i64 vt, .int .i64 vn, .string vs, .slice p args.length c, .int .i64 pos] 26)) wr))
  case atStart => exact ⟨0, 1, Nat.zero_le _, by omega, rfl, rfl, by have := HS.out; omega, rfl, (show Aside _ from Below.refl _ _)⟩
  case round =>
    obtain ⟨kk, N, hkk, hg, rfl, rfl, hN, HN, BW⟩ := hrel
    have q5 := box_kept BW.out 5
    simp at q5
    have ql := box_size BW.out
    by_cases hlt : kk < args.length
    · have hltz : (kk : Int) < (args.length : Int) := by omega
      have k0 : (0 : Int) ≤ (kk : Int) := by omega
      rcases h5 with h0 | ⟨b, off, rfl, hbl, hlo, h5⟩
      · exact absurd h0 (by omega)
      obtain ⟨v0, v1, v2, v3, v4, v5, v6, e0, e1, e2, e3, e4, e5, e6, hx⟩ := exsIn_at w lo b args off h5 kk hlt
      have hb := box_below BW.out
      have key : ∀ o : Nat, wr.cell? ⟨b, o, none⟩ = w.cell? ⟨b, o, none⟩ := fun o => hb.cell (p := ⟨b, o, none⟩) hbl
      rw [← key] at e0 e1 e2 e3 e4 e5 e6
      have hblr : b < wr.heap.size := by omega
      have hsa : args[kk].size ≤ 1048576 := by have := size_arg hlt; have := HS.out; omega
      have cI := HI.out _ (List.getElem_mem hlt) lo _ wr (hx.on hb) hsa
      have HN2 : Hid (N + args[kk].size = 1 + Ex.sizes (args.take (kk + 1))) := by
        show _ = _
        rw [sizes_take hlt, HN.out]; omega
      have hN2 : N + args[kk].size ≤ S := by
        have h1 := HN2.out
        have h2 := sizes_take_le args (kk + 1)
        have h3 := HS.out
        omega
      generalize args[kk].size = m at cI HN2 hN2 hsa
      clear key hx h5 HN hb
      go_wp2_with fail
      refine cI.mono ?_
      rintro e w1 ⟨rfl, b1⟩
      have B1 := BW.out.trans (b1.mono ql)
      go_wp2
      go_roundg (args.length - (kk + 1))
      case measure => omega
      case rel => exact ⟨kk + 1, N + m, by omega, by omega, by go_num, by go_num, hN2, HN2, B1⟩
    · have hltz : ¬ (kk : Int) < (args.length : Int) := by omega
      have HF : N = S := by rw [HN.out, List.take_of_length_le (by omega)]; exact HS.out
      subst HF
      clear HN
      go_wp2
      go_ret
      exact ⟨rfl, box_below BW.out⟩
theorem deeps_take_le (l : List Ex) (k : Nat) : Ex.deeps (l.take k) ≤ Ex.deeps l := by
  induction l generalizing k with
  | nil => simp
  | cons x xs ih =>
    cases k with
    | zero => simp [Ex.deeps]
    | succ k =>
      rw [List.take_succ_cons, Ex.deeps, Ex.deeps]
      have := ih k
      omega
set_option maxHeartbeats 4000000 in
set_option maxRecDepth 20000 in
theorem refDeep_any : ∀ (x : Ex) (lo : Nat → Prop) (v : Value) (w : World), ExIn w lo v x → x.size ≤ 1048576 →
    Calls Tryz.prog 65 #[v] w fun e w' => e = .returned (.int .i64 (x.deep : Nat)) ∧ Below w.heap.size w w' := by
  refine Ex.ind fun op nm vt vn vs pos args ih lo v w h hsz => ?_
  rw [ExIn] at h
  obtain ⟨p, c, rfl, ⟨hm, _⟩, _, _, _, h5⟩ := h
  have hdz := deep_le (.node op nm vt vn vs pos args)
  rw [Ex.size] at hsz hdz
  rw [Ex.deep] at hdz ⊢
  obtain ⟨S, hS⟩ : ∃ S, Ex.deeps args + 1 = S := ⟨_, rfl⟩
  have HS : Hid (Ex.deeps args + 1 = S) := hS
  have HZ : Hid (1 + Ex.sizes args ≤ 1048576) := hsz
  rw [hS] at hdz ⊢
  have hsz : S ≤ 1048576 := by omega
  clear hdz
  have HI : Hid (∀ y ∈ args, ∀ (lo : Nat → Prop) (v : Value) (w : World), ExIn w lo v y → y.size ≤ 1048576 → Calls Tryz.prog 65 #[v] w fun e w' => e = .returned (.int .i64 (y.deep : Nat)) ∧ Below w.heap.size w w') := ih
  unfold maxLen at hm
  clear ih hS
  go_enter Tryz.func65, Tryz.ntmps65
  go_wp2
  go_loopg [3, 4, 5] args.length (fun gg s3 s4 _ wr => ∃ (kk N : Nat), kk ≤ args.length ∧ args.length - kk ≤ gg ∧ s4 = .int .i64 kk ∧ s3 = .int .i64 N ∧ N < S ∧ Hid (N = Ex.deeps (args.take kk)) ∧ Aside (Below (w.heap.size + 1) (w.alloc (.cells #[.string op, .string nm, .int .i64 vt, .int .i64 vn, .string vs, .slice p args.length c, .int .i64 pos] 26)) wr))
  case atStart => exact ⟨0, 0, Nat.zero_le _, by omega, rfl, rfl, by have := HS.out; omega, rfl, (show Aside _ from Below.refl _ _)⟩
  case round =>
    obtain ⟨kk, N, hkk, hg, rfl, rfl, hN, HN, BW⟩ := hrel
    have q5 := box_kept BW.out 5
    simp at q5
    have ql := box_size BW.out
    by_cases hlt : kk < args.length
    · have hltz : (kk : Int) < (args.length : Int) := by omega
      have k0 : (0 : Int) ≤ (kk : Int) := by omega
      rcases h5 with h0 | ⟨b, off, rfl, hbl, hlo, h5⟩
      · exact absurd h0 (by omega)
      obtain ⟨v0, v1, v2, v3, v4, v5, v6, e0, e1, e2, e3, e4, e5, e6, hx⟩ := exsIn_at w lo b args off h5 kk hlt
      have hb := box_below BW.out
      have key : ∀ o : Nat, wr.cell? ⟨b, o, none⟩ = w.cell? ⟨b, o, none⟩ := fun o => hb.cell (p := ⟨b, o, none⟩) hbl
      rw [← key] at e0 e1 e2 e3 e4 e5 e6
      have hblr : b < wr.heap.size := by omega
      have hsa : args[kk].size ≤ 1048576 := by have := size_arg hlt; have := HZ.out; omega
      have cI := HI.out _ (List.getElem_mem hlt) lo _ wr (hx.on hb) hsa
      have HN2 : Hid (max N args[kk].deep = Ex.deeps (args.take (kk + 1))) := by
        show _ = _
        rw [deeps_take hlt, HN.out]
      have hN2 : max N args[kk].deep < S := by
        have h1 := HN2.out
        have h2 := deeps_take_le args (kk + 1)
        have h3 := HS.out
        omega
      generalize args[kk].deep = m at cI HN2 hN2
      clear key hx h5 HN hb hsa
      go_wp2_with fail
      refine cI.mono ?_
      rintro e w1 ⟨rfl, b1⟩
      have B1 := BW.out.trans (b1.mono ql)
      by_cases hgt : N < m
      · have hgz : (N : Int) < (m : Int) := by omega
        have HN3 : Hid (m = Ex.deeps (args.take (kk + 1))) := by
          show _ = _
          rw [← HN2.out]; omega
        go_wp2
        go_roundg (args.length - (kk + 1))
        case measure => omega
        case rel => exact ⟨kk + 1, m, by omega, by omega, by go_num, rfl, by omega, HN3, B1⟩
      · have hgz : ¬ (N : Int) < (m : Int) := by omega
        have HN3 : Hid (N = Ex.deeps (args.take (kk + 1))) := by
          show _ = _
          rw [← HN2.out]; omega
        go_wp2
        go_roundg (args.length - (kk + 1))
        case measure => omega
        case rel => exact ⟨kk + 1, N, by omega, by omega, by go_num, rfl, by omega, HN3, B1⟩
    · have hltz : ¬ (kk : Int) < (args.length : Int) := by omega
      have HF : N + 1 = S := by rw [HN.out, List.take_of_length_le (by omega)]; exact HS.out
      subst HF
      clear HN
      go_wp2
      go_ret
      exact ⟨by go_num, box_below BW.out⟩
/-- Are there no more than may be? -/
def Ex.small (x : Ex) : Bool := decide (x.size ≤ 200) && decide (x.deep ≤ 30)
set_option maxHeartbeats 1000000 in
theorem refSmall_any (x : Ex) (lo : Nat → Prop) (v : Value) (w : World) (h : ExIn w lo v x) (hsz : x.size ≤ 1048576) :
    Calls Tryz.prog 39 #[v] w fun e w' => e = .returned (.bool x.small) ∧ Below w.heap.size w w' := by
  have cS := refSize_any x lo v
  have cD := fun (W : World) (hh : ExIn W lo v x) => refDeep_any x lo v W hh hsz
  have hd := deep_le x
  have HX : Hid (x.small = (decide (x.size ≤ 200) && decide (x.deep ≤ 30))) := rfl
  obtain ⟨p, c, op, nm, vt, vn, vs, pos, args, hv⟩ : ∃ p c op nm vt vn vs pos args, x = .node op nm vt vn vs pos args ∧ v = .agg #[.string op, .string nm, .int .i64 vt, .int .i64 vn, .string vs, .slice p args.length c, .int .i64 pos] := by
    cases x with
    | node op nm vt vn vs pos args =>
      have h' := h
      rw [ExIn] at h'
      obtain ⟨p, c, hv, _⟩ := h'
      exact ⟨p, c, op, nm, vt, vn, vs, pos, args, rfl, hv⟩
  have B0 := (Below.refl w.heap.size w).alloc (Nat.le_refl _) (.cells #[.string op, .string nm, .int .i64 vt, .int .i64 vn, .string vs, .slice p args.length c, .int .i64 pos] 26)
  have h1 := h.on B0
  obtain ⟨_, rfl⟩ := hv
  generalize x.size = n at cS hsz HX hd
  generalize x.deep = d at cD hd HX
  obtain ⟨R, hR⟩ : ∃ R, x.small = R := ⟨_, rfl⟩
  rw [hR] at HX ⊢
  clear hR
  go_enter Tryz.func39, Tryz.ntmps39
  go_wp2_with fail
  refine (cS _ h1 hsz).mono ?_
  rintro e w1 ⟨rfl, b1⟩
  have B1 := B0.trans (b1.mono B0.size)
  have h2 := h1.on b1
  have q := fun i => box_kept (w := w) (wr := w1) (cs := #[.string op, .string nm, .int .i64 vt, .int .i64 vn, .string vs, .slice p args.length c, .int .i64 pos]) (b1.mono (by simp)) i
  have q0 := q 0
  have q1 := q 1
  have q2 := q 2
  have q3 := q 3
  have q4 := q 4
  have q5 := q 5
  have q6 := q 6
  simp at q0 q1 q2 q3 q4 q5 q6
  have ql : w.heap.size < w1.heap.size := by have := b1.size; simp at this; omega
  clear q cS
  go_wp2_with fail
  refine (cD _ h2).mono ?_
  rintro e w2 ⟨rfl, b2⟩
  have B2 := B1.trans (b2.mono B1.size)
  clear cD q0 q1 q2 q3 q4 q5 q6
  by_cases hn : n ≤ 200
  · have hnz : (n : Int) ≤ 200 := by omega
    by_cases hd : d ≤ 30
    · have hdz : (d : Int) ≤ 30 := by omega
      have HX2 : R = true := by rw [HX.out]; simp [hn, hd]
      subst HX2
      clear HX
      go_wp2
      go_ret
      exact ⟨rfl, B2⟩
    · have hdz : ¬ (d : Int) ≤ 30 := by omega
      have HX2 : R = false := by rw [HX.out]; simp [hd]
      subst HX2
      clear HX
      go_wp2
      go_ret
      exact ⟨congrArg (fun b => Ending.returned (.bool b)) (decide_eq_false (by omega)), B2⟩
  · have hnz : ¬ (n : Int) ≤ 200 := by omega
    have HX2 : R = false := by rw [HX.out]; simp [hn]
    subst HX2
    clear HX
    go_wp2
    go_ret
    exact ⟨rfl, B2⟩
end Go.Proofs.YtplnjbdngedafaaGreatDoor
namespace Go.Proofs.YtplnjbdngedafaaGreatDoor
open Go.RowKit Go.BigFrame
set_option linter.unusedVariables false

/-- The program's list of operations, and the document's Arity. -/
theorem arity_ops (x : List UInt8) : (apL x opsL).2 = decide (0 ≤ arityT x) ∧ (0 ≤ arityT x → (apL x opsL).1 = arityT x) := by
  by_cases h : x ∈ opsL.map (·.1)
  · have all : ∀ y ∈ opsL.map (·.1), (apL y opsL).2 = decide (0 ≤ arityT y) ∧ (0 ≤ arityT y → (apL y opsL).1 = arityT y) := by
      intro y hy
      simp only [opsL, List.map_cons, List.map_nil, List.mem_cons, List.not_mem_nil, or_false] at hy
      rcases hy with rfl | rfl | rfl | rfl | rfl | rfl | rfl | rfl | rfl | rfl | rfl | rfl | rfl | rfl | rfl | rfl | rfl | rfl | rfl <;> exact ⟨by decide, by decide⟩
    exact all x h
  · have hn : (apL x opsL).2 = false := by
      cases hf : (apL x opsL).2 with
      | false => rfl
      | true => exact absurd (List.mem_map.2 ⟨_, apL_mem hf, rfl⟩) h
    have ha : arityT x < 0 := by
      simp only [opsL, List.map_cons, List.map_nil, List.mem_cons, List.not_mem_nil, or_false, not_or] at h
      obtain ⟨n1, n2, n3, n4, n5, n6, n7, n8, n9, n10, n11, n12, n13, n14, n15, n16, n17, n18, n19⟩ := h
      unfold arityT
      rw [if_neg (by simp [n1, n2]), if_neg (by simp [n5, n17, n18]), if_neg n19]
      have hs : inSigns x = false := by
        unfold inSigns
        rw [Bool.eq_false_iff]
        intro ha
        rw [List.any_eq_true] at ha
        obtain ⟨y, hy, he⟩ := ha
        have he2 : y = x := by simpa using he
        subst he2
        simp [sgl] at hy
        rcases hy with h | h | h | h | h | h | h | h | h | h | h | h | h <;> simp_all
      rw [hs]
      decide
    exact ⟨by rw [hn]; symm; exact decide_eq_false (by omega), fun hh => by omega⟩
theorem size_pre : ∀ (x : Ex) (d : Nat), (x.pre d).length = x.size := by
  refine Ex.ind fun op nm vt vn vs pos l ih d => ?_
  rw [Ex.pre, Ex.size, List.length_cons]
  have : ∀ l : List Ex, (∀ y ∈ l, ∀ d, (y.pre d).length = y.size) → (Ex.pres (d + 1) l).length = Ex.sizes l := fun l => by
    induction l with
    | nil => intro _; rw [Ex.pres, Ex.sizes]; rfl
    | cons y ys ihl =>
      intro h
      rw [Ex.pres, Ex.sizes, List.length_append, h y (by simp), ihl fun z hz => h z (by simp [hz])]
  rw [this l ih]
  omega
theorem deep_pre : ∀ (x : Ex) (d m : Nat), (∀ q ∈ x.pre d, q.2 ≤ m) ↔ d + x.deep ≤ m + 1 := by
  refine Ex.ind fun op nm vt vn vs pos l ih d m => ?_
  have key : ∀ l : List Ex, (∀ y ∈ l, ∀ d m, (∀ q ∈ y.pre d, q.2 ≤ m) ↔ d + y.deep ≤ m + 1) → ((∀ q ∈ Ex.pres (d + 1) l, q.2 ≤ m) ↔ (l = [] ∨ d + 1 + Ex.deeps l ≤ m + 1)) := fun l => by
    induction l with
    | nil => intro _; rw [Ex.pres]; simp
    | cons y ys ihl =>
      intro h
      have i2 := ihl fun z hz => h z (by simp [hz])
      have hy := h y (by simp) (d + 1) m
      rw [Ex.pres, Ex.deeps]
      simp only [List.mem_append]
      constructor
      · intro hq
        have a1 := hy.1 fun q hq2 => hq q (.inl hq2)
        have a2 := i2.1 fun q hq2 => hq q (.inr hq2)
        right
        rcases a2 with rfl | a2
        · rw [Ex.deeps]; omega
        · omega
      · intro hq q hq2
        have hq3 : d + 1 + max y.deep (Ex.deeps ys) ≤ m + 1 := by simpa using hq
        rcases hq2 with hq2 | hq2
        · exact hy.2 (by omega) q hq2
        · exact i2.2 (.inr (by omega)) q hq2
  rw [Ex.pre, Ex.deep]
  have k := key l ih
  constructor
  · intro h
    have h0 := h _ (List.mem_cons_self ..)
    simp only at h0
    have h1 := k.1 fun q hq => h q (List.mem_cons_of_mem _ hq)
    rcases h1 with rfl | h1
    · rw [Ex.deeps]; omega
    · omega
  · intro h q hq
    rcases List.mem_cons.1 hq with rfl | hq
    · simp only; omega
    · exact k.2 (.inr (by omega)) q hq
/-- Too great, as the document says it. -/
theorem tg_small (x : Ex) : tgB x = !x.small := by
  have h := fold_tg (x.pre 1) 0
  rw [tgB, Ex.small]
  congr 1
  rw [Bool.eq_iff_iff, h, Bool.and_eq_true, decide_eq_true_eq, decide_eq_true_eq, size_pre, deep_pre]
  have hp : 1 ≤ x.size := by rw [← size_pre x 1, pre_eq]; simp
  constructor
  · rintro ⟨h1, h2⟩
    refine ⟨?_, by omega⟩
    rcases h1 with h1 | h1
    · have := congrArg List.length h1
      rw [size_pre] at this
      simp at this
      omega
    · omega
  · rintro ⟨h1, h2⟩
    exact ⟨.inr (by omega), by omega⟩
end Go.Proofs.YtplnjbdngedafaaGreatDoor
namespace Go.Proofs.YtplnjbdngedafaaGreatDoor
open Go.RowKit
set_option linter.unusedVariables false

theorem of_right {zs : List (ByteArray × Int)} {x : Ex} (h : (ofP zs x).2.1 = 0) : ckP x = 0 ∧ schE zs = 0 ∧ ofP zs x = tyP zs x := by
  have hck : ckP x = 0 := by
    by_cases hc : ckP x = 0
    · exact hc
    · rw [ofP, if_pos hc] at h
      exact absurd h hc
  have hs : schE zs = 0 := by
    by_cases hc : schE zs = 0
    · exact hc
    · rw [ofP, if_neg (fun hh => hh hck), if_pos hc] at h
      exact absurd h hc
  exact ⟨hck, hs, by rw [ofP, if_neg (fun hh => hh hck), if_neg (fun hh => hh hs)]⟩
theorem of_small {zs : List (ByteArray × Int)} {x : Ex} (h : (ofP zs x).2.1 = 0) : x.size ≤ 200 ∧ x.deep ≤ 30 := by
  have h1 := (ckP_zero (of_right h).1).1
  rw [tg_small, Ex.small] at h1
  simp only [Bool.not_eq_false', Bool.and_eq_true, decide_eq_true_eq] at h1
  exact h1
theorem ins_box {W : World} {u : Value} {is : List I5} {b : Nat} (h : InsV W u is) (hb : ∃ cs, W.heap[b]? = some (Obj.cells cs 34 (0, 0))) {x y : Value} : InsV ((W.setCell ⟨b, 0, none⟩ x).setCell ⟨b, 1, none⟩ y) u is := h.keep fun g cs fz hg => by
  obtain ⟨cs2, hb⟩ := hb
  have hne : g ≠ b := fun e => by
    subst e
    rw [hb] at hg
    injection hg with hg
    injection hg with _ e _
    exact absurd e (by decide)
  rw [Below.heap_setCell _ _ _ _ hne, Below.heap_setCell _ _ _ _ hne]
set_option maxHeartbeats 4000000 in
set_option maxRecDepth 20000 in
theorem compileX_any (x : Ex) (lo : Nat → Prop) (v vl : Value) (zs : List (ByteArray × Int)) (w : World) (henv : KEnv w) (hx : ExIn w lo v x) (hsz : (x.pre 1).length ≤ 1048576) (hcv : ColsV w vl zs) (T H P : Int) (hof : ofP zs x = (T, H, P)) :
    Calls Tryz.prog 5 #[v, vl] w fun e w' => (∃ u hh pp, e = .returned (.tuple #[u, .agg #[.int .i64 hh, .int .i64 pp]]) ∧ Aside (H = 0 → hh = 0 ∧ pp = 0 ∧ InsV w' u (cpP zs x)) ∧ Aside (H ≠ 0 → hh = H ∧ pp = P ∧ u = .slice none 0 0)) ∧ Below w.heap.size w w' := by
  obtain ⟨o1, n1, t1, k1, s1, p1, m1, c1, a1, rfl⟩ := hx.agg
  have b0 : Below w.heap.size w ((w.alloc (.cells #[.string o1, .string n1, .int .i64 t1, .int .i64 k1, .string s1, .slice p1 m1 c1, .int .i64 a1] 26)).alloc (.cells #[.int .i64 0, .int .i64 0] 34)) := (alB w _).alloc (by simp) _
  have cO := of_any x lo _ vl zs _ (henv.on b0) (hx.on b0) hsz (hcv.on b0) T H P hof
  by_cases hH : H = 0
  · subst hH
    have hof0 : (ofP zs x).2.1 = 0 := by rw [hof]
    obtain ⟨hck, hsch, hty⟩ := of_right hof0
    obtain ⟨hs200, -⟩ := of_small hof0
    obtain ⟨pz, cz, rfl, hcc⟩ := id hcv
    have hz6 : zs.length ≤ 6 ∧ zs.length ≠ 0 := ⟨(schE_zero hsch).2.1, (schE_zero hsch).1⟩
    obtain ⟨cb, co, rfl, -, -, hci⟩ := hcc.resolve_left hz6.2
    have cK := fun W (b : Below w.heap.size w W) => compile_any zs cb co cz hz6.1 x 1 lo _ W (ckP_zero hck).2 (by rw [← hty]; exact hof0) (henv.on b) (hx.on b) (hci.on b) hs200
    clear henv hx hsz hcv hcc hci hof hof0 hck hsch hty hs200
    go_enter Tryz.func5, Tryz.ntmps5
    go_wp2_with fail
    refine cO.mono ?_
    rintro e w1 ⟨rfl, b1⟩
    have B1 := b0.trans (b1.mono b0.size)
    have B2 := B1.alloc B1.size (.cells #[.int .i64 0, .int .i64 P] 34)
    have hb1 := b1.size
    simp at hb1
    have g0 : ∀ j, w1.cell? ⟨w.heap.size, j, none⟩ = (#[.string o1, .string n1, .int .i64 t1, .int .i64 k1, .string s1, .slice p1 m1 c1, .int .i64 a1] : Array Value)[j]? := fun j => by
      rw [b1.cell (p := ⟨w.heap.size, j, none⟩) (by simp; omega), World.cell?_alloc_lt _ _ _ (by simp), World.cell?_alloc_at _ _ _ _ rfl]
    have x0 : w1.cell? ⟨w.heap.size, 0, none⟩ = some (.string o1) := g0 0
    have x1 : w1.cell? ⟨w.heap.size, 1, none⟩ = some (.string n1) := g0 1
    have x2 : w1.cell? ⟨w.heap.size, 2, none⟩ = some (.int .i64 t1) := g0 2
    have x3 : w1.cell? ⟨w.heap.size, 3, none⟩ = some (.int .i64 k1) := g0 3
    have x4 : w1.cell? ⟨w.heap.size, 4, none⟩ = some (.string s1) := g0 4
    have x5 : w1.cell? ⟨w.heap.size, 5, none⟩ = some (.slice p1 m1 c1) := g0 5
    have x6 : w1.cell? ⟨w.heap.size, 6, none⟩ = some (.int .i64 a1) := g0 6
    have f0 : w1.cell? ⟨w.heap.size + 1, 0, none⟩ = some (.int .i64 0) := by rw [b1.cell (p := ⟨w.heap.size + 1, 0, none⟩) (by simp), World.cell?_alloc_at _ _ _ _ (by simp)]; rfl
    have f1 : w1.cell? ⟨w.heap.size + 1, 1, none⟩ = some (.int .i64 0) := by rw [b1.cell (p := ⟨w.heap.size + 1, 1, none⟩) (by simp), World.cell?_alloc_at _ _ _ _ (by simp)]; rfl
    have ff : ∀ o, w1.frozen? ⟨w.heap.size + 1, o, none⟩ = false := fun o => by rw [b1.frozen (p := ⟨w.heap.size + 1, o, none⟩) (by simp), World.frozen?_alloc_at _ _ _ _ (by simp)]
    have hl1 : w.heap.size + 1 < w1.heap.size := by omega
    have hl0 : w.heap.size < w1.heap.size := by omega
    have HFB : Hid (∀ W, Below (w1.heap.size) (w1.alloc (.cells #[.int .i64 0, .int .i64 P] 34)) W → ∃ cs, W.heap[w.heap.size + 1]? = some (Obj.cells cs 34 (0, 0))) := fun W hW => by
      refine ⟨#[.int .i64 0, .int .i64 0], ?_⟩
      rw [hW.block (w.heap.size + 1) hl1, Below.heap_alloc _ _ _ hl1, b1.block (w.heap.size + 1) (by simp)]
      have := heap_alloc_new (w.alloc (.cells #[.string o1, .string n1, .int .i64 t1, .int .i64 k1, .string s1, .slice p1 m1 c1, .int .i64 a1] 26)) (.cells #[.int .i64 0, .int .i64 0] 34)
      simpa using this
    have cK2 := cK _ B2
    clear cO b1 g0 cK hb1
    go_wp2_with fail
    refine cK2.mono ?_
    rintro e w3 ⟨⟨u, rfl, IU⟩, b3⟩
    have hs3 := b3.size
    simp at hs3
    have B3 := B2.trans (b3.mono B2.size)
    have r0 : w3.cell? ⟨w.heap.size + 1, 0, none⟩ = some (.int .i64 0) := by rw [b3.cell (p := ⟨w.heap.size + 1, 0, none⟩) (by simp; omega), World.cell?_alloc_lt _ _ _ hl1]; exact f0
    have r1 : w3.cell? ⟨w.heap.size + 1, 1, none⟩ = some (.int .i64 0) := by rw [b3.cell (p := ⟨w.heap.size + 1, 1, none⟩) (by simp; omega), World.cell?_alloc_lt _ _ _ hl1]; exact f1
    have rf : ∀ o, w3.frozen? ⟨w.heap.size + 1, o, none⟩ = false := fun o => by rw [b3.frozen (p := ⟨w.heap.size + 1, o, none⟩) (by simp; omega), World.frozen?_alloc_past _ _ _ hl1]; exact ff o
    have rl : w.heap.size + 1 < w3.heap.size := by omega
    have B4 : Below w.heap.size w ((w3.setCell ⟨w.heap.size + 1, 0, none⟩ (.int .i64 0)).setCell ⟨w.heap.size + 1, 1, none⟩ (.int .i64 0)) := (B3.setCell (p := ⟨w.heap.size + 1, 0, none⟩) (Nat.le_succ _) _).setCell (p := ⟨w.heap.size + 1, 1, none⟩) (Nat.le_succ _) _
    have I4 : Aside (InsV ((w3.setCell ⟨w.heap.size + 1, 0, none⟩ (.int .i64 0)).setCell ⟨w.heap.size + 1, 1, none⟩ (.int .i64 0)) u (cpP zs x)) := ins_box IU.out (HFB.out w3 (b3.mono (by simp)))
    clear cK2 b3 x0 x1 x2 x3 x4 x5 x6 f0 f1 ff
    obtain ⟨ub, uo, uc, rfl, _⟩ := id I4.out
    go_wp2
    refine bodyPost_ret (v := .tuple #[.slice (some ⟨ub, uo, none⟩) (cpP zs x).length uc, .agg #[.int .i64 0, .int .i64 0]]) (by simp [results, Tryz.results5, go_sem, World.cell?_setCell_other, World.cell?_setCell_same, r0, r1]) rfl ?_
    exact ⟨⟨_, _, _, rfl, (show Aside _ from fun _ => ⟨rfl, rfl, I4.out⟩), (show Aside _ from fun h => absurd rfl h)⟩, B4⟩
  · have hHb : (H != 0) = true := by simpa using hH
    have HH : Hid (H ≠ 0) := hH
    obtain ⟨pz, cz, rfl, -⟩ := hcv
    clear henv hx hsz hof hH
    go_enter Tryz.func5, Tryz.ntmps5
    go_wp2_with fail
    refine cO.mono ?_
    rintro e w1 ⟨rfl, b1⟩
    have B1 := b0.trans (b1.mono b0.size)
    have B2 := B1.alloc B1.size (.cells #[.int .i64 H, .int .i64 P] 34)
    have hb1 := b1.size
    simp at hb1
    have f0 : w1.cell? ⟨w.heap.size + 1, 0, none⟩ = some (.int .i64 0) := by rw [b1.cell (p := ⟨w.heap.size + 1, 0, none⟩) (by simp), World.cell?_alloc_at _ _ _ _ (by simp)]; rfl
    have f1 : w1.cell? ⟨w.heap.size + 1, 1, none⟩ = some (.int .i64 0) := by rw [b1.cell (p := ⟨w.heap.size + 1, 1, none⟩) (by simp), World.cell?_alloc_at _ _ _ _ (by simp)]; rfl
    have ff : ∀ o, w1.frozen? ⟨w.heap.size + 1, o, none⟩ = false := fun o => by rw [b1.frozen (p := ⟨w.heap.size + 1, o, none⟩) (by simp), World.frozen?_alloc_at _ _ _ _ (by simp)]
    have hl1 : w.heap.size + 1 < w1.heap.size := by omega
    clear cO b1 hb1
    go_wp2
    go_region
    all_goals
      go_wp2
      refine bodyPost_ret (v := .tuple #[.slice none 0 0, .agg #[.int .i64 H, .int .i64 P]]) (by simp [results, Tryz.results5, go_sem, (res2 f0 f1 hl1 (.int .i64 H) (.int .i64 P) (.cells #[.int .i64 H, .int .i64 P] 34)).1, (res2 f0 f1 hl1 (.int .i64 H) (.int .i64 P) (.cells #[.int .i64 H, .int .i64 P] 34)).2]) rfl ?_
      refine ⟨⟨_, _, _, rfl, (show Aside _ from fun h => absurd h HH.out), (show Aside _ from fun _ => ⟨rfl, rfl, rfl⟩)⟩, ?_⟩
      exact Below.drew (((B1.setCell (p := ⟨w.heap.size + 1, 0, none⟩) (Nat.le_succ _) _).setCell (p := ⟨w.heap.size + 1, 1, none⟩) (Nat.le_succ _) _).alloc (by simp [World.setCell]; have := B1.size; omega) _)
end Go.Proofs.YtplnjbdngedafaaGreatDoor
namespace Go.Proofs.YtplnjbdngedafaaGreatDoor
open Go.RowKit
set_option linter.unusedVariables false
--BEGIN
theorem step_knows {zs : List (ByteArray × Int)} {ks : List Pl} {k : Nat} {i : I5} (h : (stepP zs ks k i).2 = 0) : ∃ T, ks[k]? = some (some T) := by
  unfold stepP at h
  split at h
  · exact absurd h (by simp)
  · rename_i h1
    match hq : ks[k]?, h1 with
    | some (some T), _ => exact ⟨T, rfl⟩
    | some none, h1 => simp at h1
    | none, h1 => simp at h1
theorem loop_on {zs : List (ByteArray × Int)} : ∀ {is : List I5} {ks l : List Pl} {k n : Nat}, loopP zs ks k is = (l, n, 0) → KnOn ks l ∧ l.length = ks.length
  | [], ks, l, k, n, h => by
    rw [loopP] at h
    obtain ⟨rfl, _⟩ := Prod.mk.inj h
    exact ⟨KnOn.refl _, rfl⟩
  | i :: is, ks, l, k, n, h => by
    rw [loopP] at h
    split at h
    · rename_i h1
      exact absurd (congrArg (fun r => r.2.2) h) h1
    · obtain ⟨h1, h2⟩ := loop_on h
      exact ⟨step_on.trans h1, by rw [h2, stepP_len]⟩
theorem loop_at {zs : List (ByteArray × Int)} : ∀ {is : List I5} {ks l : List Pl} {k n : Nat}, ks.length = k + is.length + 1 → loopP zs ks k is = (l, n, 0) → ∀ j (hj : j < is.length), ∃ T, l[k + j]? = some (some T) ∧ argE is[j] zs.length ((l.length : Int) - 1 - (((k + j : Nat) : Int) + 1)) = 0 ∧ (aftP T is[j] zs).2 = 0 ∧ ∀ t ∈ leadP is[j] (k + j + 1), l[t]? = some (some (aftP T is[j] zs).1)
  | [], ks, l, k, n, hl, h, j, hj => absurd hj (by simp)
  | i :: is, ks, l, k, n, hl, h, j, hj => by
    rw [List.length_cons] at hl hj
    rw [loopP] at h
    split at h
    · rename_i h1
      exact absurd (congrArg (fun r => r.2.2) h) h1
    rename_i h1
    have h1' := Classical.not_not.1 h1
    obtain ⟨h2, h3⟩ := loop_on h
    rw [stepP_len] at h3
    match j, hj with
    | 0, _ =>
      obtain ⟨T, hT⟩ := step_knows h1'
      obtain ⟨q1, q2, q3⟩ := step_out h1' hT (by omega)
      refine ⟨T, h2 _ _ (step_on _ _ hT), ?_, q2, fun t ht => h2 _ _ (q3 t ht)⟩
      rw [h3]
      exact q1
    | j + 1, hj =>
      have := loop_at (by rw [stepP_len]; omega) h j (by omega)
      rw [show k + (j + 1) = k + 1 + j by omega]
      exact this
/-- What is known of the places of sound code. -/
structure Snd (zs : List (ByteArray × Int)) (is : List I5) (l : List Pl) (t : Int) : Prop where
  len : l.length = is.length + 1
  most : is.length ≤ 1200
  start : l[0]? = some (some [])
  fin : l[is.length]? = some (some [t])
  step : ∀ j (hj : j < is.length), ∃ T, l[j]? = some (some T) ∧ argE is[j] zs.length ((l.length : Int) - 1 - ((j : Int) + 1)) = 0 ∧ (aftP T is[j] zs).2 = 0 ∧ ∀ t ∈ leadP is[j] (j + 1), l[t]? = some (some (aftP T is[j] zs).1)
theorem snd_of {zs : List (ByteArray × Int)} {is : List I5} (h : (verP is zs).2.2 = 0) : ∃ l t, Snd zs is l t ∧ typP is (verP is zs) = t ∧ schE zs = 0 := by
  obtain ⟨h1, h2, l, t, h3, h4, h5, h6⟩ := sound_loop h
  refine ⟨l, t, ⟨h4, h1, (loop_on h3).1 0 [] rfl, h5, fun j hj => ?_⟩, typ_sound h5 h6, h2⟩
  have := loop_at (by simp) h3 j hj
  rw [Nat.zero_add] at this
  exact this
/-- What lies on the stack at a place of which it is known. -/
def AtPl (l : List Pl) (k : Nat) (st : List V3) : Prop := ∃ T, l[k]? = some (some T) ∧ StkR T st
theorem Snd.need {zs : List (ByteArray × Int)} {is : List I5} {l : List Pl} {t : Int} (h : Snd zs is l t) {k : Nat} {st : List V3} (hk : k < is.length) (ha : AtPl l k st) : needN is[k] ≤ st.length := by
  obtain ⟨T, h1, h2⟩ := ha
  obtain ⟨T', e1, e2, e3, e4⟩ := h.step k hk
  rw [h1] at e1
  obtain rfl : T = T' := Option.some.inj (Option.some.inj e1)
  rw [h2.len]
  unfold aftP at e3
  split at e3
  · exact absurd e3 (by simp)
  · omega
theorem aft_64 {T : List Int} {i : I5} {zs : List (ByteArray × Int)} (h : (aftP T i zs).2 = 0) : (aftP T i zs).1.length ≤ 64 := by
  unfold aftP at h ⊢
  split at h
  · exact absurd h (by simp)
  rename_i hn
  rw [if_neg hn]
  split at h
  · rename_i h3; exact absurd h h3
  rename_i h3
  rw [if_neg h3]
  split at h
  · exact absurd h (by simp)
  rename_i h4
  rw [if_neg h4]
  simp only [List.length_append, List.length_take]
  omega
theorem StkR.sized {T : List Int} {st : List V3} (h : StkR T st) : ∀ v ∈ st, v.2.2.size ≤ 40 ∧ inB v.2.1 := fun v hv => by
  obtain ⟨_, h2, h3⟩ := h.2 v hv
  have := chk_size h2
  exact ⟨by simpa using this, h3⟩
theorem AtPl.sized {l : List Pl} {k : Nat} {st : List V3} (h : AtPl l k st) : ∀ v ∈ st, v.2.2.size ≤ 40 ∧ inB v.2.1 := by
  obtain ⟨T, _, h⟩ := h
  exact h.sized
/-- One instruction of sound code, done at a place of which it is known what lies there: it may be done; and a number goes over, or it is known what lies at the next place. -/
theorem Snd.next {zs : List (ByteArray × Int)} {rs : List V3} {is : List I5} {l : List Pl} {t : Int} (h : Snd zs is l t) (hrow : RowR zs rs) (hb : ∀ i ∈ is, inB i.2.2.2.1) {k : Nat} {st : List V3} (hk : k < is.length) (ha : AtPl l k st) :
    argE is[k] zs.length ((is.length : Int) - ((k : Int) + 1)) = 0 ∧ ((vmI rs st is[k]).2.2 = 0 ∧ k + 1 + (vmI rs st is[k]).2.1 ≤ is.length ∧ AtPl l (k + 1 + (vmI rs st is[k]).2.1) (vmI rs st is[k]).1 ∧ (vmI rs st is[k]).1.length ≤ 64 ∨ (vmI rs st is[k]).2.2 = 9) := by
  obtain ⟨T, h1, h2⟩ := ha
  obtain ⟨T', e1, e2, e3, e4⟩ := h.step k hk
  rw [h1] at e1
  obtain rfl : T = T' := Option.some.inj (Option.some.inj e1)
  have hl := h.len
  rw [hl] at e2
  have e2' : argE is[k] zs.length ((is.length : Int) - ((k : Int) + 1)) = 0 := by
    rw [← e2]; congr 1; omega
  refine ⟨e2', ?_⟩
  rcases vmI_right hrow (hb _ (List.getElem_mem hk)) h2 e2' e3 with ⟨r1, r2⟩ | r
  · have hm := vmI_lead (rs := rs) (st := st) (i := is[k]) k
    have hlt := lead_lt (n := is.length + 1) (by omega) e2 _ hm
    exact .inl ⟨r1, by omega, ⟨_, e4 _ hm, r2⟩, by rw [r2.len]; exact aft_64 e3⟩
  · exact .inr r
/-- A run from a place on, place by place. -/
theorem run_at {rs : List V3} {fuel : Int} {is : List I5} {k : Nat} {st : List V3} {d : List Nat} (hk : k < is.length) (hle : (vmI rs st is[k]).2.2 = 0 → k + 1 + (vmI rs st is[k]).2.1 ≤ is.length) :
    runP rs fuel (is.drop k) k 0 st d = if (d.length : Int) = fuel then (0, st, d, 10) else if (vmI rs st is[k]).2.2 ≠ 0 then (0, st, d, (vmI rs st is[k]).2.2) else runP rs fuel (is.drop (k + 1 + (vmI rs st is[k]).2.1)) (k + 1 + (vmI rs st is[k]).2.1) 0 (vmI rs st is[k]).1 (d ++ [k]) := by
  rw [List.drop_eq_getElem_cons hk, runP]
  split
  · rfl
  split
  · rfl
  rename_i h0
  rw [run_drop rs fuel _ _ _ _ _ (by rw [List.length_drop]; have := hle (Classical.not_not.1 h0); omega), List.drop_drop]
theorem Snd.end {zs : List (ByteArray × Int)} {is : List I5} {l : List Pl} {t : Int} (h : Snd zs is l t) {st : List V3} (ha : AtPl l is.length st) : ∃ v, st = [v] ∧ okV t v := by
  obtain ⟨T, h1, h2⟩ := ha
  rw [h.fin] at h1
  obtain rfl : [t] = T := Option.some.inj (Option.some.inj h1)
  obtain ⟨e1, e2⟩ := h2
  match st, e1, e2 with
  | [v], e1, e2 =>
    refine ⟨v, rfl, ?_⟩
    have := e2 v (by simp)
    rw [List.map_singleton] at e1
    have he : v.1 = t := by injection e1
    rw [he] at this
    exact this
  | [], e1, _ => exact absurd e1 (by simp)
  | _ :: _ :: _, e1, _ => exact absurd e1 (by simp)
--END
end Go.Proofs.YtplnjbdngedafaaGreatDoor
