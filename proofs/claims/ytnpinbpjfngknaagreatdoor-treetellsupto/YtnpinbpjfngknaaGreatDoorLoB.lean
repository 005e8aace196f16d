/-
  TreeSg, TreeSz, in one text.
-/
import Derived.Test.YtnpinbpjfngknaaGreatDoorLo2
import Derived.WalkSmall
namespace Go.Proofs.YtnpinbpjfngknaaGreatDoor
open Go.RowKit
set_option linter.unusedVariables false

theorem signs_0 (w : World) : Calls Tryz.prog 39 #[.int .i64 0] w fun e w' => e = .returned (.slice (some ⟨w.heap.size, 0, none⟩) 1 1) ∧ w' = w.alloc (.cells #[.string ⟨#[111, 114]⟩] 9) := by
  go_enter Tryz.func39, Tryz.ntmps39
  go_wp2
  go_ret
  exact ⟨rfl, rfl⟩
theorem signs_1 (w : World) : Calls Tryz.prog 39 #[.int .i64 1] w fun e w' => e = .returned (.slice (some ⟨w.heap.size, 0, none⟩) 1 1) ∧ w' = w.alloc (.cells #[.string ⟨#[97, 110, 100]⟩] 9) := by
  go_enter Tryz.func39, Tryz.ntmps39
  go_wp2
  go_ret
  exact ⟨rfl, rfl⟩
theorem signs_2 (w : World) : Calls Tryz.prog 39 #[.int .i64 2] w fun e w' => e = .returned (.slice (some ⟨w.heap.size, 0, none⟩) 6 6) ∧ w' = w.alloc (.cells #[.string ⟨#[61]⟩, .string ⟨#[60, 62]⟩, .string ⟨#[60]⟩, .string ⟨#[60, 61]⟩, .string ⟨#[62]⟩, .string ⟨#[62, 61]⟩] 9) := by
  go_enter Tryz.func39, Tryz.ntmps39
  go_wp2
  go_ret
  exact ⟨rfl, rfl⟩
theorem signs_3 (w : World) : Calls Tryz.prog 39 #[.int .i64 3] w fun e w' => e = .returned (.slice (some ⟨w.heap.size, 0, none⟩) 2 2) ∧ w' = w.alloc (.cells #[.string ⟨#[43]⟩, .string ⟨#[45]⟩] 9) := by
  go_enter Tryz.func39, Tryz.ntmps39
  go_wp2
  go_ret
  exact ⟨rfl, rfl⟩
theorem signs_4 (w : World) : Calls Tryz.prog 39 #[.int .i64 4] w fun e w' => e = .returned (.slice (some ⟨w.heap.size, 0, none⟩) 3 3) ∧ w' = w.alloc (.cells #[.string ⟨#[42]⟩, .string ⟨#[47]⟩, .string ⟨#[37]⟩] 9) := by
  go_enter Tryz.func39, Tryz.ntmps39
  go_wp2
  go_ret
  exact ⟨rfl, rfl⟩
/-- Does an operation stand among the signs of the levels? -/
def inSigns (l : List UInt8) : Bool := (sgl 0 ++ sgl 1 ++ sgl 2 ++ sgl 3 ++ sgl 4).any (· == l)
/-- How many parts an operation has; below 0: it is none. -/
def arityT (l : List UInt8) : Int :=
  if l = [99, 111, 108] ∨ l = [118, 97, 108] then 0
  else if l = [110, 111, 116] ∨ l = [110, 101, 103] ∨ l = [108, 101, 110] then 1
  else if l = [105, 102] then 3
  else if inSigns l = true then 2 else -1
/-- The same for every level, the texts in memory. -/
theorem signs_any (lv : Nat) (h : lv < 5) (w : World) : ∃ S : List ByteArray, S.map (·.data.toList) = sgl lv ∧ S.length ≤ 6 ∧ Calls Tryz.prog 39 #[.int .i64 (lv : Int)] w fun e w' => e = .returned (.slice (some ⟨w.heap.size, 0, none⟩) S.length S.length) ∧ (∀ j (hj : j < S.length), w'.cell? ⟨w.heap.size, j, none⟩ = some (.string S[j])) ∧ w.heap.size < w'.heap.size ∧ Below w.heap.size w w' := by
  have h : lv = 0 ∨ lv = 1 ∨ lv = 2 ∨ lv = 3 ∨ lv = 4 := by omega
  have fin : ∀ (S : List ByteArray) (F : Nat), (Calls Tryz.prog 39 #[.int .i64 (F : Int)] w fun e w' => e = .returned (.slice (some ⟨w.heap.size, 0, none⟩) S.length S.length) ∧ w' = w.alloc (.cells (S.map Value.string).toArray 9)) → Calls Tryz.prog 39 #[.int .i64 (F : Int)] w fun e w' => e = .returned (.slice (some ⟨w.heap.size, 0, none⟩) S.length S.length) ∧ (∀ j (hj : j < S.length), w'.cell? ⟨w.heap.size, j, none⟩ = some (.string S[j])) ∧ w.heap.size < w'.heap.size ∧ Below w.heap.size w w' := fun S F c => c.mono fun e w' hh => by
    obtain ⟨he, rfl⟩ := hh
    refine ⟨he, fun j hj => ?_, by simp, (Below.refl _ _).alloc (Nat.le_refl _) _⟩
    rw [World.cell?_alloc_at _ _ _ _ rfl]
    simp [hj]
  rcases h with rfl | rfl | rfl | rfl | rfl
  · exact ⟨[⟨#[111, 114]⟩], rfl, by decide, fin [⟨#[111, 114]⟩] 0 (signs_0 w)⟩
  · exact ⟨[⟨#[97, 110, 100]⟩], rfl, by decide, fin [⟨#[97, 110, 100]⟩] 1 (signs_1 w)⟩
  · exact ⟨[⟨#[61]⟩, ⟨#[60, 62]⟩, ⟨#[60]⟩, ⟨#[60, 61]⟩, ⟨#[62]⟩, ⟨#[62, 61]⟩], rfl, by decide, fin [⟨#[61]⟩, ⟨#[60, 62]⟩, ⟨#[60]⟩, ⟨#[60, 61]⟩, ⟨#[62]⟩, ⟨#[62, 61]⟩] 2 (signs_2 w)⟩
  · exact ⟨[⟨#[43]⟩, ⟨#[45]⟩], rfl, by decide, fin [⟨#[43]⟩, ⟨#[45]⟩] 3 (signs_3 w)⟩
  · exact ⟨[⟨#[42]⟩, ⟨#[47]⟩, ⟨#[37]⟩], rfl, by decide, fin [⟨#[42]⟩, ⟨#[47]⟩, ⟨#[37]⟩] 4 (signs_4 w)⟩
/-- Up to a level. -/
def upTo (lv : Nat) : List (List UInt8) := (List.range lv).flatMap sgl
theorem upTo_succ (lv : Nat) : upTo (lv + 1) = upTo lv ++ sgl lv := by simp [upTo, List.range_succ]
theorem upTo_all (l : List UInt8) : (upTo 5).any (· == l) = inSigns l := by
  rw [inSigns]
  rfl
set_option maxHeartbeats 8000000 in
set_option maxRecDepth 20000 in
theorem arity_late (s : ByteArray) (w : World) (h1 : s.data.toList ≠ [99, 111, 108]) (h2 : s.data.toList ≠ [118, 97, 108]) (h3 : s.data.toList ≠ [110, 111, 116]) (h4 : s.data.toList ≠ [110, 101, 103]) (h5 : s.data.toList ≠ [108, 101, 110]) (h6 : s.data.toList ≠ [105, 102]) :
    Calls Tryz.prog 49 #[.string s] w fun e w' => e = .returned (.int .i64 (if inSigns s.data.toList = true then 2 else -1)) ∧ Below w.heap.size w w' := by
  have q1 : (s.toList == [99, 111, 108]) = false := by rw [Lib.toList_data]; simpa using h1
  have q2 : (s.toList == [118, 97, 108]) = false := by rw [Lib.toList_data]; simpa using h2
  have q3 : (s.toList == [110, 111, 116]) = false := by rw [Lib.toList_data]; simpa using h3
  have q4 : (s.toList == [110, 101, 103]) = false := by rw [Lib.toList_data]; simpa using h4
  have q5 : (s.toList == [108, 101, 110]) = false := by rw [Lib.toList_data]; simpa using h5
  have q6 : (s.toList == [105, 102]) = false := by rw [Lib.toList_data]; simpa using h6
  clear h1 h2 h3 h4 h5 h6
  obtain ⟨Z, hZ⟩ : ∃ Z : Int, (if inSigns s.data.toList = true then 2 else -1) = Z := ⟨_, rfl⟩
  have HZ : Hid ((if inSigns s.data.toList = true then 2 else -1) = Z) := hZ
  rw [hZ]
  clear hZ
  go_enter Tryz.func49, Tryz.ntmps49
  go_wp2
  go_loopg [3, 4, 5] 5 (fun gg s3 _ _ wr => ∃ lv : Nat, lv ≤ 5 ∧ 5 - lv ≤ gg ∧ s3 = .int .i64 lv ∧ Aside (Below w.heap.size w wr) ∧ Hid ((upTo lv).any (· == s.data.toList) = false))
  case atStart => exact ⟨0, Nat.zero_le _, by omega, rfl, Below.refl _ _, rfl⟩
  case round =>
    obtain ⟨lv, hlv, hg, rfl, BW, HU⟩ := hrel
    by_cases hlt : lv < 5
    · have hltz : (lv : Int) < 5 := by omega
      obtain ⟨S, hS, hSl, cS⟩ := signs_any lv hlt wr
      have HSg : Hid (S.map (·.data.toList) = sgl lv) := hS
      clear hS
      go_wp2_with fail
      refine cS.mono ?_
      rintro e w1 ⟨rfl, hc, hgl, b1⟩
      have B1 := BW.out.trans (b1.mono BW.out.size)
      have HC : Hid (∀ j (hj : j < S.length), w1.cell? ⟨wr.heap.size, j, none⟩ = some (.string S[j])) := hc
      clear cS hc
      go_wp2
      go_loopg [5] S.length (fun gg s5 wx => ∃ kk : Nat, kk ≤ S.length ∧ S.length - kk ≤ gg ∧ s5 = .int .i64 kk ∧ wx = w1 ∧ Hid (((S.take kk).map (·.data.toList)).any (· == s.data.toList) = false))
      case atStart => exact ⟨0, Nat.zero_le _, by omega, rfl, rfl, rfl⟩
      case round =>
        obtain ⟨kk, hkk, hgk, rfl, rfl, HK⟩ := hrel
        by_cases hk : kk < S.length
        · have hkz : (kk : Int) < (S.length : Int) := by omega
          have k0 : (0 : Int) ≤ (kk : Int) := by omega
          have c0 := HC.out kk hk
          cases hb : S[kk].data.toList == s.data.toList
          · have hbt : (S[kk].toList == s.toList) = false := by rw [Lib.toList_data, Lib.toList_data]; exact hb
            have HK2 : Hid (((S.take (kk + 1)).map (·.data.toList)).any (· == s.data.toList) = false) := by
              show _ = _
              rw [List.take_succ_eq_append_getElem hk, List.map_append, List.any_append, HK.out]
              simp only [List.map_cons, List.map_nil, List.any_cons, List.any_nil, Bool.or_false, Bool.false_or]
              exact hb
            generalize S[kk] = y at c0 hbt
            clear hb HK
            go_wp2
            go_roundg (S.length - (kk + 1))
            case measure => omega
            case rel => exact ⟨kk + 1, by omega, by omega, by go_num, rfl, HK2⟩
          · have hbt : (S[kk].toList == s.toList) = true := by rw [Lib.toList_data, Lib.toList_data]; exact hb
            have hin : inSigns s.data.toList = true := by
              rw [← upTo_all, List.any_eq_true]
              refine ⟨S[kk].data.toList, ?_, hb⟩
              rw [upTo, List.mem_flatMap]
              exact ⟨lv, List.mem_range.2 hlt, by rw [← HSg.out]; exact List.mem_map.2 ⟨S[kk], List.getElem_mem hk, rfl⟩⟩
            have hz : 2 = Z := by have := HZ.out; rwa [if_pos hin] at this
            subst hz
            generalize S[kk] = y at c0 hbt
            clear hb HK hin
            go_wp2
            go_ret
            exact ⟨rfl, B1⟩
        · have hkz : ¬ (kk : Int) < (S.length : Int) := by omega
          have HU2 : Hid ((upTo (lv + 1)).any (· == s.data.toList) = false) := by
            show _ = _
            have h := HK.out
            rw [List.take_of_length_le (by omega), HSg.out] at h
            rw [upTo_succ, List.any_append, HU.out, h]; rfl
          clear HK
          go_wp2
          go_roundg (5 - (lv + 1))
          case measure => omega
          case rel => exact ⟨lv + 1, by omega, by omega, by go_num, B1, HU2⟩
    · have hltz : ¬ (lv : Int) < 5 := by omega
      have hlv5 : lv = 5 := by omega
      have hz : -1 = Z := by
        have h := HU.out
        rw [hlv5, upTo_all] at h
        have := HZ.out
        rwa [if_neg (by rw [h]; decide)] at this
      subst hz
      clear HU hlv5
      go_wp2
      go_ret
      exact ⟨rfl, BW.out⟩
set_option maxHeartbeats 1000000 in
theorem refArity_any (s : ByteArray) (w : World) :
    Calls Tryz.prog 49 #[.string s] w fun e w' => e = .returned (.int .i64 (arityT s.data.toList)) ∧ Below w.heap.size w w' := by
  by_cases h1 : s.data.toList = [99, 111, 108]
  · obtain rfl : s = ⟨#[99, 111, 108]⟩ := by have := congrArg List.toArray h1; cases s; simpa using this
    go_enter Tryz.func49, Tryz.ntmps49
    go_wp2
    go_ret
    exact ⟨rfl, Below.refl _ _⟩
  · by_cases h2 : s.data.toList = [118, 97, 108]
    · obtain rfl : s = ⟨#[118, 97, 108]⟩ := by have := congrArg List.toArray h2; cases s; simpa using this
      go_enter Tryz.func49, Tryz.ntmps49
      go_wp2
      go_ret
      exact ⟨rfl, Below.refl _ _⟩
    · by_cases h3 : s.data.toList = [110, 111, 116]
      · obtain rfl : s = ⟨#[110, 111, 116]⟩ := by have := congrArg List.toArray h3; cases s; simpa using this
        go_enter Tryz.func49, Tryz.ntmps49
        go_wp2
        go_ret
        exact ⟨rfl, Below.refl _ _⟩
      · by_cases h4 : s.data.toList = [110, 101, 103]
        · obtain rfl : s = ⟨#[110, 101, 103]⟩ := by have := congrArg List.toArray h4; cases s; simpa using this
          go_enter Tryz.func49, Tryz.ntmps49
          go_wp2
          go_ret
          exact ⟨rfl, Below.refl _ _⟩
        · by_cases h5 : s.data.toList = [108, 101, 110]
          · obtain rfl : s = ⟨#[108, 101, 110]⟩ := by have := congrArg List.toArray h5; cases s; simpa using this
            go_enter Tryz.func49, Tryz.ntmps49
            go_wp2
            go_ret
            exact ⟨rfl, Below.refl _ _⟩
          · by_cases h6 : s.data.toList = [105, 102]
            · obtain rfl : s = ⟨#[105, 102]⟩ := by have := congrArg List.toArray h6; cases s; simpa using this
              go_enter Tryz.func49, Tryz.ntmps49
              go_wp2
              go_ret
              exact ⟨rfl, Below.refl _ _⟩
            · have hA : arityT s.data.toList = if inSigns s.data.toList = true then 2 else -1 := by
                rw [arityT, if_neg (by simp [h1, h2]), if_neg (by simp [h3, h4, h5]), if_neg h6]
              rw [hA]
              exact arity_late s w h1 h2 h3 h4 h5 h6
end Go.Proofs.YtnpinbpjfngknaaGreatDoor
namespace Go.Proofs.YtnpinbpjfngknaaGreatDoor
open Go.RowKit
set_option linter.unusedVariables false

theorem sizes_take {l : List Ex} {k : Nat} (h : k < l.length) : Ex.sizes (l.take (k + 1)) = Ex.sizes (l.take k) + l[k].size := by
  induction l generalizing k with
  | nil => simp at h
  | cons x xs ih =>
    cases k with
    | zero => simp [Ex.sizes]
    | succ k =>
      rw [List.take_succ_cons, List.take_succ_cons, Ex.sizes, Ex.sizes, ih (by simpa using h)]
      simp only [List.getElem_cons_succ]
      omega
theorem sizes_take_le (l : List Ex) (k : Nat) : Ex.sizes (l.take k) ≤ Ex.sizes l := by
  induction l generalizing k with
  | nil => simp
  | cons x xs ih =>
    cases k with
    | zero => simp [Ex.sizes]
    | succ k =>
      rw [List.take_succ_cons, Ex.sizes, Ex.sizes]
      have := ih k
      omega
theorem size_arg {l : List Ex} {k : Nat} (h : k < l.length) : l[k].size ≤ Ex.sizes l := by
  have h1 := sizes_take h
  have h2 := sizes_take_le l (k + 1)
  omega
theorem deeps_take {l : List Ex} {k : Nat} (h : k < l.length) : Ex.deeps (l.take (k + 1)) = max (Ex.deeps (l.take k)) l[k].deep := by
  induction l generalizing k with
  | nil => simp at h
  | cons x xs ih =>
    cases k with
    | zero => simp [Ex.deeps]
    | succ k =>
      rw [List.take_succ_cons, List.take_succ_cons, Ex.deeps, Ex.deeps, ih (by simpa using h)]
      simp only [List.getElem_cons_succ]
      omega
theorem deep_le : ∀ x : Ex, x.deep ≤ x.size := by
  refine Ex.ind fun op nm vt vn vs pos args ih => ?_
  rw [Ex.deep, Ex.size]
  have key : ∀ l : List Ex, (∀ y ∈ l, y.deep ≤ y.size) → Ex.deeps l ≤ Ex.sizes l := by
    intro l
    induction l with
    | nil => intro _; simp [Ex.deeps, Ex.sizes]
    | cons x xs ih2 =>
      intro h
      rw [Ex.deeps, Ex.sizes]
      have h1 := h x List.mem_cons_self
      have h2 := ih2 (fun y hy => h y (List.mem_cons_of_mem _ hy))
      omega
  have := key args ih
  omega
/-- The cells of an expression that was handed in stay in its own block. -/
theorem box_kept {w wr : World} {cs : Array Value} (h : Below (w.heap.size + 1) (w.alloc (.cells cs 26)) wr) (i : Nat) : wr.cell? ⟨w.heap.size, i, none⟩ = cs[i]? := by
  rw [h.cell (p := ⟨w.heap.size, i, none⟩) (Nat.lt_succ_self _), World.cell?_alloc_at _ _ _ _ rfl]
theorem box_below {w wr : World} {cs : Array Value} (h : Below (w.heap.size + 1) (w.alloc (.cells cs 26)) wr) : Below w.heap.size w wr :=
  ((Below.refl _ _).alloc (Nat.le_refl _) _).trans (h.mono (Nat.le_succ _))
theorem box_size {w wr : World} {cs : Array Value} (h : Below (w.heap.size + 1) (w.alloc (.cells cs 26)) wr) : w.heap.size + 1 ≤ wr.heap.size := by
  have := h.size
  simpa using this
set_option maxHeartbeats 4000000 in
set_option maxRecDepth 20000 in
theorem refSize_any : ∀ (x : Ex) (lo : Nat → Prop) (v : Value) (w : World), ExIn w lo v x → x.size ≤ 1048576 →
    Calls Tryz.prog 14 #[v] w fun e w' => e = .returned (.int .i64 (x.size : Nat)) ∧ Below w.heap.size w w' := by
  refine Ex.ind fun op nm vt vn vs pos args ih lo v w h hsz => ?_
  rw [ExIn] at h
  obtain ⟨p, c, rfl, ⟨hm, _⟩, _, _, _, h5⟩ := h
  rw [Ex.size] at hsz ⊢
  obtain ⟨S, hS⟩ : ∃ S, 1 + Ex.sizes args = S := ⟨_, rfl⟩
  have HS : Hid (1 + Ex.sizes args = S) := hS
  rw [hS] at hsz ⊢
  have HI : Hid (∀ y ∈ args, ∀ (lo : Nat → Prop) (v : Value) (w : World), ExIn w lo v y → y.size ≤ 1048576 → Calls Tryz.prog 14 #[v] w fun e w' => e = .returned (.int .i64 (y.size : Nat)) ∧ Below w.heap.size w w') := ih
  unfold maxLen at hm
  clear ih hS
  go_enter Tryz.func14, Tryz.ntmps14
  go_wp2
  go_loopg [3, 4, 5] args.length (fun gg s3 s4 _ wr => ∃ (kk N : Nat), kk ≤ args.length ∧ args.length - kk ≤ gg ∧ s4 = .int .i64 kk ∧ s3 = .int .i64 N ∧ N ≤ S ∧ Hid (N = 1 + Ex.sizes (args.take kk)) ∧ Aside (Below (w.heap.size + 1) (w.alloc (.cells #[.string op, .string nm, .int .i64 vt, .int .i64 vn, .string vs, .slice p args.length c, .int .i64 pos] 26)) wr))
  case atStart => exact ⟨0, 1, Nat.zero_le _, by omega, rfl, rfl, by have := HS.out; omega, rfl, (show Aside _ from Below.refl _ _)⟩
  case round =>
    obtain ⟨kk, N, hkk, hg, rfl, rfl, hN, HN, BW⟩ := hrel
    have q5 := box_kept BW.out 5
    simp at q5
    have ql := box_size BW.out
    by_cases hlt : kk < args.length
    · have hltz : (kk : Int) < (args.length : Int) := by omega
      have k0 : (0 : Int) ≤ (kk : Int) := by omega
      rcases h5 with h0 | ⟨b, off, rfl, hbl, hlo, h5⟩
      · exact absurd h0 (by omega)
      obtain ⟨v0, v1, v2, v3, v4, v5, v6, e0, e1, e2, e3, e4, e5, e6, hx⟩ := exsIn_at w lo b args off h5 kk hlt
      have hb := box_below BW.out
      have key : ∀ o : Nat, wr.cell? ⟨b, o, none⟩ = w.cell? ⟨b, o, none⟩ := fun o => hb.cell (p := ⟨b, o, none⟩) hbl
      rw [← key] at e0 e1 e2 e3 e4 e5 e6
      have hblr : b < wr.heap.size := by omega
      have hsa : args[kk].size ≤ 1048576 := by have := size_arg hlt; have := HS.out; omega
      have cI := HI.out _ (List.getElem_mem hlt) lo _ wr (hx.on hb) hsa
      have HN2 : Hid (N + args[kk].size = 1 + Ex.sizes (args.take (kk + 1))) := by
        show _ = _
        rw [sizes_take hlt, HN.out]; omega
      have hN2 : N + args[kk].size ≤ S := by
        have h1 := HN2.out
        have h2 := sizes_take_le args (kk + 1)
        have h3 := HS.out
        omega
      generalize args[kk].size = m at cI HN2 hN2 hsa
      clear key hx h5 HN hb
      go_wp2_with fail
      refine cI.mono ?_
      rintro e w1 ⟨rfl, b1⟩
      have B1 := BW.out.trans (b1.mono ql)
      go_wp2
      go_roundg (args.length - (kk + 1))
      case measure => omega
      case rel => exact ⟨kk + 1, N + m, by omega, by omega, by go_num, by go_num, hN2, HN2, B1⟩
    · have hltz : ¬ (kk : Int) < (args.length : Int) := by omega
      have HF : N = S := by rw [HN.out, List.take_of_length_le (by omega)]; exact HS.out
      subst HF
      clear HN
      go_wp2
      go_ret
      exact ⟨rfl, box_below BW.out⟩
theorem deeps_take_le (l : List Ex) (k : Nat) : Ex.deeps (l.take k) ≤ Ex.deeps l := by
  induction l generalizing k with
  | nil => simp
  | cons x xs ih =>
    cases k with
    | zero => simp [Ex.deeps]
    | succ k =>
      rw [List.take_succ_cons, Ex.deeps, Ex.deeps]
      have := ih k
      omega
set_option maxHeartbeats 4000000 in
set_option maxRecDepth 20000 in
theorem refDeep_any : ∀ (x : Ex) (lo : Nat → Prop) (v : Value) (w : World), ExIn w lo v x → x.size ≤ 1048576 →
    Calls Tryz.prog 40 #[v] w fun e w' => e = .returned (.int .i64 (x.deep : Nat)) ∧ Below w.heap.size w w' := by
  refine Ex.ind fun op nm vt vn vs pos args ih lo v w h hsz => ?_
  rw [ExIn] at h
  obtain ⟨p, c, rfl, ⟨hm, _⟩, _, _, _, h5⟩ := h
  have hdz := deep_le (.node op nm vt vn vs pos args)
  rw [Ex.size] at hsz hdz
  rw [Ex.deep] at hdz ⊢
  obtain ⟨S, hS⟩ : ∃ S, Ex.deeps args + 1 = S := ⟨_, rfl⟩
  have HS : Hid (Ex.deeps args + 1 = S) := hS
  have HZ : Hid (1 + Ex.sizes args ≤ 1048576) := hsz
  rw [hS] at hdz ⊢
  have hsz : S ≤ 1048576 := by omega
  clear hdz
  have HI : Hid (∀ y ∈ args, ∀ (lo : Nat → Prop) (v : Value) (w : World), ExIn w lo v y → y.size ≤ 1048576 → Calls Tryz.prog 40 #[v] w fun e w' => e = .returned (.int .i64 (y.deep : Nat)) ∧ Below w.heap.size w w') := ih
  unfold maxLen at hm
  clear ih hS
  go_enter Tryz.func40, Tryz.ntmps40
  go_wp2
  go_loopg [3, 4, 5] args.length (fun gg s3 s4 _ wr => ∃ (kk N : Nat), kk ≤ args.length ∧ args.length - kk ≤ gg ∧ s4 = .int .i64 kk ∧ s3 = .int .i64 N ∧ N < S ∧ Hid (N = Ex.deeps (args.take kk)) ∧ Aside (Below (w.heap.size + 1) (w.alloc (.cells #[.string op, .string nm, .int .i64 vt, .int .i64 vn, .string vs, .slice p args.length c, .int .i64 pos] 26)) wr))
  case atStart => exact ⟨0, 0, Nat.zero_le _, by omega, rfl, rfl, by have := HS.out; omega, rfl, (show Aside _ from Below.refl _ _)⟩
  case round =>
    obtain ⟨kk, N, hkk, hg, rfl, rfl, hN, HN, BW⟩ := hrel
    have q5 := box_kept BW.out 5
    simp at q5
    have ql := box_size BW.out
    by_cases hlt : kk < args.length
    · have hltz : (kk : Int) < (args.length : Int) := by omega
      have k0 : (0 : Int) ≤ (kk : Int) := by omega
      rcases h5 with h0 | ⟨b, off, rfl, hbl, hlo, h5⟩
      · exact absurd h0 (by omega)
      obtain ⟨v0, v1, v2, v3, v4, v5, v6, e0, e1, e2, e3, e4, e5, e6, hx⟩ := exsIn_at w lo b args off h5 kk hlt
      have hb := box_below BW.out
      have key : ∀ o : Nat, wr.cell? ⟨b, o, none⟩ = w.cell? ⟨b, o, none⟩ := fun o => hb.cell (p := ⟨b, o, none⟩) hbl
      rw [← key] at e0 e1 e2 e3 e4 e5 e6
      have hblr : b < wr.heap.size := by omega
      have hsa : args[kk].size ≤ 1048576 := by have := size_arg hlt; have := HZ.out; omega
      have cI := HI.out _ (List.getElem_mem hlt) lo _ wr (hx.on hb) hsa
      have HN2 : Hid (max N args[kk].deep = Ex.deeps (args.take (kk + 1))) := by
        show _ = _
        rw [deeps_take hlt, HN.out]
      have hN2 : max N args[kk].deep < S := by
        have h1 := HN2.out
        have h2 := deeps_take_le args (kk + 1)
        have h3 := HS.out
        omega
      generalize args[kk].deep = m at cI HN2 hN2
      clear key hx h5 HN hb hsa
      go_wp2_with fail
      refine cI.mono ?_
      rintro e w1 ⟨rfl, b1⟩
      have B1 := BW.out.trans (b1.mono ql)
      by_cases hgt : N < m
      · have hgz : (N : Int) < (m : Int) := by omega
        have HN3 : Hid (m = Ex.deeps (args.take (kk + 1))) := by
          show _ = _
          rw [← HN2.out]; omega
        go_wp2
        go_roundg (args.length - (kk + 1))
        case measure => omega
        case rel => exact ⟨kk + 1, m, by omega, by omega, by go_num, rfl, by omega, HN3, B1⟩
      · have hgz : ¬ (N : Int) < (m : Int) := by omega
        have HN3 : Hid (N = Ex.deeps (args.take (kk + 1))) := by
          show _ = _
          rw [← HN2.out]; omega
        go_wp2
        go_roundg (args.length - (kk + 1))
        case measure => omega
        case rel => exact ⟨kk + 1, N, by omega, by omega, by go_num, rfl, by omega, HN3, B1⟩
    · have hltz : ¬ (kk : Int) < (args.length : Int) := by omega
      have HF : N + 1 = S := by rw [HN.out, List.take_of_length_le (by omega)]; exact HS.out
      subst HF
      clear HN
      go_wp2
      go_ret
      exact ⟨by go_num, box_below BW.out⟩
/-- Are there no more than may be? -/
def Ex.small (x : Ex) : Bool := decide (x.size ≤ 200) && decide (x.deep ≤ 30)
set_option maxHeartbeats 1000000 in
theorem refSmall_any (x : Ex) (lo : Nat → Prop) (v : Value) (w : World) (h : ExIn w lo v x) (hsz : x.size ≤ 1048576) :
    Calls Tryz.prog 18 #[v] w fun e w' => e = .returned (.bool x.small) ∧ Below w.heap.size w w' := by
  have cS := refSize_any x lo v
  have cD := fun (W : World) (hh : ExIn W lo v x) => refDeep_any x lo v W hh hsz
  have hd := deep_le x
  have HX : Hid (x.small = (decide (x.size ≤ 200) && decide (x.deep ≤ 30))) := rfl
  obtain ⟨p, c, op, nm, vt, vn, vs, pos, args, hv⟩ : ∃ p c op nm vt vn vs pos args, x = .node op nm vt vn vs pos args ∧ v = .agg #[.string op, .string nm, .int .i64 vt, .int .i64 vn, .string vs, .slice p args.length c, .int .i64 pos] := by
    cases x with
    | node op nm vt vn vs pos args =>
      have h' := h
      rw [ExIn] at h'
      obtain ⟨p, c, hv, _⟩ := h'
      exact ⟨p, c, op, nm, vt, vn, vs, pos, args, rfl, hv⟩
  have B0 := (Below.refl w.heap.size w).alloc (Nat.le_refl _) (.cells #[.string op, .string nm, .int .i64 vt, .int .i64 vn, .string vs, .slice p args.length c, .int .i64 pos] 26)
  have h1 := h.on B0
  obtain ⟨_, rfl⟩ := hv
  generalize x.size = n at cS hsz HX hd
  generalize x.deep = d at cD hd HX
  obtain ⟨R, hR⟩ : ∃ R, x.small = R := ⟨_, rfl⟩
  rw [hR] at HX ⊢
  clear hR
  go_enter Tryz.func18, Tryz.ntmps18
  go_wp2_with fail
  refine (cS _ h1 hsz).mono ?_
  rintro e w1 ⟨rfl, b1⟩
  have B1 := B0.trans (b1.mono B0.size)
  have h2 := h1.on b1
  have q := fun i => box_kept (w := w) (wr := w1) (cs := #[.string op, .string nm, .int .i64 vt, .int .i64 vn, .string vs, .slice p args.length c, .int .i64 pos]) (b1.mono (by simp)) i
  have q0 := q 0
  have q1 := q 1
  have q2 := q 2
  have q3 := q 3
  have q4 := q 4
  have q5 := q 5
  have q6 := q 6
  simp at q0 q1 q2 q3 q4 q5 q6
  have ql : w.heap.size < w1.heap.size := by have := b1.size; simp at this; omega
  clear q cS
  go_wp2_with fail
  refine (cD _ h2).mono ?_
  rintro e w2 ⟨rfl, b2⟩
  have B2 := B1.trans (b2.mono B1.size)
  clear cD q0 q1 q2 q3 q4 q5 q6
  by_cases hn : n ≤ 200
  · have hnz : (n : Int) ≤ 200 := by omega
    by_cases hd : d ≤ 30
    · have hdz : (d : Int) ≤ 30 := by omega
      have HX2 : R = true := by rw [HX.out]; simp [hn, hd]
      subst HX2
      clear HX
      go_wp2
      go_ret
      exact ⟨rfl, B2⟩
    · have hdz : ¬ (d : Int) ≤ 30 := by omega
      have HX2 : R = false := by rw [HX.out]; simp [hd]
      subst HX2
      clear HX
      go_wp2
      go_ret
      exact ⟨congrArg (fun b => Ending.returned (.bool b)) (decide_eq_false (by omega)), B2⟩
  · have hnz : ¬ (n : Int) ≤ 200 := by omega
    have HX2 : R = false := by rw [HX.out]; simp [hn]
    subst HX2
    clear HX
    go_wp2
    go_ret
    exact ⟨rfl, B2⟩
end Go.Proofs.YtnpinbpjfngknaaGreatDoor
