/-
  TreeSg, TreeSz, RefNd, TreeNm, Ref1, in one text.
-/
import Derived.Test.YtkoejkpjkcejcaaDoorGrAc
import Derived.WalkSmall
import Derived.Test.YtkoejkpjkcejcaaDoorGrAj
import Derived.Test.YtkoejkpjkcejcaaDoorGrAa
import Derived.Lib.ItoaLen
namespace Go.Proofs.YtkoejkpjkcejcaaDoor
open Go.RowKit
set_option linter.unusedVariables false

theorem signs_0 (w : World) : Calls Tryd.prog 39 #[.int .i64 0] w fun e w' => e = .returned (.slice (some ⟨w.heap.size, 0, none⟩) 1 1) ∧ w' = w.alloc (.cells #[.string ⟨#[111, 114]⟩] 9) := by
  go_enter Tryd.func39, Tryd.ntmps39
  go_wp2
  go_ret
  exact ⟨rfl, rfl⟩
theorem signs_1 (w : World) : Calls Tryd.prog 39 #[.int .i64 1] w fun e w' => e = .returned (.slice (some ⟨w.heap.size, 0, none⟩) 1 1) ∧ w' = w.alloc (.cells #[.string ⟨#[97, 110, 100]⟩] 9) := by
  go_enter Tryd.func39, Tryd.ntmps39
  go_wp2
  go_ret
  exact ⟨rfl, rfl⟩
theorem signs_2 (w : World) : Calls Tryd.prog 39 #[.int .i64 2] w fun e w' => e = .returned (.slice (some ⟨w.heap.size, 0, none⟩) 6 6) ∧ w' = w.alloc (.cells #[.string ⟨#[61]⟩, .string ⟨#[60, 62]⟩, .string ⟨#[60]⟩, .string ⟨#[60, 61]⟩, .string ⟨#[62]⟩, .string ⟨#[62, 61]⟩] 9) := by
  go_enter Tryd.func39, Tryd.ntmps39
  go_wp2
  go_ret
  exact ⟨rfl, rfl⟩
theorem signs_3 (w : World) : Calls Tryd.prog 39 #[.int .i64 3] w fun e w' => e = .returned (.slice (some ⟨w.heap.size, 0, none⟩) 2 2) ∧ w' = w.alloc (.cells #[.string ⟨#[43]⟩, .string ⟨#[45]⟩] 9) := by
  go_enter Tryd.func39, Tryd.ntmps39
  go_wp2
  go_ret
  exact ⟨rfl, rfl⟩
theorem signs_4 (w : World) : Calls Tryd.prog 39 #[.int .i64 4] w fun e w' => e = .returned (.slice (some ⟨w.heap.size, 0, none⟩) 3 3) ∧ w' = w.alloc (.cells #[.string ⟨#[42]⟩, .string ⟨#[47]⟩, .string ⟨#[37]⟩] 9) := by
  go_enter Tryd.func39, Tryd.ntmps39
  go_wp2
  go_ret
  exact ⟨rfl, rfl⟩
/-- Does an operation stand among the signs of the levels? -/
def inSigns (l : List UInt8) : Bool := (sgl 0 ++ sgl 1 ++ sgl 2 ++ sgl 3 ++ sgl 4).any (· == l)
/-- How many parts an operation has; below 0: it is none. -/
def arityT (l : List UInt8) : Int :=
  if l = [99, 111, 108] ∨ l = [118, 97, 108] then 0
  else if l = [110, 111, 116] ∨ l = [110, 101, 103] ∨ l = [108, 101, 110] then 1
  else if l = [105, 102] then 3
  else if inSigns l = true then 2 else -1
/-- The same for every level, the texts in memory. -/
theorem signs_any (lv : Nat) (h : lv < 5) (w : World) : ∃ S : List ByteArray, S.map (·.data.toList) = sgl lv ∧ S.length ≤ 6 ∧ Calls Tryd.prog 39 #[.int .i64 (lv : Int)] w fun e w' => e = .returned (.slice (some ⟨w.heap.size, 0, none⟩) S.length S.length) ∧ (∀ j (hj : j < S.length), w'.cell? ⟨w.heap.size, j, none⟩ = some (.string S[j])) ∧ w.heap.size < w'.heap.size ∧ Below w.heap.size w w' := by
  have h : lv = 0 ∨ lv = 1 ∨ lv = 2 ∨ lv = 3 ∨ lv = 4 := by omega
  have fin : ∀ (S : List ByteArray) (F : Nat), (Calls Tryd.prog 39 #[.int .i64 (F : Int)] w fun e w' => e = .returned (.slice (some ⟨w.heap.size, 0, none⟩) S.length S.length) ∧ w' = w.alloc (.cells (S.map Value.string).toArray 9)) → Calls Tryd.prog 39 #[.int .i64 (F : Int)] w fun e w' => e = .returned (.slice (some ⟨w.heap.size, 0, none⟩) S.length S.length) ∧ (∀ j (hj : j < S.length), w'.cell? ⟨w.heap.size, j, none⟩ = some (.string S[j])) ∧ w.heap.size < w'.heap.size ∧ Below w.heap.size w w' := fun S F c => c.mono fun e w' hh => by
    obtain ⟨he, rfl⟩ := hh
    refine ⟨he, fun j hj => ?_, by simp, (Below.refl _ _).alloc (Nat.le_refl _) _⟩
    rw [World.cell?_alloc_at _ _ _ _ rfl]
    simp [hj]
  rcases h with rfl | rfl | rfl | rfl | rfl
  · exact ⟨[⟨#[111, 114]⟩], rfl, by decide, fin [⟨#[111, 114]⟩] 0 (signs_0 w)⟩
  · exact ⟨[⟨#[97, 110, 100]⟩], rfl, by decide, fin [⟨#[97, 110, 100]⟩] 1 (signs_1 w)⟩
  · exact ⟨[⟨#[61]⟩, ⟨#[60, 62]⟩, ⟨#[60]⟩, ⟨#[60, 61]⟩, ⟨#[62]⟩, ⟨#[62, 61]⟩], rfl, by decide, fin [⟨#[61]⟩, ⟨#[60, 62]⟩, ⟨#[60]⟩, ⟨#[60, 61]⟩, ⟨#[62]⟩, ⟨#[62, 61]⟩] 2 (signs_2 w)⟩
  · exact ⟨[⟨#[43]⟩, ⟨#[45]⟩], rfl, by decide, fin [⟨#[43]⟩, ⟨#[45]⟩] 3 (signs_3 w)⟩
  · exact ⟨[⟨#[42]⟩, ⟨#[47]⟩, ⟨#[37]⟩], rfl, by decide, fin [⟨#[42]⟩, ⟨#[47]⟩, ⟨#[37]⟩] 4 (signs_4 w)⟩
/-- Up to a level. -/
def upTo (lv : Nat) : List (List UInt8) := (List.range lv).flatMap sgl
theorem upTo_succ (lv : Nat) : upTo (lv + 1) = upTo lv ++ sgl lv := by simp [upTo, List.range_succ]
theorem upTo_all (l : List UInt8) : (upTo 5).any (· == l) = inSigns l := by
  rw [inSigns]
  rfl
set_option maxHeartbeats 8000000 in
set_option maxRecDepth 20000 in
theorem arity_late (s : ByteArray) (w : World) (h1 : s.data.toList ≠ [99, 111, 108]) (h2 : s.data.toList ≠ [118, 97, 108]) (h3 : s.data.toList ≠ [110, 111, 116]) (h4 : s.data.toList ≠ [110, 101, 103]) (h5 : s.data.toList ≠ [108, 101, 110]) (h6 : s.data.toList ≠ [105, 102]) :
    Calls Tryd.prog 18 #[.string s] w fun e w' => e = .returned (.int .i64 (if inSigns s.data.toList = true then 2 else -1)) ∧ Below w.heap.size w w' := by
  have q1 : (s.toList == [99, 111, 108]) = false := by rw [Lib.toList_data]; simpa using h1
  have q2 : (s.toList == [118, 97, 108]) = false := by rw [Lib.toList_data]; simpa using h2
  have q3 : (s.toList == [110, 111, 116]) = false := by rw [Lib.toList_data]; simpa using h3
  have q4 : (s.toList == [110, 101, 103]) = false := by rw [Lib.toList_data]; simpa using h4
  have q5 : (s.toList == [108, 101, 110]) = false := by rw [Lib.toList_data]; simpa using h5
  have q6 : (s.toList == [105, 102]) = false := by rw [Lib.toList_data]; simpa using h6
  clear h1 h2 h3 h4 h5 h6
  obtain ⟨Z, hZ⟩ : ∃ Z : Int, (if inSigns s.data.toList = true then 2 else -1) = Z := ⟨_, rfl⟩
  have HZ : Hid ((if inSigns s.data.toList = true then 2 else -1) = Z) := hZ
  rw [hZ]
  clear hZ
  go_enter Tryd.func18, Tryd.ntmps18
  go_wp2
  go_loopg [3, 4, 5] 5 (fun gg s3 _ _ wr => ∃ lv : Nat, lv ≤ 5 ∧ 5 - lv ≤ gg ∧ s3 = .int .i64 lv ∧ Aside (Below w.heap.size w wr) ∧ Hid ((upTo lv).any (· == s.data.toList) = false))
  case atStart => exact ⟨0, Nat.zero_le _, by omega, rfl, Below.refl _ _, rfl⟩
  case round =>
    obtain ⟨lv, hlv, hg, rfl, BW, HU⟩ := hrel
    by_cases hlt : lv < 5
    · have hltz : (lv : Int) < 5 := by omega
      obtain ⟨S, hS, hSl, cS⟩ := signs_any lv hlt wr
      have HSg : Hid (S.map (·.data.toList) = sgl lv) := hS
      clear hS
      go_wp2_with fail
      refine cS.mono ?_
      rintro e w1 ⟨rfl, hc, hgl, b1⟩
      have B1 := BW.out.trans (b1.mono BW.out.size)
      have HC : Hid (∀ j (hj : j < S.length), w1.cell? ⟨wr.heap.size, j, none⟩ = some (.string S[j])) := hc
      clear cS hc
      go_wp2
      go_loopg [5] S.length (fun gg s5 wx => ∃ kk : Nat, kk ≤ S.length ∧ S.length - kk ≤ gg ∧ s5 = .int .i64 kk ∧ wx = w1 ∧ Hid (((S.take kk).map (·.data.toList)).any (· == s.data.toList) = false))
      case atStart => exact ⟨0, Nat.zero_le _, by omega, rfl, rfl, rfl⟩
      case round =>
        obtain ⟨kk, hkk, hgk, rfl, rfl, HK⟩ := hrel
        by_cases hk : kk < S.length
        · have hkz : (kk : Int) < (S.length : Int) := by omega
          have k0 : (0 : Int) ≤ (kk : Int) := by omega
          have c0 := HC.out kk hk
          cases hb : S[kk].data.toList == s.data.toList
          · have hbt : (S[kk].toList == s.toList) = false := by rw [Lib.toList_data, Lib.toList_data]; exact hb
            have HK2 : Hid (((S.take (kk + 1)).map (·.data.toList)).any (· == s.data.toList) = false) := by
              show _ = _
              rw [List.take_succ_eq_append_getElem hk, List.map_append, List.any_append, HK.out]
              simp only [List.map_cons, List.map_nil, List.any_cons, List.any_nil, Bool.or_false, Bool.false_or]
              exact hb
            generalize S[kk] = y at c0 hbt
            clear hb HK
            go_wp2
            go_roundg (S.length - (kk + 1))
            case measure => omega
            case rel => exact ⟨kk + 1, by omega, by omega, by go_num, rfl, HK2⟩
          · have hbt : (S[kk].toList == s.toList) = true := by rw [Lib.toList_data, Lib.toList_data]; exact hb
            have hin : inSigns s.data.toList = true := by
              rw [← upTo_all, List.any_eq_true]
              refine ⟨S[kk].data.toList, ?_, hb⟩
              rw [upTo, List.mem_flatMap]
              exact ⟨lv, List.mem_range.2 hlt, by rw [← HSg.out]; exact List.mem_map.2 ⟨S[kk], List.getElem_mem hk, rfl⟩⟩
            have hz : 2 = Z := by have := HZ.out; rwa [if_pos hin] at this
            subst hz
            generalize S[kk] = y at c0 hbt
            clear hb HK hin
            go_wp2
            go_ret
            exact ⟨rfl, B1⟩
        · have hkz : ¬ (kk : Int) < (S.length : Int) := by omega
          have HU2 : Hid ((upTo (lv + 1)).any (· == s.data.toList) = false) := by
            show _ = _
            have h := HK.out
            rw [List.take_of_length_le (by omega), HSg.out] at h
            rw [upTo_succ, List.any_append, HU.out, h]; rfl
          clear HK
          go_wp2
          go_roundg (5 - (lv + 1))
          case measure => omega
          case rel => exact ⟨lv + 1, by omega, by omega, by go_num, B1, HU2⟩
    · have hltz : ¬ (lv : Int) < 5 := by omega
      have hlv5 : lv = 5 := by omega
      have hz : -1 = Z := by
        have h := HU.out
        rw [hlv5, upTo_all] at h
        have := HZ.out
        rwa [if_neg (by rw [h]; decide)] at this
      subst hz
      clear HU hlv5
      go_wp2
      go_ret
      exact ⟨rfl, BW.out⟩
set_option maxHeartbeats 1000000 in
theorem refArity_any (s : ByteArray) (w : World) :
    Calls Tryd.prog 18 #[.string s] w fun e w' => e = .returned (.int .i64 (arityT s.data.toList)) ∧ Below w.heap.size w w' := by
  by_cases h1 : s.data.toList = [99, 111, 108]
  · obtain rfl : s = ⟨#[99, 111, 108]⟩ := by have := congrArg List.toArray h1; cases s; simpa using this
    go_enter Tryd.func18, Tryd.ntmps18
    go_wp2
    go_ret
    exact ⟨rfl, Below.refl _ _⟩
  · by_cases h2 : s.data.toList = [118, 97, 108]
    · obtain rfl : s = ⟨#[118, 97, 108]⟩ := by have := congrArg List.toArray h2; cases s; simpa using this
      go_enter Tryd.func18, Tryd.ntmps18
      go_wp2
      go_ret
      exact ⟨rfl, Below.refl _ _⟩
    · by_cases h3 : s.data.toList = [110, 111, 116]
      · obtain rfl : s = ⟨#[110, 111, 116]⟩ := by have := congrArg List.toArray h3; cases s; simpa using this
        go_enter Tryd.func18, Tryd.ntmps18
        go_wp2
        go_ret
        exact ⟨rfl, Below.refl _ _⟩
      · by_cases h4 : s.data.toList = [110, 101, 103]
        · obtain rfl : s = ⟨#[110, 101, 103]⟩ := by have := congrArg List.toArray h4; cases s; simpa using this
          go_enter Tryd.func18, Tryd.ntmps18
          go_wp2
          go_ret
          exact ⟨rfl, Below.refl _ _⟩
        · by_cases h5 : s.data.toList = [108, 101, 110]
          · obtain rfl : s = ⟨#[108, 101, 110]⟩ := by have := congrArg List.toArray h5; cases s; simpa using this
            go_enter Tryd.func18, Tryd.ntmps18
            go_wp2
            go_ret
            exact ⟨rfl, Below.refl _ _⟩
          · by_cases h6 : s.data.toList = [105, 102]
            · obtain rfl : s = ⟨#[105, 102]⟩ := by have := congrArg List.toArray h6; cases s; simpa using this
              go_enter Tryd.func18, Tryd.ntmps18
              go_wp2
              go_ret
              exact ⟨rfl, Below.refl _ _⟩
            · have hA : arityT s.data.toList = if inSigns s.data.toList = true then 2 else -1 := by
                rw [arityT, if_neg (by simp [h1, h2]), if_neg (by simp [h3, h4, h5]), if_neg h6]
              rw [hA]
              exact arity_late s w h1 h2 h3 h4 h5 h6
end Go.Proofs.YtkoejkpjkcejcaaDoor
namespace Go.Proofs.YtkoejkpjkcejcaaDoor
open Go.RowKit
set_option linter.unusedVariables false

theorem sizes_take {l : List Ex} {k : Nat} (h : k < l.length) : Ex.sizes (l.take (k + 1)) = Ex.sizes (l.take k) + l[k].size := by
  induction l generalizing k with
  | nil => simp at h
  | cons x xs ih =>
    cases k with
    | zero => simp [Ex.sizes]
    | succ k =>
      rw [List.take_succ_cons, List.take_succ_cons, Ex.sizes, Ex.sizes, ih (by simpa using h)]
      simp only [List.getElem_cons_succ]
      omega
theorem sizes_take_le (l : List Ex) (k : Nat) : Ex.sizes (l.take k) ≤ Ex.sizes l := by
  induction l generalizing k with
  | nil => simp
  | cons x xs ih =>
    cases k with
    | zero => simp [Ex.sizes]
    | succ k =>
      rw [List.take_succ_cons, Ex.sizes, Ex.sizes]
      have := ih k
      omega
theorem size_arg {l : List Ex} {k : Nat} (h : k < l.length) : l[k].size ≤ Ex.sizes l := by
  have h1 := sizes_take h
  have h2 := sizes_take_le l (k + 1)
  omega
theorem deeps_take {l : List Ex} {k : Nat} (h : k < l.length) : Ex.deeps (l.take (k + 1)) = max (Ex.deeps (l.take k)) l[k].deep := by
  induction l generalizing k with
  | nil => simp at h
  | cons x xs ih =>
    cases k with
    | zero => simp [Ex.deeps]
    | succ k =>
      rw [List.take_succ_cons, List.take_succ_cons, Ex.deeps, Ex.deeps, ih (by simpa using h)]
      simp only [List.getElem_cons_succ]
      omega
theorem deep_le : ∀ x : Ex, x.deep ≤ x.size := by
  refine Ex.ind fun op nm vt vn vs pos args ih => ?_
  rw [Ex.deep, Ex.size]
  have key : ∀ l : List Ex, (∀ y ∈ l, y.deep ≤ y.size) → Ex.deeps l ≤ Ex.sizes l := by
    intro l
    induction l with
    | nil => intro _; simp [Ex.deeps, Ex.sizes]
    | cons x xs ih2 =>
      intro h
      rw [Ex.deeps, Ex.sizes]
      have h1 := h x List.mem_cons_self
      have h2 := ih2 (fun y hy => h y (List.mem_cons_of_mem _ hy))
      omega
  have := key args ih
  omega
/-- The cells of an expression that was handed in stay in its own block. -/
theorem box_kept {w wr : World} {cs : Array Value} (h : Below (w.heap.size + 1) (w.alloc (.cells cs 27)) wr) (i : Nat) : wr.cell? ⟨w.heap.size, i, none⟩ = cs[i]? := by
  rw [h.cell (p := ⟨w.heap.size, i, none⟩) (Nat.lt_succ_self _), World.cell?_alloc_at _ _ _ _ rfl]
theorem box_below {w wr : World} {cs : Array Value} (h : Below (w.heap.size + 1) (w.alloc (.cells cs 27)) wr) : Below w.heap.size w wr :=
  ((Below.refl _ _).alloc (Nat.le_refl _) _).trans (h.mono (Nat.le_succ _))
theorem box_size {w wr : World} {cs : Array Value} (h : Below (w.heap.size + 1) (w.alloc (.cells cs 27)) wr) : w.heap.size + 1 ≤ wr.heap.size := by
  have := h.size
  simpa using this
set_option maxHeartbeats 4000000 in
set_option maxRecDepth 20000 in
theorem refSize_any : ∀ (x : Ex) (lo : Nat → Prop) (v : Value) (w : World), ExIn w lo v x → x.size ≤ 1048576 →
    Calls Tryd.prog 62 #[v] w fun e w' => e = .returned (.int .i64 (x.size : Nat)) ∧ Below w.heap.size w w' := by
  refine Ex.ind fun op nm vt vn vs pos args ih lo v w h hsz => ?_
  rw [ExIn] at h
  obtain ⟨p, c, rfl, ⟨hm, _⟩, _, _, _, h5⟩ := h
  rw [Ex.size] at hsz ⊢
  obtain ⟨S, hS⟩ : ∃ S, 1 + Ex.sizes args = S := ⟨_, rfl⟩
  have HS : Hid (1 + Ex.sizes args = S) := hS
  rw [hS] at hsz ⊢
  have HI : Hid (∀ y ∈ args, ∀ (lo : Nat → Prop) (v : Value) (w : World), ExIn w lo v y → y.size ≤ 1048576 → Calls Tryd.prog 62 #[v] w fun e w' => e = .returned (.int .i64 (y.size : Nat)) ∧ Below w.heap.size w w') := ih
  unfold maxLen at hm
  clear ih hS
  go_enter Tryd.func62, Tryd.ntmps62
  go_wp2
  go_loopg [3, 4, 5] args.length (fun gg s3 s4 _ wr => ∃ (kk N : Nat), kk ≤ args.length ∧ args.length - kk ≤ gg ∧ s4 = .int .i64 kk ∧ s3 = .int .i64 N ∧ N ≤ S ∧ Hid (N = 1 + Ex.sizes (args.take kk)) ∧ Aside (Below (w.heap.size + 1) (w.alloc (.cells #[.string op, .string nm, .int .i64 vt, .int .i64 vn, .string vs, .slice p args.length c, .int .i64 pos] 27)) wr))
  case atStart => exact ⟨0, 1, Nat.zero_le _, by omega, rfl, rfl, by have := HS.out; omega, rfl, (show Aside _ from Below.refl _ _)⟩
  case round =>
    obtain ⟨kk, N, hkk, hg, rfl, rfl, hN, HN, BW⟩ := hrel
    have q5 := box_kept BW.out 5
    simp at q5
    have ql := box_size BW.out
    by_cases hlt : kk < args.length
    · have hltz : (kk : Int) < (args.length : Int) := by omega
      have k0 : (0 : Int) ≤ (kk : Int) := by omega
      rcases h5 with h0 | ⟨b, off, rfl, hbl, hlo, h5⟩
      · exact absurd h0 (by omega)
      obtain ⟨v0, v1, v2, v3, v4, v5, v6, e0, e1, e2, e3, e4, e5, e6, hx⟩ := exsIn_at w lo b args off h5 kk hlt
      have hb := box_below BW.out
      have key : ∀ o : Nat, wr.cell? ⟨b, o, none⟩ = w.cell? ⟨b, o, none⟩ := fun o => hb.cell (p := ⟨b, o, none⟩) hbl
      rw [← key] at e0 e1 e2 e3 e4 e5 e6
      have hblr : b < wr.heap.size := by omega
      have hsa : args[kk].size ≤ 1048576 := by have := size_arg hlt; have := HS.out; omega
      have cI := HI.out _ (List.getElem_mem hlt) lo _ wr (hx.on hb) hsa
      have HN2 : Hid (N + args[kk].size = 1 + Ex.sizes (args.take (kk + 1))) := by
        show _ = _
        rw [sizes_take hlt, HN.out]; omega
      have hN2 : N + args[kk].size ≤ S := by
        have h1 := HN2.out
        have h2 := sizes_take_le args (kk + 1)
        have h3 := HS.out
        omega
      generalize args[kk].size = m at cI HN2 hN2 hsa
      clear key hx h5 HN hb
      go_wp2_with fail
      refine cI.mono ?_
      rintro e w1 ⟨rfl, b1⟩
      have B1 := BW.out.trans (b1.mono ql)
      go_wp2
      go_roundg (args.length - (kk + 1))
      case measure => omega
      case rel => exact ⟨kk + 1, N + m, by omega, by omega, by go_num, by go_num, hN2, HN2, B1⟩
    · have hltz : ¬ (kk : Int) < (args.length : Int) := by omega
      have HF : N = S := by rw [HN.out, List.take_of_length_le (by omega)]; exact HS.out
      subst HF
      clear HN
      go_wp2
      go_ret
      exact ⟨rfl, box_below BW.out⟩
theorem deeps_take_le (l : List Ex) (k : Nat) : Ex.deeps (l.take k) ≤ Ex.deeps l := by
  induction l generalizing k with
  | nil => simp
  | cons x xs ih =>
    cases k with
    | zero => simp [Ex.deeps]
    | succ k =>
      rw [List.take_succ_cons, Ex.deeps, Ex.deeps]
      have := ih k
      omega
set_option maxHeartbeats 4000000 in
set_option maxRecDepth 20000 in
theorem refDeep_any : ∀ (x : Ex) (lo : Nat → Prop) (v : Value) (w : World), ExIn w lo v x → x.size ≤ 1048576 →
    Calls Tryd.prog 63 #[v] w fun e w' => e = .returned (.int .i64 (x.deep : Nat)) ∧ Below w.heap.size w w' := by
  refine Ex.ind fun op nm vt vn vs pos args ih lo v w h hsz => ?_
  rw [ExIn] at h
  obtain ⟨p, c, rfl, ⟨hm, _⟩, _, _, _, h5⟩ := h
  have hdz := deep_le (.node op nm vt vn vs pos args)
  rw [Ex.size] at hsz hdz
  rw [Ex.deep] at hdz ⊢
  obtain ⟨S, hS⟩ : ∃ S, Ex.deeps args + 1 = S := ⟨_, rfl⟩
  have HS : Hid (Ex.deeps args + 1 = S) := hS
  have HZ : Hid (1 + Ex.sizes args ≤ 1048576) := hsz
  rw [hS] at hdz ⊢
  have hsz : S ≤ 1048576 := by omega
  clear hdz
  have HI : Hid (∀ y ∈ args, ∀ (lo : Nat → Prop) (v : Value) (w : World), ExIn w lo v y → y.size ≤ 1048576 → Calls Tryd.prog 63 #[v] w fun e w' => e = .returned (.int .i64 (y.deep : Nat)) ∧ Below w.heap.size w w') := ih
  unfold maxLen at hm
  clear ih hS
  go_enter Tryd.func63, Tryd.ntmps63
  go_wp2
  go_loopg [3, 4, 5] args.length (fun gg s3 s4 _ wr => ∃ (kk N : Nat), kk ≤ args.length ∧ args.length - kk ≤ gg ∧ s4 = .int .i64 kk ∧ s3 = .int .i64 N ∧ N < S ∧ Hid (N = Ex.deeps (args.take kk)) ∧ Aside (Below (w.heap.size + 1) (w.alloc (.cells #[.string op, .string nm, .int .i64 vt, .int .i64 vn, .string vs, .slice p args.length c, .int .i64 pos] 27)) wr))
  case atStart => exact ⟨0, 0, Nat.zero_le _, by omega, rfl, rfl, by have := HS.out; omega, rfl, (show Aside _ from Below.refl _ _)⟩
  case round =>
    obtain ⟨kk, N, hkk, hg, rfl, rfl, hN, HN, BW⟩ := hrel
    have q5 := box_kept BW.out 5
    simp at q5
    have ql := box_size BW.out
    by_cases hlt : kk < args.length
    · have hltz : (kk : Int) < (args.length : Int) := by omega
      have k0 : (0 : Int) ≤ (kk : Int) := by omega
      rcases h5 with h0 | ⟨b, off, rfl, hbl, hlo, h5⟩
      · exact absurd h0 (by omega)
      obtain ⟨v0, v1, v2, v3, v4, v5, v6, e0, e1, e2, e3, e4, e5, e6, hx⟩ := exsIn_at w lo b args off h5 kk hlt
      have hb := box_below BW.out
      have key : ∀ o : Nat, wr.cell? ⟨b, o, none⟩ = w.cell? ⟨b, o, none⟩ := fun o => hb.cell (p := ⟨b, o, none⟩) hbl
      rw [← key] at e0 e1 e2 e3 e4 e5 e6
      have hblr : b < wr.heap.size := by omega
      have hsa : args[kk].size ≤ 1048576 := by have := size_arg hlt; have := HZ.out; omega
      have cI := HI.out _ (List.getElem_mem hlt) lo _ wr (hx.on hb) hsa
      have HN2 : Hid (max N args[kk].deep = Ex.deeps (args.take (kk + 1))) := by
        show _ = _
        rw [deeps_take hlt, HN.out]
      have hN2 : max N args[kk].deep < S := by
        have h1 := HN2.out
        have h2 := deeps_take_le args (kk + 1)
        have h3 := HS.out
        omega
      generalize args[kk].deep = m at cI HN2 hN2
      clear key hx h5 HN hb hsa
      go_wp2_with fail
      refine cI.mono ?_
      rintro e w1 ⟨rfl, b1⟩
      have B1 := BW.out.trans (b1.mono ql)
      by_cases hgt : N < m
      · have hgz : (N : Int) < (m : Int) := by omega
        have HN3 : Hid (m = Ex.deeps (args.take (kk + 1))) := by
          show _ = _
          rw [← HN2.out]; omega
        go_wp2
        go_roundg (args.length - (kk + 1))
        case measure => omega
        case rel => exact ⟨kk + 1, m, by omega, by omega, by go_num, rfl, by omega, HN3, B1⟩
      · have hgz : ¬ (N : Int) < (m : Int) := by omega
        have HN3 : Hid (N = Ex.deeps (args.take (kk + 1))) := by
          show _ = _
          rw [← HN2.out]; omega
        go_wp2
        go_roundg (args.length - (kk + 1))
        case measure => omega
        case rel => exact ⟨kk + 1, N, by omega, by omega, by go_num, rfl, by omega, HN3, B1⟩
    · have hltz : ¬ (kk : Int) < (args.length : Int) := by omega
      have HF : N + 1 = S := by rw [HN.out, List.take_of_length_le (by omega)]; exact HS.out
      subst HF
      clear HN
      go_wp2
      go_ret
      exact ⟨by go_num, box_below BW.out⟩
/-- Are there no more than may be? -/
def Ex.small (x : Ex) : Bool := decide (x.size ≤ 200) && decide (x.deep ≤ 30)
set_option maxHeartbeats 1000000 in
theorem refSmall_any (x : Ex) (lo : Nat → Prop) (v : Value) (w : World) (h : ExIn w lo v x) (hsz : x.size ≤ 1048576) :
    Calls Tryd.prog 42 #[v] w fun e w' => e = .returned (.bool x.small) ∧ Below w.heap.size w w' := by
  have cS := refSize_any x lo v
  have cD := fun (W : World) (hh : ExIn W lo v x) => refDeep_any x lo v W hh hsz
  have hd := deep_le x
  have HX : Hid (x.small = (decide (x.size ≤ 200) && decide (x.deep ≤ 30))) := rfl
  obtain ⟨p, c, op, nm, vt, vn, vs, pos, args, hv⟩ : ∃ p c op nm vt vn vs pos args, x = .node op nm vt vn vs pos args ∧ v = .agg #[.string op, .string nm, .int .i64 vt, .int .i64 vn, .string vs, .slice p args.length c, .int .i64 pos] := by
    cases x with
    | node op nm vt vn vs pos args =>
      have h' := h
      rw [ExIn] at h'
      obtain ⟨p, c, hv, _⟩ := h'
      exact ⟨p, c, op, nm, vt, vn, vs, pos, args, rfl, hv⟩
  have B0 := (Below.refl w.heap.size w).alloc (Nat.le_refl _) (.cells #[.string op, .string nm, .int .i64 vt, .int .i64 vn, .string vs, .slice p args.length c, .int .i64 pos] 27)
  have h1 := h.on B0
  obtain ⟨_, rfl⟩ := hv
  generalize x.size = n at cS hsz HX hd
  generalize x.deep = d at cD hd HX
  obtain ⟨R, hR⟩ : ∃ R, x.small = R := ⟨_, rfl⟩
  rw [hR] at HX ⊢
  clear hR
  go_enter Tryd.func42, Tryd.ntmps42
  go_wp2_with fail
  refine (cS _ h1 hsz).mono ?_
  rintro e w1 ⟨rfl, b1⟩
  have B1 := B0.trans (b1.mono B0.size)
  have h2 := h1.on b1
  have q := fun i => box_kept (w := w) (wr := w1) (cs := #[.string op, .string nm, .int .i64 vt, .int .i64 vn, .string vs, .slice p args.length c, .int .i64 pos]) (b1.mono (by simp)) i
  have q0 := q 0
  have q1 := q 1
  have q2 := q 2
  have q3 := q 3
  have q4 := q 4
  have q5 := q 5
  have q6 := q 6
  simp at q0 q1 q2 q3 q4 q5 q6
  have ql : w.heap.size < w1.heap.size := by have := b1.size; simp at this; omega
  clear q cS
  go_wp2_with fail
  refine (cD _ h2).mono ?_
  rintro e w2 ⟨rfl, b2⟩
  have B2 := B1.trans (b2.mono B1.size)
  clear cD q0 q1 q2 q3 q4 q5 q6
  by_cases hn : n ≤ 200
  · have hnz : (n : Int) ≤ 200 := by omega
    by_cases hd : d ≤ 30
    · have hdz : (d : Int) ≤ 30 := by omega
      have HX2 : R = true := by rw [HX.out]; simp [hn, hd]
      subst HX2
      clear HX
      go_wp2
      go_ret
      exact ⟨rfl, B2⟩
    · have hdz : ¬ (d : Int) ≤ 30 := by omega
      have HX2 : R = false := by rw [HX.out]; simp [hd]
      subst HX2
      clear HX
      go_wp2
      go_ret
      exact ⟨congrArg (fun b => Ending.returned (.bool b)) (decide_eq_false (by omega)), B2⟩
  · have hnz : ¬ (n : Int) ≤ 200 := by omega
    have HX2 : R = false := by rw [HX.out]; simp [hn]
    subst HX2
    clear HX
    go_wp2
    go_ret
    exact ⟨rfl, B2⟩
end Go.Proofs.YtkoejkpjkcejcaaDoor
namespace Go.Proofs.YtkoejkpjkcejcaaDoor
open Go.RowKit Go.BigFrame
set_option linter.unusedVariables false

/-- The program's list of operations, and the document's Arity. -/
theorem arity_ops (x : List UInt8) : (apL x opsL).2 = decide (0 ≤ arityT x) ∧ (0 ≤ arityT x → (apL x opsL).1 = arityT x) := by
  by_cases h : x ∈ opsL.map (·.1)
  · have all : ∀ y ∈ opsL.map (·.1), (apL y opsL).2 = decide (0 ≤ arityT y) ∧ (0 ≤ arityT y → (apL y opsL).1 = arityT y) := by
      intro y hy
      simp only [opsL, List.map_cons, List.map_nil, List.mem_cons, List.not_mem_nil, or_false] at hy
      rcases hy with rfl | rfl | rfl | rfl | rfl | rfl | rfl | rfl | rfl | rfl | rfl | rfl | rfl | rfl | rfl | rfl | rfl | rfl | rfl <;> exact ⟨by decide, by decide⟩
    exact all x h
  · have hn : (apL x opsL).2 = false := by
      cases hf : (apL x opsL).2 with
      | false => rfl
      | true => exact absurd (List.mem_map.2 ⟨_, apL_mem hf, rfl⟩) h
    have ha : arityT x < 0 := by
      simp only [opsL, List.map_cons, List.map_nil, List.mem_cons, List.not_mem_nil, or_false, not_or] at h
      obtain ⟨n1, n2, n3, n4, n5, n6, n7, n8, n9, n10, n11, n12, n13, n14, n15, n16, n17, n18, n19⟩ := h
      unfold arityT
      rw [if_neg (by simp [n1, n2]), if_neg (by simp [n5, n17, n18]), if_neg n19]
      have hs : inSigns x = false := by
        unfold inSigns
        rw [Bool.eq_false_iff]
        intro ha
        rw [List.any_eq_true] at ha
        obtain ⟨y, hy, he⟩ := ha
        have he2 : y = x := by simpa using he
        subst he2
        simp [sgl] at hy
        rcases hy with h | h | h | h | h | h | h | h | h | h | h | h | h <;> simp_all
      rw [hs]
      decide
    exact ⟨by rw [hn]; symm; exact decide_eq_false (by omega), fun hh => by omega⟩
theorem size_pre : ∀ (x : Ex) (d : Nat), (x.pre d).length = x.size := by
  refine Ex.ind fun op nm vt vn vs pos l ih d => ?_
  rw [Ex.pre, Ex.size, List.length_cons]
  have : ∀ l : List Ex, (∀ y ∈ l, ∀ d, (y.pre d).length = y.size) → (Ex.pres (d + 1) l).length = Ex.sizes l := fun l => by
    induction l with
    | nil => intro _; rw [Ex.pres, Ex.sizes]; rfl
    | cons y ys ihl =>
      intro h
      rw [Ex.pres, Ex.sizes, List.length_append, h y (by simp), ihl fun z hz => h z (by simp [hz])]
  rw [this l ih]
  omega
theorem deep_pre : ∀ (x : Ex) (d m : Nat), (∀ q ∈ x.pre d, q.2 ≤ m) ↔ d + x.deep ≤ m + 1 := by
  refine Ex.ind fun op nm vt vn vs pos l ih d m => ?_
  have key : ∀ l : List Ex, (∀ y ∈ l, ∀ d m, (∀ q ∈ y.pre d, q.2 ≤ m) ↔ d + y.deep ≤ m + 1) → ((∀ q ∈ Ex.pres (d + 1) l, q.2 ≤ m) ↔ (l = [] ∨ d + 1 + Ex.deeps l ≤ m + 1)) := fun l => by
    induction l with
    | nil => intro _; rw [Ex.pres]; simp
    | cons y ys ihl =>
      intro h
      have i2 := ihl fun z hz => h z (by simp [hz])
      have hy := h y (by simp) (d + 1) m
      rw [Ex.pres, Ex.deeps]
      simp only [List.mem_append]
      constructor
      · intro hq
        have a1 := hy.1 fun q hq2 => hq q (.inl hq2)
        have a2 := i2.1 fun q hq2 => hq q (.inr hq2)
        right
        rcases a2 with rfl | a2
        · rw [Ex.deeps]; omega
        · omega
      · intro hq q hq2
        have hq3 : d + 1 + max y.deep (Ex.deeps ys) ≤ m + 1 := by simpa using hq
        rcases hq2 with hq2 | hq2
        · exact hy.2 (by omega) q hq2
        · exact i2.2 (.inr (by omega)) q hq2
  rw [Ex.pre, Ex.deep]
  have k := key l ih
  constructor
  · intro h
    have h0 := h _ (List.mem_cons_self ..)
    simp only at h0
    have h1 := k.1 fun q hq => h q (List.mem_cons_of_mem _ hq)
    rcases h1 with rfl | h1
    · rw [Ex.deeps]; omega
    · omega
  · intro h q hq
    rcases List.mem_cons.1 hq with rfl | hq
    · simp only; omega
    · exact k.2 (.inr (by omega)) q hq
/-- Too great, as the document says it. -/
theorem tg_small (x : Ex) : tgB x = !x.small := by
  have h := fold_tg (x.pre 1) 0
  rw [tgB, Ex.small]
  congr 1
  rw [Bool.eq_iff_iff, h, Bool.and_eq_true, decide_eq_true_eq, decide_eq_true_eq, size_pre, deep_pre]
  have hp : 1 ≤ x.size := by rw [← size_pre x 1, pre_eq]; simp
  constructor
  · rintro ⟨h1, h2⟩
    refine ⟨?_, by omega⟩
    rcases h1 with h1 | h1
    · have := congrArg List.length h1
      rw [size_pre] at this
      simp at this
      omega
    · omega
  · rintro ⟨h1, h2⟩
    exact ⟨.inr (by omega), by omega⟩
end Go.Proofs.YtkoejkpjkcejcaaDoor
namespace Go.Proofs.YtkoejkpjkcejcaaDoor
open Go.RowKit
set_option linter.unusedVariables false

def wordsA : Array Value := #[.string ⟨#[111, 114]⟩, .string ⟨#[97, 110, 100]⟩, .string ⟨#[110, 111, 116]⟩, .string ⟨#[116, 114, 117, 101]⟩, .string ⟨#[102, 97, 108, 115, 101]⟩, .string ⟨#[108, 101, 110]⟩, .string ⟨#[105, 102]⟩, .string ⟨#[115, 101, 108, 101, 99, 116]⟩, .string ⟨#[97, 115]⟩, .string ⟨#[102, 114, 111, 109]⟩, .string ⟨#[119, 104, 101, 114, 101]⟩, .string ⟨#[103, 114, 111, 117, 112]⟩, .string ⟨#[98, 121]⟩, .string ⟨#[119, 105, 110, 100, 111, 119]⟩, .string ⟨#[115, 108, 105, 100, 101]⟩, .string ⟨#[99, 111, 117, 110, 116]⟩, .string ⟨#[115, 117, 109]⟩, .string ⟨#[108, 101, 97, 115, 116]⟩, .string ⟨#[109, 111, 115, 116]⟩]
theorem words_at (k : Nat) (h : k < 19) : ∃ S : ByteArray, wordsA[k]? = some (.string S) ∧ wordsL[k]'h = S.data.toList := by
  have h : k = 0 ∨ k = 1 ∨ k = 2 ∨ k = 3 ∨ k = 4 ∨ k = 5 ∨ k = 6 ∨ k = 7 ∨ k = 8 ∨ k = 9 ∨ k = 10 ∨ k = 11 ∨ k = 12 ∨ k = 13 ∨ k = 14 ∨ k = 15 ∨ k = 16 ∨ k = 17 ∨ k = 18 := by omega
  rcases h with rfl | rfl | rfl | rfl | rfl | rfl | rfl | rfl | rfl | rfl | rfl | rfl | rfl | rfl | rfl | rfl | rfl | rfl | rfl
  · exact ⟨⟨#[111, 114]⟩, rfl, rfl⟩
  · exact ⟨⟨#[97, 110, 100]⟩, rfl, rfl⟩
  · exact ⟨⟨#[110, 111, 116]⟩, rfl, rfl⟩
  · exact ⟨⟨#[116, 114, 117, 101]⟩, rfl, rfl⟩
  · exact ⟨⟨#[102, 97, 108, 115, 101]⟩, rfl, rfl⟩
  · exact ⟨⟨#[108, 101, 110]⟩, rfl, rfl⟩
  · exact ⟨⟨#[105, 102]⟩, rfl, rfl⟩
  · exact ⟨⟨#[115, 101, 108, 101, 99, 116]⟩, rfl, rfl⟩
  · exact ⟨⟨#[97, 115]⟩, rfl, rfl⟩
  · exact ⟨⟨#[102, 114, 111, 109]⟩, rfl, rfl⟩
  · exact ⟨⟨#[119, 104, 101, 114, 101]⟩, rfl, rfl⟩
  · exact ⟨⟨#[103, 114, 111, 117, 112]⟩, rfl, rfl⟩
  · exact ⟨⟨#[98, 121]⟩, rfl, rfl⟩
  · exact ⟨⟨#[119, 105, 110, 100, 111, 119]⟩, rfl, rfl⟩
  · exact ⟨⟨#[115, 108, 105, 100, 101]⟩, rfl, rfl⟩
  · exact ⟨⟨#[99, 111, 117, 110, 116]⟩, rfl, rfl⟩
  · exact ⟨⟨#[115, 117, 109]⟩, rfl, rfl⟩
  · exact ⟨⟨#[108, 101, 97, 115, 116]⟩, rfl, rfl⟩
  · exact ⟨⟨#[109, 111, 115, 116]⟩, rfl, rfl⟩
theorem wany_take {l : List UInt8} {k : Nat} (h : k < wordsL.length) : (wordsL.take (k + 1)).any (· == l) = ((wordsL.take k).any (· == l) || wordsL[k] == l) := by
  rw [List.take_succ_eq_append_getElem h, List.any_append]
  simp only [List.any_cons, List.any_nil, Bool.or_false]
theorem wany_hit {l : List UInt8} {k : Nat} (h : k < wordsL.length) (he : (wordsL[k] == l) = true) : wordsL.any (· == l) = true := by
  rw [List.any_eq_true]
  exact ⟨_, List.getElem_mem h, he⟩
set_option maxHeartbeats 4000000 in
set_option maxRecDepth 20000 in
theorem refWord_any (s : ByteArray) (w : World) :
    Calls Tryd.prog 76 #[.string s] w fun e w' => e = .returned (.bool (wordsL.any (· == s.data.toList))) ∧ Below w.heap.size w w' := by
  obtain ⟨R, hR⟩ : ∃ R, wordsL.any (· == s.data.toList) = R := ⟨_, rfl⟩
  have HR : Hid (wordsL.any (· == s.data.toList) = R) := hR
  rw [hR]
  clear hR
  go_enter Tryd.func76, Tryd.ntmps76
  go_wp2
  go_loopg [4] 19 (fun gg s4 wr => ∃ kk : Nat, kk ≤ 19 ∧ 19 - kk ≤ gg ∧ s4 = .int .i64 kk ∧ wr = w.alloc (.cells #[.string ⟨#[111, 114]⟩, .string ⟨#[97, 110, 100]⟩, .string ⟨#[110, 111, 116]⟩, .string ⟨#[116, 114, 117, 101]⟩, .string ⟨#[102, 97, 108, 115, 101]⟩, .string ⟨#[108, 101, 110]⟩, .string ⟨#[105, 102]⟩, .string ⟨#[115, 101, 108, 101, 99, 116]⟩, .string ⟨#[97, 115]⟩, .string ⟨#[102, 114, 111, 109]⟩, .string ⟨#[119, 104, 101, 114, 101]⟩, .string ⟨#[103, 114, 111, 117, 112]⟩, .string ⟨#[98, 121]⟩, .string ⟨#[119, 105, 110, 100, 111, 119]⟩, .string ⟨#[115, 108, 105, 100, 101]⟩, .string ⟨#[99, 111, 117, 110, 116]⟩, .string ⟨#[115, 117, 109]⟩, .string ⟨#[108, 101, 97, 115, 116]⟩, .string ⟨#[109, 111, 115, 116]⟩] 9) ∧ Hid ((wordsL.take kk).any (· == s.data.toList) = false))
  case atStart => exact ⟨0, Nat.zero_le _, by omega, rfl, rfl, rfl⟩
  case round =>
    obtain ⟨kk, hkk, hg, rfl, rfl, HO⟩ := hrel
    by_cases hlt : kk < 19
    · have hltz : (kk : Int) < 19 := by omega
      have k0 : (0 : Int) ≤ (kk : Int) := by omega
      obtain ⟨S, hS, hS1⟩ := words_at kk hlt
      have hc : (w.alloc (.cells #[.string ⟨#[111, 114]⟩, .string ⟨#[97, 110, 100]⟩, .string ⟨#[110, 111, 116]⟩, .string ⟨#[116, 114, 117, 101]⟩, .string ⟨#[102, 97, 108, 115, 101]⟩, .string ⟨#[108, 101, 110]⟩, .string ⟨#[105, 102]⟩, .string ⟨#[115, 101, 108, 101, 99, 116]⟩, .string ⟨#[97, 115]⟩, .string ⟨#[102, 114, 111, 109]⟩, .string ⟨#[119, 104, 101, 114, 101]⟩, .string ⟨#[103, 114, 111, 117, 112]⟩, .string ⟨#[98, 121]⟩, .string ⟨#[119, 105, 110, 100, 111, 119]⟩, .string ⟨#[115, 108, 105, 100, 101]⟩, .string ⟨#[99, 111, 117, 110, 116]⟩, .string ⟨#[115, 117, 109]⟩, .string ⟨#[108, 101, 97, 115, 116]⟩, .string ⟨#[109, 111, 115, 116]⟩] 9)).cell? ⟨w.heap.size, kk, none⟩ = some (.string S) := by
        rw [World.cell?_alloc_at _ _ _ _ rfl]; exact hS
      cases hb : wordsL[kk] == s.data.toList
      · have hbt : (S.toList == s.toList) = false := by rw [Lib.toList_data, Lib.toList_data, ← hS1]; exact hb
        have HO2 : Hid ((wordsL.take (kk + 1)).any (· == s.data.toList) = false) := by
          show _ = _
          rw [wany_take hlt, HO.out, hb]; rfl
        clear hb hS hS1 HO
        go_wp2
        go_roundg (19 - (kk + 1))
        case measure => omega
        case rel => exact ⟨kk + 1, by omega, by omega, by go_num, rfl, HO2⟩
      · have hbt : (S.toList == s.toList) = true := by rw [Lib.toList_data, Lib.toList_data, ← hS1]; exact hb
        have hR : R = true := by rw [← HR.out]; exact wany_hit hlt hb
        subst hR
        clear hb hS hS1 HO
        go_wp2
        go_ret
        exact ⟨rfl, (Below.refl _ _).alloc (Nat.le_refl _) _⟩
    · have hltz : ¬ (kk : Int) < 19 := by omega
      have hR : R = false := by
        have h := HO.out
        rw [List.take_of_length_le (by show 19 ≤ kk; omega)] at h
        rw [← HR.out]; exact h
      subst hR
      clear HO
      go_wp2
      go_ret
      exact ⟨rfl, (Below.refl _ _).alloc (Nat.le_refl _) _⟩
theorem letT_take (s : ByteArray) (k : Nat) (h : k < s.size) : (s.data.toList.take (k + 1)).all letB = ((s.data.toList.take k).all letB && letB s[k]) := by
  have e : s.data.toList.take (k + 1) = s.data.toList.take k ++ [s[k]] := by
    rw [List.take_succ_eq_append_getElem (by simpa using h)]; rfl
  rw [e]; simp [List.all_append]
theorem letT_not (s : ByteArray) (k : Nat) (h : k < s.size) (hc : letB s[k] = false) : s.data.toList.all letB = false := by
  rw [List.all_eq_false]
  exact ⟨s[k], by rw [show s[k] = s.data.toList[k]'(by simpa using h) from rfl]; exact List.getElem_mem _, by simp [hc]⟩
theorem letB_f {c : UInt8} (h : (c.toNat : Int) < 97 ∨ 122 < (c.toNat : Int)) : letB c = false := by
  rw [letB, Bool.and_eq_false_iff, decide_eq_false_iff_not, decide_eq_false_iff_not]; omega
theorem letB_t {c : UInt8} (h1 : 97 ≤ (c.toNat : Int)) (h2 : (c.toNat : Int) ≤ 122) : letB c = true := by
  rw [letB, Bool.and_eq_true, decide_eq_true_eq, decide_eq_true_eq]; exact ⟨h1, h2⟩
set_option maxHeartbeats 4000000 in
set_option maxRecDepth 20000 in
theorem refLetters_any (s : ByteArray) (w : World) (hs : s.size ≤ maxLen) :
    Calls Tryd.prog 44 #[.string s] w fun e w' => e = .returned (.bool (lettersB s.data.toList)) ∧ w' = w := by
  unfold maxLen at hs
  have hl : s.data.toList.length = s.size := by simp
  by_cases h0 : s.size = 0
  · have he : s.data.toList = [] := List.length_eq_zero_iff.1 (by omega)
    have het : s.toList.isEmpty = true := by rw [Lib.toList_data, he]; rfl
    have hL : lettersB s.data.toList = false := by rw [he]; rfl
    rw [hL]
    clear he hl hL
    go_enter Tryd.func44, Tryd.ntmps44
    go_wp2
    go_ret
    exact ⟨rfl, rfl⟩
  · have hne : s.data.toList ≠ [] := fun e => h0 (by rw [e] at hl; simpa using hl.symm)
    have het : s.toList.isEmpty = false := by rw [Lib.toList_data, List.isEmpty_eq_false_iff]; exact hne
    by_cases h8 : 8 < s.size
    · have h8z : (8 : Int) < (s.size : Int) := by omega
      have hL : lettersB s.data.toList = false := by simp [lettersB]; omega
      rw [hL]
      clear hne hl hL
      go_enter Tryd.func44, Tryd.ntmps44
      go_wp2
      go_ret
      exact ⟨rfl, rfl⟩
    · have h8z : ¬ (8 : Int) < (s.size : Int) := by omega
      have hL : lettersB s.data.toList = s.data.toList.all letB := by
        rw [lettersB]
        have h1 : decide (s.data.toList ≠ []) = true := decide_eq_true hne
        have h2 : decide (s.data.toList.length ≤ 8) = true := decide_eq_true (by omega)
        rw [h1, h2]; rfl
      rw [hL]
      obtain ⟨R, hR⟩ : ∃ R, s.data.toList.all letB = R := ⟨_, rfl⟩
      have HR : Hid (s.data.toList.all letB = R) := hR
      rw [hR]
      clear hR hL hne hl
      go_enter Tryd.func44, Tryd.ntmps44
      go_wp2
      go_loop [3] (fun i => ∃ k : Nat, k ≤ s.size ∧ i = .int .i64 k ∧ Hid ((s.data.toList.take k).all letB = true)) (fun i => s.size - (intOf i).toNat)
      case atStart => exact ⟨0, Nat.zero_le _, rfl, rfl⟩
      case round =>
        obtain ⟨k, hk, rfl, HP⟩ := hrel
        by_cases hlt : k < s.size
        · cases hc : letB s[k]
          · have hR : R = false := by rw [← HR.out]; exact letT_not s k hlt hc
            subst hR
            have HC : Hid (letB s[k] = false) := hc
            clear hc HP
            by_cases h1 : (s[k].toNat : Int) < 97
            · go_wp2
              go_ret
              exact ⟨rfl, rfl⟩
            · have h2 : 122 < (s[k].toNat : Int) := by
                rcases Int.lt_or_le 122 (s[k].toNat : Int) with h | h
                · exact h
                · have := letB_t (c := s[k]) (by omega) h
                  rw [HC.out] at this; cases this
              go_wp2
              go_ret
              exact ⟨rfl, rfl⟩
          · have HP2 : Hid ((s.data.toList.take (k + 1)).all letB = true) := by
              show _ = _
              rw [letT_take s k hlt, HP.out, hc]; rfl
            have hb : 97 ≤ (s[k].toNat : Int) ∧ (s[k].toNat : Int) ≤ 122 := by
              rw [letB, Bool.and_eq_true, decide_eq_true_eq, decide_eq_true_eq] at hc; exact hc
            have h1 : ¬ (s[k].toNat : Int) < 97 := by omega
            have h2 : ¬ 122 < (s[k].toNat : Int) := by omega
            clear hc HP hb
            go_wp2
            go_round
            case rel => exact ⟨k + 1, by omega, by go_num, HP2⟩
            case measure => simp [intOf]; omega
        · have hR : R = true := by
            have h := HP.out
            rw [List.take_of_length_le (by simp; omega)] at h
            rw [← HR.out]; exact h
          subst hR
          go_wp2
          go_ret
          exact ⟨rfl, rfl⟩
set_option maxHeartbeats 1000000 in
theorem refName_any (s : ByteArray) (w : World) (hs : s.size ≤ maxLen) :
    Calls Tryd.prog 64 #[.string s] w fun e w' => e = .returned (.bool (nameT s.data.toList)) ∧ Below w.heap.size w w' := by
  have cL := fun W => refLetters_any s W hs
  have cW := refWord_any s
  rw [nameT]
  generalize lettersB s.data.toList = A at cL ⊢
  generalize wordsL.any (· == s.data.toList) = B at cW ⊢
  go_enter Tryd.func64, Tryd.ntmps64
  go_wp2_with fail
  refine (cL _).mono ?_
  rintro e w1 ⟨rfl, hq⟩
  obtain rfl : w = w1 := hq.symm
  go_wp2_with fail
  refine (cW _).mono ?_
  rintro e w2 ⟨rfl, b2⟩
  cases A <;> cases B
  all_goals
    go_wp2
    go_ret
    exact ⟨rfl, b2⟩
end Go.Proofs.YtkoejkpjkcejcaaDoor
namespace Go.Proofs.YtkoejkpjkcejcaaDoor
open Go.RowKit
set_option linter.unusedVariables false

set_option maxHeartbeats 400000 in
theorem refPlain_any (s : ByteArray) (w : World) (hs : s.size ≤ maxLen) :
    Calls Tryd.prog 77 #[.string s] w fun e w' => e = .returned (.bool (plainB s.data.toList)) ∧ w' = w := by
  unfold maxLen at hs
  go_enter Tryd.func77, Tryd.ntmps77
  go_wp2
  go_loop [3] (fun i => ∃ k : Nat, k ≤ s.size ∧ i = .int .i64 k ∧ plainB (s.data.toList.take k) = true) (fun i => s.size - (intOf i).toNat)
  case atStart => exact ⟨0, Nat.zero_le _, rfl, rfl⟩
  case round =>
    obtain ⟨k, hk, rfl, hp⟩ := hrel
    have HP : Hid (plainB (s.data.toList.take k) = true) := hp
    clear hp
    by_cases hlt : k < s.size
    · have HN : Hid (∀ _ : (s[k].toNat : Int) < 32 ∨ 126 < (s[k].toNat : Int), plainB s.data.toList = false) := plain_not s k hlt
      have HT : Hid (plainB (s.data.toList.take (k + 1)) = (plainB (s.data.toList.take k) && (decide (32 ≤ (s[k].toNat : Int)) && decide ((s[k].toNat : Int) ≤ 126)))) := plain_take s k hlt
      go_wp2
      · go_ret
        exact ⟨ret_bool (HN.out (by omega)).symm, rfl⟩
      · go_round
        case rel =>
          refine ⟨k + 1, by omega, by go_num, ?_⟩
          rw [HT.out, HP.out]
          simp only [Bool.true_and, Bool.and_eq_true, decide_eq_true_eq]
          assumption
        case measure => simp [intOf]; omega
      · go_ret
        exact ⟨ret_bool (HN.out (by omega)).symm, rfl⟩
    · have HO := plain_of s k (by omega) HP.out
      go_wp2
      go_ret
      exact ⟨rfl, rfl⟩

set_option maxHeartbeats 1000000 in
theorem refVal_any (t n : Int) (s : ByteArray) (w : World) (hs : s.size ≤ maxLen) :
    Calls Tryd.prog 65 #[.agg #[.int .i64 t, .int .i64 n, .string s]] w fun e w' => e = .returned (.int .i64 (chk t n s.data.toList)) ∧ Below w.heap.size w w' := by
  have hs2 := hs
  unfold maxLen at hs2
  generalize hc : chk t n s.data.toList = c
  have HC : Hid (chk t n s.data.toList = c) := hc
  clear hc
  go_enter Tryd.func65, Tryd.ntmps65
  go_wp2_with (first | (go_at_call 77; refine (refPlain_any _ _ hs).mono ?_; rintro e w' ⟨rfl, rfl⟩))
  all_goals
    go_ret
    refine ⟨?_, by repeat (first | exact Below.refl _ _ | (refine Below.alloc ?_ (by simp) _))⟩
    have hd : s.data.toList.length = s.size := by simp
    have hc := HC.out
    clear HC hs
    rw [chk] at hc
    simp only [Lib.toList_data, bne_iff_ne, bne_eq_false_iff_eq, Bool.not_eq_true', Bool.not_eq_false'] at *
  all_goals
    repeat' split at hc
  all_goals subst hc
  all_goals first | rfl | (exfalso; omega) | (exfalso; simp_all; done) | (exfalso; simp_all; omega)

theorem ret_bi {b : Bool} {k : IntKind} {a c : Int} (h : a = c) : Ending.returned (.tuple #[.bool b, .int k a]) = .returned (.tuple #[.bool b, .int k c]) := by rw [h]
theorem ret_ib {b : Bool} {k : IntKind} {a c : Int} (h : a = c) : Ending.returned (.tuple #[.int k a, .bool b]) = .returned (.tuple #[.int k c, .bool b]) := by rw [h]
theorem dig_len (u : Nat) (h : u < 18446744073709551616) : (Lib.decDigits u).length ≤ 20 := by rw [Lib.decDigits_length]; exact Lib.nDigits_le20 u h
theorem ret_str {a c : ByteArray} (h : a = c) : Ending.returned (.string a) = .returned (.string c) := by rw [h]
theorem dig_snoc (u : Nat) (d : Nat) (c : UInt8) (h : ¬ u < 10) (hd : u % 10 = d) (hc : UInt8.ofNat (48 + d) = c) : (⟨(Lib.decDigits (u / 10)).toArray⟩ : ByteArray) ++ ⟨#[c]⟩ = ⟨(Lib.decDigits u).toArray⟩ := by
  rw [Lib.decDigits.eq_1 u, dif_neg h, hd, hc]
  rfl
end Go.Proofs.YtkoejkpjkcejcaaDoor
