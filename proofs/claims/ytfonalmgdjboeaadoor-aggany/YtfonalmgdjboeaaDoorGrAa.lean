/-
  AgW, Val1, Cmp, VlB, AgI, in one text.
-/
import Derived.Test.YtfonalmgdjboeaaDoorProg
import Derived.WalkKit
import Derived.Below
import Derived.Lib.Strings
import Derived.OwnWalk
import Derived.Deep.Heap
import Derived.WalkSmall
import Derived.Laws.Rows
import Derived.Deep.LoopGhost
namespace Go.Proofs.YtfonalmgdjboeaaDoor
set_option linter.unusedVariables false

/-- The number that words are. -/
def sv : List Int → Int
  | [] => 0
  | [x] => if 9223372036854775808 ≤ x then x - 18446744073709551616 else x
  | x :: y :: r => x + 18446744073709551616 * sv (y :: r)
/-- Each word has 64 bits. -/
def wdR (ws : List Int) : Prop := ∀ x ∈ ws, 0 ≤ x ∧ x < 18446744073709551616
/-- Each word behind the last one. -/
def byW (ws : List Int) : Int := if 9223372036854775807 < ws.getLast?.getD 0 then 18446744073709551615 else 0
/-- The word at a place, however far on. -/
def wordW (ws : List Int) (i : Nat) : Int := if h : i < ws.length then ws[i] else byW ws
/-- So many words of it. -/
def extW (ws : List Int) (n : Nat) : List Int := (List.range n).map (wordW ws)
/-- Added word by word. -/
def addW : List Int → List Int → Int → List Int
  | x :: a, y :: b, c => (x + y + c) % 18446744073709551616 :: addW a b ((x + y + c) / 18446744073709551616)
  | _, _, _ => []
/-- What is handed on behind so many words. -/
def carW : List Int → List Int → Int → Int
  | x :: a, y :: b, c => carW a b ((x + y + c) / 18446744073709551616)
  | _, _, c => c
theorem byW_01 (ws : List Int) : byW ws = 0 ∨ byW ws = 18446744073709551615 := by unfold byW; split <;> simp
theorem sv_cons (x : Int) {r : List Int} (h : r ≠ []) : sv (x :: r) = x + 18446744073709551616 * sv r := by
  cases r with
  | nil => exact absurd rfl h
  | cons y r => rfl
theorem wdR_tail {x : Int} {r : List Int} (h : wdR (x :: r)) : wdR r := fun y hy => h y (List.mem_cons_of_mem _ hy)
theorem byW_cons (x : Int) {r : List Int} (h : r ≠ []) : byW (x :: r) = byW r := by
  cases r with
  | nil => exact absurd rfl h
  | cons y r => simp [byW, List.getLast?_cons_cons]
theorem byW_app (ws : List Int) (b : Int) : byW (ws ++ [b]) = if 9223372036854775807 < b then 18446744073709551615 else 0 := by simp [byW]
/-- One word more, as those behind the last one are: the same number. -/
theorem sv_more : ∀ (ws : List Int), ws ≠ [] → wdR ws → sv (ws ++ [byW ws]) = sv ws
  | [], h, _ => absurd rfl h
  | [x], _, hw => by
    have hx := hw x (by simp)
    by_cases h : 9223372036854775808 ≤ x
    · have hb : byW [x] = 18446744073709551615 := by simp [byW]; omega
      rw [hb]; simp only [List.cons_append, List.nil_append, sv, if_pos h]; simp; omega
    · have hb : byW [x] = 0 := by simp [byW]; omega
      rw [hb]; simp only [List.cons_append, List.nil_append, sv, if_neg h]; simp
  | x :: y :: r, _, hw => by
    have ih := sv_more (y :: r) (by simp) (wdR_tail hw)
    rw [byW_cons x (by simp), List.cons_append, sv_cons x (by simp), ih, sv_cons x (by simp)]
theorem wdR_app {a b : List Int} (ha : wdR a) (hb : wdR b) : wdR (a ++ b) := fun x hx => (List.mem_append.1 hx).elim (ha x) (hb x)
theorem byW_R (ws : List Int) : wdR [byW ws] := fun x hx => by
  have : x = byW ws := by simpa using hx
  rw [this]
  rcases byW_01 ws with h | h <;> rw [h] <;> omega
theorem byW_more (ws : List Int) : byW (ws ++ [byW ws]) = byW ws := by
  rw [byW_app]
  rcases byW_01 ws with h | h <;> rw [h] <;> simp
theorem extW_len (ws : List Int) (n : Nat) : (extW ws n).length = n := by simp [extW]
theorem extW_succ (ws : List Int) (n : Nat) : extW ws (n + 1) = extW ws n ++ [wordW ws n] := by simp [extW, List.range_succ]
theorem extW_own (ws : List Int) : extW ws ws.length = ws := by
  apply List.ext_getElem
  · simp [extW]
  · intro i h1 h2
    simp [extW, wordW, h2]
theorem wordW_far {ws : List Int} {n : Nat} (h : ws.length ≤ n) : wordW ws n = byW ws := by rw [wordW, dif_neg (by omega)]
theorem extW_far (ws : List Int) : ∀ k, wdR ws → ws ≠ [] → sv (extW ws (ws.length + k)) = sv ws ∧ wdR (extW ws (ws.length + k)) ∧ byW (extW ws (ws.length + k)) = byW ws
  | 0, hw, _ => by rw [Nat.add_zero, extW_own]; exact ⟨rfl, hw, rfl⟩
  | k + 1, hw, hn => by
    obtain ⟨h1, h2, h3⟩ := extW_far ws k hw hn
    have hne : extW ws (ws.length + k) ≠ [] := by
      intro e
      have := extW_len ws (ws.length + k)
      rw [e] at this
      have : ws.length = 0 := by simp at this; omega
      exact hn (List.length_eq_zero_iff.1 this)
    rw [← Nat.add_assoc, extW_succ, wordW_far (by omega), ← h3]
    exact ⟨by rw [sv_more _ hne h2, h1], wdR_app h2 (byW_R _), byW_more _⟩
theorem extW_nil : ∀ n, sv (extW [] n) = 0 ∧ wdR (extW [] n)
  | 0 => ⟨rfl, fun x hx => by simp [extW] at hx⟩
  | n + 1 => by
    have hz : ∀ x ∈ extW [] (n + 1), x = 0 := fun x hx => by
      simp only [extW, List.mem_map] at hx
      obtain ⟨i, _, rfl⟩ := hx
      simp [wordW, byW]
    have sv_z : ∀ l : List Int, (∀ x ∈ l, x = 0) → sv l = 0 := fun l => by
      induction l with
      | nil => intro _; rfl
      | cons x r ih =>
        intro h
        have hx := h x (by simp)
        have hr := ih (fun y hy => h y (by simp [hy]))
        by_cases hn : r = []
        · subst hn; subst hx; rfl
        · rw [sv_cons x hn, hr, hx]; rfl
    exact ⟨sv_z _ hz, fun x hx => by rw [hz x hx]; omega⟩
/-- Words behind which there are just signs, and there is one such. -/
theorem extW_any (ws : List Int) (n : Nat) (hw : wdR ws) (hn : ws.length < n) : sv (extW ws n) = sv ws ∧ wdR (extW ws n) ∧ ∃ a t, extW ws n = a ++ [t] ∧ (t = 0 ∨ t = 18446744073709551615) := by
  obtain ⟨k, rfl⟩ : ∃ k, n = k + 1 := ⟨n - 1, by omega⟩
  refine ⟨?_, ?_, extW ws k, wordW ws k, extW_succ _ _, by rw [wordW_far (by omega)]; exact byW_01 _⟩
  · by_cases h : ws = []
    · subst h; rw [(extW_nil _).1]; rfl
    · obtain ⟨j, hj⟩ : ∃ j, k + 1 = ws.length + j := ⟨k + 1 - ws.length, by omega⟩
      rw [hj]; exact (extW_far ws j hw h).1
  · by_cases h : ws = []
    · subst h; exact (extW_nil _).2
    · obtain ⟨j, hj⟩ : ∃ j, k + 1 = ws.length + j := ⟨k + 1 - ws.length, by omega⟩
      rw [hj]; exact (extW_far ws j hw h).2.1
theorem addW_R : ∀ (a b : List Int) (c : Int), wdR (addW a b c)
  | [], _, _ => by intro x hx; simp [addW] at hx
  | x :: a, [], _ => by intro x hx; simp [addW] at hx
  | x :: a, y :: b, c => by
    intro z hz
    rw [addW] at hz
    rcases List.mem_cons.1 hz with rfl | h
    · omega
    · exact addW_R a b _ z h
theorem addW_len : ∀ (a b : List Int) (c : Int), a.length = b.length → (addW a b c).length = a.length
  | [], [], _, _ => rfl
  | x :: a, [], _, h => by simp at h
  | [], y :: b, _, h => by simp at h
  | x :: a, y :: b, c, h => by rw [addW, List.length_cons, addW_len a b _ (by simpa using h), List.length_cons]
theorem carW_01 : ∀ (a b : List Int) (c : Int), wdR a → wdR b → (c = 0 ∨ c = 1) → carW a b c = 0 ∨ carW a b c = 1
  | [], _, c, _, _, h => by simpa [carW] using h
  | x :: a, [], c, _, _, h => by simpa [carW] using h
  | x :: a, y :: b, c, ha, hb, h => by
    rw [carW]
    refine carW_01 a b _ (wdR_tail ha) (wdR_tail hb) ?_
    have := ha x (by simp); have := hb y (by simp)
    omega
theorem addW_app : ∀ (a b : List Int) (c x y : Int), a.length = b.length → addW (a ++ [x]) (b ++ [y]) c = addW a b c ++ [(x + y + carW a b c) % 18446744073709551616] ∧ carW (a ++ [x]) (b ++ [y]) c = (x + y + carW a b c) / 18446744073709551616
  | [], [], c, x, y, _ => by simp [addW, carW]
  | _ :: _, [], _, _, _, h => by simp at h
  | [], _ :: _, _, _, _, h => by simp at h
  | p :: a, q :: b, c, x, y, h => by
    obtain ⟨h1, h2⟩ := addW_app a b ((p + q + c) / 18446744073709551616) x y (by simpa using h)
    simp only [List.cons_append, addW, carW, h1, h2, and_self]
theorem sv_add : ∀ (a b : List Int) (c x y : Int), a.length = b.length → wdR (a ++ [x]) → wdR (b ++ [y]) → (x = 0 ∨ x = 18446744073709551615) → (y = 0 ∨ y = 18446744073709551615) → (c = 0 ∨ c = 1) → sv (addW (a ++ [x]) (b ++ [y]) c) = sv (a ++ [x]) + sv (b ++ [y]) + c
  | [], [], c, x, y, _, _, _, hx, hy, hc => by
    simp only [List.nil_append, addW, sv]
    rcases hx with rfl | rfl <;> rcases hy with rfl | rfl <;> rcases hc with rfl | rfl <;> decide
  | _ :: _, [], _, _, _, h, _, _, _, _, _ => by simp at h
  | [], _ :: _, _, _, _, h, _, _, _, _, _ => by simp at h
  | p :: a, q :: b, c, x, y, h, ha, hb, hx, hy, hc => by
    have hp := ha p (by simp); have hq := hb q (by simp)
    have ih := sv_add a b ((p + q + c) / 18446744073709551616) x y (by simpa using h) (wdR_tail ha) (wdR_tail hb) hx hy (by omega)
    have hne : addW (a ++ [x]) (b ++ [y]) ((p + q + c) / 18446744073709551616) ≠ [] := by
      intro e
      have := addW_len (a ++ [x]) (b ++ [y]) ((p + q + c) / 18446744073709551616) (by simpa using h)
      rw [e] at this; simp at this
    rw [List.cons_append, List.cons_append, addW, sv_cons _ hne, ih, sv_cons p (by simp), sv_cons q (by simp)]
    omega
/-- The words of a sum, ahead of being made short. -/
def sumW (a b : List Int) : List Int := addW (extW a (max a.length b.length + 1)) (extW b (max a.length b.length + 1)) 0
theorem sumW_is (a b : List Int) (ha : wdR a) (hb : wdR b) : sv (sumW a b) = sv a + sv b ∧ wdR (sumW a b) ∧ (sumW a b).length = max a.length b.length + 1 := by
  obtain ⟨h1, h2, p, x, e1, hx⟩ := extW_any a (max a.length b.length + 1) ha (by omega)
  obtain ⟨k1, k2, q, y, e2, hy⟩ := extW_any b (max a.length b.length + 1) hb (by omega)
  have hl1 := extW_len a (max a.length b.length + 1)
  have hl2 := extW_len b (max a.length b.length + 1)
  refine ⟨?_, addW_R _ _ _, by rw [sumW, addW_len _ _ _ (by rw [hl1, hl2]), hl1]⟩
  rw [sumW, e1, e2, sv_add p q 0 x y (by rw [e1] at hl1; rw [e2] at hl2; simp at hl1 hl2; omega) (by rw [← e1]; exact h2) (by rw [← e2]; exact k2) hx hy (.inl rfl), ← e1, ← e2, h1, k1]
  omega
/-- Is the last word so without being there? -/
def cutW (ws : List Int) (k : Nat) : Bool := decide (0 < k) && (wordW ws k == byW (ws.take k))
/-- How many words are left of the first k + 1. -/
def shN (ws : List Int) : Nat → Nat
  | 0 => 1
  | k + 1 => if cutW ws (k + 1) = true then shN ws k else k + 2
def shW (ws : List Int) : List Int := ws.take (shN ws (ws.length - 1))
/-- No word too many. -/
def Short (ws : List Int) : Prop := ∀ a t, ws = a ++ [t] → a ≠ [] → t ≠ byW a
theorem shN_pos (ws : List Int) : ∀ k, 1 ≤ shN ws k ∧ shN ws k ≤ k + 1
  | 0 => by simp [shN]
  | k + 1 => by
    rw [shN]
    have := shN_pos ws k
    split <;> omega
theorem sv_shN (ws : List Int) (hw : wdR ws) : ∀ k, k < ws.length → sv (ws.take (shN ws k)) = sv (ws.take (k + 1)) ∧ Short (ws.take (shN ws k))
  | 0, h => by
    refine ⟨rfl, fun a t e hn => ?_⟩
    have := congrArg List.length e
    simp [shN] at this
    have : a.length = 0 := by omega
    exact absurd (List.length_eq_zero_iff.1 this) hn
  | k + 1, h => by
    rw [shN]
    have ht : ws.take (k + 1 + 1) = ws.take (k + 1) ++ [ws[k + 1]] := List.take_succ_eq_append_getElem h
    have hw1 : wordW ws (k + 1) = ws[k + 1] := by rw [wordW, dif_pos h]
    by_cases hc : cutW ws (k + 1) = true
    · rw [if_pos hc]
      obtain ⟨i1, i2⟩ := sv_shN ws hw k (by omega)
      refine ⟨?_, i2⟩
      have he : ws[k + 1] = byW (ws.take (k + 1)) := by
        simp only [cutW, Bool.and_eq_true, beq_iff_eq, hw1] at hc
        exact hc.2
      rw [i1, ht, he, sv_more _ (by intro e; have := congrArg List.length e; rw [List.length_take, List.length_nil] at this; omega) (fun x hx => hw x (List.mem_of_mem_take hx))]
    · rw [if_neg hc]
      refine ⟨rfl, fun a t e hn et => hc ?_⟩
      rw [ht] at e
      obtain ⟨e1, e2⟩ := List.append_inj' e rfl
      simp only [List.cons.injEq, and_true] at e2
      simp only [cutW, Bool.and_eq_true, beq_iff_eq, hw1]
      exact ⟨by simp, by rw [e1, e2, et]⟩
theorem shW_is (ws : List Int) (hw : wdR ws) (hn : ws ≠ []) : sv (shW ws) = sv ws ∧ Short (shW ws) ∧ wdR (shW ws) ∧ (shW ws).length ≤ ws.length := by
  have hl : 0 < ws.length := by cases ws with
    | nil => exact absurd rfl hn
    | cons x r => simp
  obtain ⟨h1, h2⟩ := sv_shN ws hw (ws.length - 1) (by omega)
  refine ⟨?_, h2, fun x hx => hw x (List.mem_of_mem_take hx), by rw [shW, List.length_take]; omega⟩
  rw [shW, h1, show ws.length - 1 + 1 = ws.length by omega, List.take_length]
theorem Short.tail {x : Int} {r : List Int} (h : Short (x :: r)) : Short r := fun a t e hn et => h (x :: a) t (by rw [e]; rfl) (by simp) (by rw [byW_cons x hn]; exact et)
/-- Of two words or more, and none too many, the number is beyond one word. -/
theorem short_far : ∀ (ws : List Int), wdR ws → Short ws → 2 ≤ ws.length → sv ws < -9223372036854775808 ∨ 9223372036854775807 < sv ws
  | [], _, _, h => by simp at h
  | [_], _, _, h => by simp at h
  | [x, y], hw, hs, _ => by
    have hx := hw x (by simp); have hy := hw y (by simp)
    have hne := hs [x] y rfl (by simp)
    have hb : byW [x] = if 9223372036854775807 < x then 18446744073709551615 else 0 := rfl
    rw [hb] at hne
    simp only [sv]
    split at hne <;> split <;> omega
  | x :: y :: z :: r, hw, hs, _ => by
    have hx := hw x (by simp)
    have ih := short_far (y :: z :: r) (wdR_tail hw) hs.tail (by simp)
    rw [sv_cons x (by simp)]
    omega
theorem short_two (ws : List Int) (hw : wdR ws) (hs : Short ws) (h : -170141183460469231731687303715884105728 ≤ sv ws ∧ sv ws < 170141183460469231731687303715884105728) : ws.length ≤ 2 := by
  match ws, hw, hs, h with
  | [], _, _, _ => simp
  | [_], _, _, _ => simp
  | [_, _], _, _, _ => simp
  | x :: y :: z :: r, hw, hs, h =>
    exfalso
    have hx := hw x (by simp)
    have ih := short_far (y :: z :: r) (wdR_tail hw) hs.tail (by simp)
    rw [sv_cons x (by simp)] at h
    omega
/-- Of one word at most, the number. -/
theorem one_is (ws : List Int) (hw : wdR ws) (hl : ws.length ≤ 1) : sv ws = (if 9223372036854775808 ≤ wordW ws 0 then wordW ws 0 - 18446744073709551616 else wordW ws 0) ∧ -9223372036854775808 ≤ sv ws ∧ sv ws ≤ 9223372036854775807 := by
  match ws, hw, hl with
  | [], _, _ => simp [sv, wordW, byW]
  | [x], hw, _ =>
    have hx := hw x (by simp)
    simp only [sv, wordW]
    simp
    split <;> omega
  | _ :: _ :: _, _, h => simp at h
theorem sv_one (n : Int) (h : -9223372036854775808 ≤ n ∧ n ≤ 9223372036854775807) : sv [n % 18446744073709551616] = n := by
  simp only [sv]
  split <;> omega
end Go.Proofs.YtfonalmgdjboeaaDoor
namespace Go.Proofs.YtfonalmgdjboeaaDoor
open Go.RowKit

theorem ret_int {k : IntKind} {a b : Int} (h : a = b) : Ending.returned (.int k a) = .returned (.int k b) := by rw [h]
theorem ret_bool {a b : Bool} (h : a = b) : Ending.returned (.bool a) = .returned (.bool b) := by rw [h]

/-- Has a text just the bytes that it may? -/
def plainB (l : List UInt8) : Bool := l.all fun c => decide (32 ≤ (c.toNat : Int)) && decide ((c.toNat : Int) ≤ 126)
theorem plain_take (s : ByteArray) (k : Nat) (h : k < s.size) : plainB (s.data.toList.take (k + 1)) = (plainB (s.data.toList.take k) && (decide (32 ≤ (s[k].toNat : Int)) && decide ((s[k].toNat : Int) ≤ 126))) := by
  rw [List.take_succ_eq_append_getElem (by simpa using h)]
  simp only [plainB, List.all_append, List.all_cons, List.all_nil, Bool.and_true]
  rfl
theorem plain_not (s : ByteArray) (k : Nat) (h : k < s.size) (hc : (s[k].toNat : Int) < 32 ∨ 126 < (s[k].toNat : Int)) : plainB s.data.toList = false := by
  have h2 : plainB (s.data.toList.take (k + 1)) = false := by
    rw [plain_take s k h]
    have : (decide (32 ≤ (s[k].toNat : Int)) && decide ((s[k].toNat : Int) ≤ 126)) = false := by
      rw [Bool.and_eq_false_iff, decide_eq_false_iff_not, decide_eq_false_iff_not]; omega
    rw [this, Bool.and_false]
  cases hp : plainB s.data.toList with
  | false => rfl
  | true =>
    exfalso
    have h3 : plainB (s.data.toList.take (k + 1)) = true := by
      simp only [plainB, List.all_eq_true] at hp ⊢
      exact fun x hx => hp x (List.mem_of_mem_take hx)
    rw [h2] at h3; exact Bool.noConfusion h3
theorem plain_of (s : ByteArray) (k : Nat) (h : s.size ≤ k) (hp : plainB (s.data.toList.take k) = true) : plainB s.data.toList = true := by
  rwa [List.take_of_length_le (by simpa using h)] at hp

set_option maxHeartbeats 400000 in
theorem hasTextBytes_any (s : ByteArray) (w : World) (hs : s.size ≤ maxLen) :
    Calls Tryd.prog 59 #[.string s] w fun e w' => e = .returned (.bool (plainB s.data.toList)) ∧ w' = w := by
  unfold maxLen at hs
  go_enter Tryd.func59, Tryd.ntmps59
  go_wp2
  go_loop [3] (fun i => ∃ k : Nat, k ≤ s.size ∧ i = .int .i64 k ∧ plainB (s.data.toList.take k) = true) (fun i => s.size - (intOf i).toNat)
  case atStart => exact ⟨0, Nat.zero_le _, rfl, rfl⟩
  case round =>
    obtain ⟨k, hk, rfl, hp⟩ := hrel
    have HP : Hid (plainB (s.data.toList.take k) = true) := hp
    clear hp
    by_cases hlt : k < s.size
    · have HN : Hid (∀ _ : (s[k].toNat : Int) < 32 ∨ 126 < (s[k].toNat : Int), plainB s.data.toList = false) := plain_not s k hlt
      have HT : Hid (plainB (s.data.toList.take (k + 1)) = (plainB (s.data.toList.take k) && (decide (32 ≤ (s[k].toNat : Int)) && decide ((s[k].toNat : Int) ≤ 126)))) := plain_take s k hlt
      go_wp2
      · go_ret
        exact ⟨ret_bool (HN.out (by omega)).symm, rfl⟩
      · go_round
        case rel =>
          refine ⟨k + 1, by omega, by go_num, ?_⟩
          rw [HT.out, HP.out]
          simp only [Bool.true_and, Bool.and_eq_true, decide_eq_true_eq]
          assumption
        case measure => simp [intOf]; omega
      · go_ret
        exact ⟨ret_bool (HN.out (by omega)).symm, rfl⟩
    · have HO := plain_of s k (by omega) HP.out
      go_wp2
      go_ret
      exact ⟨rfl, rfl⟩
/-- The fault of a value. -/
def chk (t n : Int) (l : List UInt8) : Int :=
  if ¬ (t = 1 ∨ t = 2 ∨ t = 3) ∨ (t = 2 ∧ n ≠ 0 ∧ n ≠ 1) then 1
  else if t = 3 ∧ 40 < l.length then 4
  else if t = 3 ∧ plainB l = false then 2
  else if (t ≠ 3 ∧ l ≠ []) ∨ (t = 3 ∧ n ≠ 0) then 3 else 0
/-- An error by its number. -/
def errV (k : Int) : Value := if k = 0 then .nilIface else .iface 53 (.int .i64 k)

theorem isType_yes (t : Int) (w : World) (h : t = 1 ∨ t = 2 ∨ t = 3) : Calls Tryd.prog 38 #[.int .i64 t] w fun e w' => e = .returned (.bool true) ∧ w' = w := by
  rcases h with rfl | rfl | rfl
  all_goals
    go_enter Tryd.func38, Tryd.ntmps38
    go_wp2
    go_ret
    exact ⟨rfl, rfl⟩
theorem isType_no (t : Int) (w : World) (h : ¬ (t = 1 ∨ t = 2 ∨ t = 3)) : Calls Tryd.prog 38 #[.int .i64 t] w fun e w' => e = .returned (.bool false) ∧ w' = w := by
  have h1 : (t == 1) = false := by simp; omega
  have h2 : (t == 2) = false := by simp; omega
  have h3 : (t == 3) = false := by simp; omega
  go_enter Tryd.func38, Tryd.ntmps38
  go_wp2
  go_ret
  exact ⟨rfl, rfl⟩

theorem errV_eq {k j : Int} (h : k = j) (hj : j ≠ 0) : Ending.returned (.iface 53 (.int .i64 j)) = .returned (errV k) := by
  rw [errV, if_neg (by omega), h]
theorem errV_nil {k : Int} (h : k = 0) : Ending.returned .nilIface = .returned (errV k) := by
  rw [errV, if_pos h]

def chkT (n : Int) (l : List UInt8) : Int := if 40 < l.length then 4 else if plainB l = false then 2 else if n ≠ 0 then 3 else 0
theorem chk_text (n : Int) (l : List UInt8) : chk 3 n l = chkT n l := by
  rw [chk, chkT, if_neg (by simp)]
  simp
set_option maxHeartbeats 1000000 in
theorem checkText_any (t n : Int) (s : ByteArray) (w : World) (hs : s.size ≤ maxLen) :
    Calls Tryd.prog 52 #[.agg #[.int .i64 t, .int .i64 n, .string s]] w fun e w' => e = .returned (errV (chkT n s.data.toList)) ∧ Below w.heap.size w w' := by
  have hs2 := hs
  unfold maxLen at hs2
  generalize hc : chkT n s.data.toList = c
  have HC : Hid (chkT n s.data.toList = c) := hc
  clear hc
  go_enter Tryd.func52, Tryd.ntmps52
  go_wp2_with (first | (go_at_call 59; refine (hasTextBytes_any _ _ hs).mono ?_; rintro e w' ⟨rfl, rfl⟩))
  all_goals
    go_ret
    refine ⟨?_, by repeat (first | exact Below.refl _ _ | (refine Below.alloc ?_ (by simp) _))⟩
    have hd : s.data.toList.length = s.size := by simp
    have hc := HC.out
    clear HC hs
    rw [chkT] at hc
    simp only [bne_iff_ne, bne_eq_false_iff_eq, Bool.not_eq_true', Bool.not_eq_false'] at *
  all_goals
    repeat' split at hc
  all_goals subst hc
  all_goals first | exact errV_eq rfl (by decide) | exact errV_nil rfl | (exfalso; omega) | (exfalso; simp_all; done) | (exfalso; simp_all; omega)
set_option maxHeartbeats 1000000 in
theorem check_any (t n : Int) (s : ByteArray) (w : World) (hs : s.size ≤ maxLen) :
    Calls Tryd.prog 41 #[.agg #[.int .i64 t, .int .i64 n, .string s]] w fun e w' => e = .returned (errV (chk t n s.data.toList)) ∧ Below w.heap.size w w' := by
  have hs2 := hs
  unfold maxLen at hs2
  by_cases h3 : t = 3
  · subst h3
    rw [chk_text]
    go_enter Tryd.func41, Tryd.ntmps41
    go_wp2_with (first | (go_at_call 38; refine (isType_yes _ _ (by omega)).mono ?_; rintro e w' ⟨rfl, rfl⟩) | (go_at_call 52; refine (checkText_any _ _ _ _ hs).mono ?_; rintro e w' ⟨rfl, hbT⟩))
    go_ret
    exact ⟨rfl, (((Below.refl _ _).alloc (Nat.le_refl _) _)).trans (hbT.mono (by simp))⟩
  · by_cases ht : t = 1 ∨ t = 2 ∨ t = 3
    · generalize hc : chk t n s.data.toList = c
      have HC : Hid (chk t n s.data.toList = c) := hc
      clear hc
      have e3 : (t == 3) = false := by simpa using h3
      have HT : Hid (t = 1 ∨ t = 2 ∨ t = 3) := ht
      go_enter Tryd.func41, Tryd.ntmps41
      go_wp2_with (first | (go_at_call 38; refine (isType_yes _ _ HT.out).mono ?_; rintro e w' ⟨rfl, rfl⟩))
      all_goals
        go_ret
        refine ⟨?_, by repeat (first | exact Below.refl _ _ | (refine Below.alloc ?_ (by simp) _))⟩
        have hd : s.data.toList.length = s.size := by simp
        have hc := HC.out
        have htt := HT.out
        clear HC HT hs
        rw [chk] at hc
        simp only [Lib.toList_data, bne_iff_ne, bne_eq_false_iff_eq, Bool.not_eq_true', Bool.not_eq_false'] at *
      all_goals
        repeat' split at hc
      all_goals subst hc
      all_goals first | exact errV_eq rfl (by decide) | exact errV_nil rfl | (exfalso; omega) | (exfalso; simp_all; done) | (exfalso; simp_all; omega)
    · have hc : chk t n s.data.toList = 1 := by rw [chk, if_pos (Or.inl ht)]
      have HC : Hid (chk t n s.data.toList = 1) := hc
      clear hc
      have HT : Hid (¬ (t = 1 ∨ t = 2 ∨ t = 3)) := ht
      clear ht h3
      go_enter Tryd.func41, Tryd.ntmps41
      go_wp2_with (first | (go_at_call 38; refine (isType_no _ _ HT.out).mono ?_; rintro e w' ⟨rfl, rfl⟩))
      go_ret
      exact ⟨errV_eq HC.out (by omega), by repeat (first | exact Below.refl _ _ | (refine Below.alloc ?_ (by simp) _))⟩
end Go.Proofs.YtfonalmgdjboeaaDoor
namespace Go.Proofs.YtfonalmgdjboeaaDoor
open Go.RowKit

theorem bytesLess_lt : ∀ (x y : List UInt8), Op.bytesLess x y = decide (x < y)
  | [], [] => by simp [Op.bytesLess]
  | _ :: _, [] => by simp [Op.bytesLess]
  | [], _ :: _ => by simp [Op.bytesLess]
  | a :: x, b :: y => by
    rw [Op.bytesLess, bytesLess_lt x y]
    simp only [List.cons_lt_cons_iff]
    by_cases h1 : a < b <;> by_cases h2 : a = b <;> by_cases h3 : x < y <;> simp [h1, h2, h3]

def cmpI (x y : Int) : Int := if x < y then -1 else if y < x then 1 else 0
def cmpS (x y : List UInt8) : Int := if x < y then -1 else if y < x then 1 else 0

theorem cmp_int (x y : Int) (w : World) : Calls Tryd.prog 65 #[.int .i64 x, .int .i64 y] w fun e w' => e = .returned (.int .i64 (cmpI x y)) ∧ w' = w := by
  have hx : (x != x) = false := by simp
  by_cases h1 : x < y
  · have hc : cmpI x y = -1 := by rw [cmpI, if_pos h1]
    rw [hc]
    go_enter Tryd.func65, Tryd.ntmps65
    go_wp2
    go_ret
    exact ⟨rfl, rfl⟩
  · by_cases h2 : y < x
    · have hc : cmpI x y = 1 := by rw [cmpI, if_neg h1, if_pos h2]
      rw [hc]
      go_enter Tryd.func65, Tryd.ntmps65
      go_wp2
      go_ret
      exact ⟨rfl, rfl⟩
    · have hc : cmpI x y = 0 := by rw [cmpI, if_neg h1, if_neg h2]
      rw [hc]
      go_enter Tryd.func65, Tryd.ntmps65
      go_wp2
      go_ret
      exact ⟨rfl, rfl⟩
theorem run_gtr_str (x y : ByteArray) (w : World) : Sem.run Tryd.prog (binOp .gtr 9 (.string x) (.string y)) w = .ok (.bool !(Op.bytesLess x.toList y.toList || x.toList == y.toList)) w := by
  simp [binOp, Op.stringOp]
theorem cmp_str (x y : ByteArray) (w : World) : Calls Tryd.prog 64 #[.string x, .string y] w fun e w' => e = .returned (.int .i64 (cmpS x.data.toList y.data.toList)) ∧ w' = w := by
  by_cases h1 : x.data.toList < y.data.toList
  · have hc : cmpS x.data.toList y.data.toList = -1 := by rw [cmpS, if_pos h1]
    have hl : Op.bytesLess x.toList y.toList = true := by rw [bytesLess_lt, Lib.toList_data, Lib.toList_data]; simpa using h1
    rw [hc]
    clear h1 hc
    go_enter Tryd.func64, Tryd.ntmps64
    go_wp2
    go_ret
    exact ⟨rfl, rfl⟩
  · have hl : Op.bytesLess x.toList y.toList = false := by rw [bytesLess_lt, Lib.toList_data, Lib.toList_data]; simpa using h1
    by_cases h2 : y.data.toList < x.data.toList
    · have hc : cmpS x.data.toList y.data.toList = 1 := by rw [cmpS, if_neg h1, if_pos h2]
      have hm : ¬ x.toList = y.toList := by rw [Lib.toList_data, Lib.toList_data]; intro e; rw [e] at h2; exact List.lt_irrefl _ h2
      have hq : (x.toList == y.toList) = false := by simpa using hm
      have hr := run_gtr_str x y w
      rw [hl, hq] at hr
      clear hm hq
      rw [hc]
      clear h1 h2 hc
      go_enter Tryd.func64, Tryd.ntmps64
      go_wp2
      go_ret
      exact ⟨rfl, rfl⟩
    · have hc : cmpS x.data.toList y.data.toList = 0 := by rw [cmpS, if_neg h1, if_neg h2]
      have hm : x.data.toList = y.data.toList := List.le_antisymm (List.not_lt.1 h2) (List.not_lt.1 h1)
      obtain rfl : x = y := by cases x; cases y; simp_all
      have hr := run_gtr_str x x w
      rw [hl, beq_self_eq_true] at hr
      rw [hc]
      clear h1 h2 hc
      go_enter Tryd.func64, Tryd.ntmps64
      go_wp2
      go_ret
      exact ⟨rfl, rfl⟩

theorem bcell {W w1 : World} (hb : Below W.heap.size W w1) : (∀ b o, b < W.heap.size → w1.cell? ⟨b, o, none⟩ = W.cell? ⟨b, o, none⟩) ∧ (∀ b o, b < W.heap.size → w1.frozen? ⟨b, o, none⟩ = W.frozen? ⟨b, o, none⟩) :=
  ⟨fun b o h => hb.cell (p := ⟨b, o, none⟩) h, fun b o h => hb.frozen (p := ⟨b, o, none⟩) h⟩
theorem check_ok (t n : Int) (s : ByteArray) (w : World) (hs : s.size ≤ maxLen) (h : chk t n s.data.toList = 0) :
    Calls Tryd.prog 41 #[.agg #[.int .i64 t, .int .i64 n, .string s]] w fun e w' => e = .returned .nilIface ∧ Below w.heap.size w w' :=
  (check_any t n s w hs).mono fun e w' hh => ⟨by rw [hh.1, h, errV, if_pos rfl], hh.2⟩
theorem check_bad (t n : Int) (s : ByteArray) (w : World) (hs : s.size ≤ maxLen) (h : chk t n s.data.toList ≠ 0) :
    Calls Tryd.prog 41 #[.agg #[.int .i64 t, .int .i64 n, .string s]] w fun e w' => e = .returned (.iface 53 (.int .i64 (chk t n s.data.toList))) ∧ Below w.heap.size w w' :=
  (check_any t n s w hs).mono fun e w' hh => ⟨by rw [hh.1, errV, if_neg h], hh.2⟩

def cmpE (t n : Int) (l : List UInt8) (t' n' : Int) (l' : List UInt8) : Int :=
  if chk t n l ≠ 0 then chk t n l else if chk t' n' l' ≠ 0 then chk t' n' l' else if t ≠ t' then 8 else 0
def cmpN (t n : Int) (l : List UInt8) (t' n' : Int) (l' : List UInt8) : Int :=
  if cmpE t n l t' n' l' ≠ 0 then 0 else if t = 3 then cmpS l l' else cmpI n n'
theorem cmp_ret {a b j : Int} {x : Value} (ha : a = b) (hx : x = errV j) : Ending.returned (.tuple #[.int .i64 a, x]) = .returned (.tuple #[.int .i64 b, errV j]) := by rw [ha, hx]

set_option maxHeartbeats 1000000 in
theorem compare_any (t n : Int) (s : ByteArray) (t' n' : Int) (s' : ByteArray) (w : World) (hs : s.size ≤ maxLen) (hs' : s'.size ≤ maxLen) :
    Calls Tryd.prog 62 #[.agg #[.int .i64 t, .int .i64 n, .string s], .agg #[.int .i64 t', .int .i64 n', .string s']] w fun e w' => e = .returned (.tuple #[.int .i64 (cmpN t n s.data.toList t' n' s'.data.toList), errV (cmpE t n s.data.toList t' n' s'.data.toList)]) ∧ Below w.heap.size w w' := by
  by_cases h1 : chk t n s.data.toList = 0
  · by_cases h2 : chk t' n' s'.data.toList = 0
    · have H1 : Hid (chk t n s.data.toList = 0) := h1
      have H2 : Hid (chk t' n' s'.data.toList = 0) := h2
      have HE : Hid (cmpE t n s.data.toList t' n' s'.data.toList = if t ≠ t' then 8 else 0) := by rw [cmpE, if_neg (by simp [h1]), if_neg (by simp [h2])]; exact rfl
      clear h1 h2
      go_enter Tryd.func62, Tryd.ntmps62
      go_wp2_with fail
      refine (check_ok _ _ _ _ hs H1.out).mono ?_
      rintro e w1 ⟨rfl, b1⟩
      obtain ⟨hc, hf⟩ := bcell b1
      have hz : w.heap.size + 1 < w1.heap.size := by have := b1.size; simp at this; omega
      have hy : w.heap.size < w1.heap.size := by omega
      go_wp2_with fail
      refine (check_ok _ _ _ _ hs' H2.out).mono ?_
      rintro e w2 ⟨rfl, b2⟩
      obtain ⟨hc2, hf2⟩ := bcell b2
      have hz2 : w.heap.size + 1 < w2.heap.size := by have := b2.size; omega
      by_cases ht : t = t'
      · subst ht
        have hE : cmpE t n s.data.toList t n' s'.data.toList = 0 := by rw [HE.out, if_neg (by simp)]
        by_cases h3 : t = 3
        · subst h3
          have HN : Hid (cmpN 3 n s.data.toList 3 n' s'.data.toList = cmpS s.data.toList s'.data.toList) := by rw [cmpN, if_neg (by simp [hE]), if_pos rfl]; exact rfl
          have HE2 : Hid (cmpE 3 n s.data.toList 3 n' s'.data.toList = 0) := hE
          clear hE HE
          go_wp2_with fail
          refine (cmp_str s s' _).mono ?_
          rintro e w3 ⟨rfl, rfl⟩
          go_wp2
          go_ret2
          refine ⟨cmp_ret HN.out.symm (by rw [HE2.out, errV, if_pos rfl]; rfl), ?_⟩
          exact (((Below.refl _ _).alloc (Nat.le_refl _) _).alloc (by simp) _).trans ((b1.mono (by simp; omega)).trans (b2.mono (by omega)))
        · have HN : Hid (cmpN t n s.data.toList t n' s'.data.toList = cmpI n n') := by rw [cmpN, if_neg (by simp [hE]), if_neg h3]; exact rfl
          have HE2 : Hid (cmpE t n s.data.toList t n' s'.data.toList = 0) := hE
          clear hE HE
          have e3 : (t == 3) = false := by simpa using h3
          go_wp2_with fail
          refine (cmp_int n n' _).mono ?_
          rintro e w3 ⟨rfl, rfl⟩
          go_wp2
          go_ret2
          refine ⟨cmp_ret HN.out.symm (by rw [HE2.out, errV, if_pos rfl]; rfl), ?_⟩
          exact (((Below.refl _ _).alloc (Nat.le_refl _) _).alloc (by simp) _).trans ((b1.mono (by simp; omega)).trans (b2.mono (by omega)))
      · have hE : cmpE t n s.data.toList t' n' s'.data.toList = 8 := by rw [HE.out, if_pos ht]
        have HN : Hid (cmpN t n s.data.toList t' n' s'.data.toList = 0) := by rw [cmpN, if_pos (by rw [hE]; decide)]; exact rfl
        have HE2 : Hid (cmpE t n s.data.toList t' n' s'.data.toList = 8) := hE
        clear hE HE
        have et : (t != t') = true := by simpa using ht
        go_wp2
        go_ret2
        refine ⟨cmp_ret HN.out.symm (by rw [HE2.out, errV, if_neg (by decide)]; rfl), ?_⟩
        exact (((Below.refl _ _).alloc (Nat.le_refl _) _).alloc (by simp) _).trans ((b1.mono (by simp; omega)).trans (b2.mono (by omega)))
    · have H1 : Hid (chk t n s.data.toList = 0) := h1
      have H2 : Hid (chk t' n' s'.data.toList ≠ 0) := h2
      have HE : Hid (cmpE t n s.data.toList t' n' s'.data.toList = chk t' n' s'.data.toList) := by rw [cmpE, if_neg (by simp [h1]), if_pos h2]; exact rfl
      clear h1 h2
      go_enter Tryd.func62, Tryd.ntmps62
      go_wp2_with fail
      refine (check_ok _ _ _ _ hs H1.out).mono ?_
      rintro e w1 ⟨rfl, b1⟩
      obtain ⟨hc, hf⟩ := bcell b1
      have hz : w.heap.size + 1 < w1.heap.size := by have := b1.size; simp at this; omega
      have hy : w.heap.size < w1.heap.size := by omega
      go_wp2_with fail
      refine (check_bad _ _ _ _ hs' H2.out).mono ?_
      rintro e w2 ⟨rfl, b2⟩
      go_wp2
      go_ret2
      refine ⟨?_, ?_⟩
      · have hE := HE.out
        refine cmp_ret ?_ ?_
        · rw [cmpN, if_pos (by rw [hE]; exact H2.out)]
        · rw [hE, errV, if_neg H2.out]; rfl
      · exact (((Below.refl _ _).alloc (Nat.le_refl _) _).alloc (by simp) _).trans ((b1.mono (by simp; omega)).trans (b2.mono (by omega)))
  · have H1 : Hid (chk t n s.data.toList ≠ 0) := h1
    have HE : Hid (cmpE t n s.data.toList t' n' s'.data.toList = chk t n s.data.toList) := by rw [cmpE, if_pos h1]; exact rfl
    clear h1
    go_enter Tryd.func62, Tryd.ntmps62
    go_wp2_with fail
    refine (check_bad _ _ _ _ hs H1.out).mono ?_
    rintro e w1 ⟨rfl, b1⟩
    go_wp2
    go_ret2
    refine ⟨?_, ?_⟩
    · have hE := HE.out
      refine cmp_ret ?_ ?_
      · rw [cmpN, if_pos (by rw [hE]; exact H1.out)]
      · rw [hE, errV, if_neg H1.out]; rfl
    · exact (((Below.refl _ _).alloc (Nat.le_refl _) _).alloc (by simp) _).trans (b1.mono (by simp; omega))
end Go.Proofs.YtfonalmgdjboeaaDoor
namespace Go.Proofs.YtfonalmgdjboeaaDoor
open Go.RowKit
set_option linter.unusedVariables false

/-- A value: its type, number and text. -/
abbrev V3 := Int × Int × ByteArray
def inB (n : Int) : Prop := -9223372036854775808 ≤ n ∧ n ≤ 9223372036854775807
def noV : V3 := (0, 0, ⟨#[]⟩)
/-- A value that is right. -/
def okV (t : Int) (v : V3) : Prop := v.1 = t ∧ chk v.1 v.2.1 v.2.2.data.toList = 0 ∧ inB v.2.1
theorem chk_two {n : Int} {l : List UInt8} (h : chk 2 n l = 0) : (n = 0 ∨ n = 1) ∧ l = [] := by
  unfold chk at h
  by_cases h0 : n = 0 ∨ n = 1
  · refine ⟨h0, ?_⟩
    by_cases hl : l = []
    · exact hl
    · simp [hl] at h
      split at h <;> omega
  · rw [if_pos (by right; simp at h0; exact ⟨rfl, h0⟩)] at h
    omega
theorem chk_one {n : Int} {l : List UInt8} (h : chk 1 n l = 0) : l = [] := by
  unfold chk at h
  by_cases hl : l = []
  · exact hl
  · simp [hl] at h
theorem chk_three {n : Int} {l : List UInt8} (h : chk 3 n l = 0) : l.length ≤ 40 ∧ n = 0 := by
  rw [chk_text, chkT] at h
  split at h
  · omega
  · split at h
    · omega
    · split at h
      · omega
      · rename_i h1 _ h3
        exact ⟨by omega, by simpa using h3⟩
theorem chk_size {t n : Int} {l : List UInt8} (h : chk t n l = 0) : l.length ≤ 40 := by
  by_cases h1 : t = 1
  · subst h1; rw [chk_one h]; simp
  · by_cases h2 : t = 2
    · subst h2; rw [(chk_two h).2]; simp
    · by_cases h3 : t = 3
      · subst h3; exact (chk_three h).1
      · unfold chk at h
        rw [if_pos (by left; omega)] at h
        omega
/-- What lies in a block that was made stays, where only later blocks turn. -/
theorem box_at (w : World) (cs : Array Value) (t : TypeId) {W : World} {n : Nat} (hb : Below n (w.alloc (.cells cs t)) W) (hn : w.heap.size < n) : (∀ i, W.cell? ⟨w.heap.size, i, none⟩ = cs[i]?) ∧ (∀ o, W.frozen? ⟨w.heap.size, o, none⟩ = false) ∧ w.heap.size < W.heap.size := by
  have hz := hb.size
  simp at hz
  exact ⟨fun i => by rw [hb.cell (p := ⟨w.heap.size, i, none⟩) hn, World.cell?_alloc_at _ _ _ _ rfl], fun o => by rw [hb.frozen (p := ⟨w.heap.size, o, none⟩) hn, World.frozen?_alloc_at _ _ _ _ rfl], by omega⟩
theorem alB (w : World) (o : Obj) : Below w.heap.size w (w.alloc o) := (Below.refl _ _).alloc (Nat.le_refl _) o
/-- Values one behind the other. -/
def ValsAt (w : World) (p : Option Addr) (vs : List V3) : Prop := vs.length = 0 ∨ ∃ b off, p = some ⟨b, off, none⟩ ∧ b < w.heap.size ∧ ∀ j (h : j < vs.length), w.cell? ⟨b, off + j * 3, none⟩ = some (.int .i64 vs[j].1) ∧ w.cell? ⟨b, off + j * 3 + 1, none⟩ = some (.int .i64 vs[j].2.1) ∧ w.cell? ⟨b, off + j * 3 + 2, none⟩ = some (.string vs[j].2.2)
theorem ValsAt.on {w w' : World} {p : Option Addr} {vs : List V3} (h : ValsAt w p vs) (hb : Below w.heap.size w w') : ValsAt w' p vs := by
  rcases h with h | ⟨b, off, e, hl, h⟩
  · exact .inl h
  · refine .inr ⟨b, off, e, by have := hb.size; omega, fun j hj => ?_⟩
    obtain ⟨h1, h2, h3⟩ := h j hj
    exact ⟨by rw [hb.cell (p := ⟨b, _, none⟩) hl]; exact h1, by rw [hb.cell (p := ⟨b, _, none⟩) hl]; exact h2, by rw [hb.cell (p := ⟨b, _, none⟩) hl]; exact h3⟩
/-- One value at a place. -/
def One (w : World) (b o : Nat) (t n : Int) (s : ByteArray) : Prop := w.cell? ⟨b, o, none⟩ = some (.int .i64 t) ∧ w.cell? ⟨b, o + 1, none⟩ = some (.int .i64 n) ∧ w.cell? ⟨b, o + 2, none⟩ = some (.string s)
theorem One.on {w w' : World} {b o : Nat} {t n : Int} {s : ByteArray} (h : One w b o t n s) (hl : b < w.heap.size) (hb : Below w.heap.size w w') : One w' b o t n s :=
  ⟨by rw [hb.cell (p := ⟨b, _, none⟩) hl]; exact h.1, by rw [hb.cell (p := ⟨b, _, none⟩) hl]; exact h.2.1, by rw [hb.cell (p := ⟨b, _, none⟩) hl]; exact h.2.2⟩
/-- A slice of values. -/
def ValsV (w : World) (v : Value) (rs : List V3) : Prop := ∃ q c, v = .slice q rs.length c ∧ rs.length ≤ maxLen ∧ ValsAt w q rs
theorem ValsV.on {w w' : World} {v : Value} {rs : List V3} (h : ValsV w v rs) (hb : Below w.heap.size w w') : ValsV w' v rs := by
  obtain ⟨q, c, e, h1, h2⟩ := h
  exact ⟨q, c, e, h1, h2.on hb⟩
/-- Texts and numbers as a machine has them. -/
def SizedV (rs : List V3) : Prop := ∀ r ∈ rs, r.2.2.size ≤ maxLen ∧ inB r.2.1
def vcells : List V3 → List Value
  | [] => []
  | v :: vs => .int .i64 v.1 :: .int .i64 v.2.1 :: .string v.2.2 :: vcells vs
theorem vcells_at : ∀ {vs : List V3} {j : Nat} (h : j < vs.length), (vcells vs)[j * 3]? = some (.int .i64 vs[j].1) ∧ (vcells vs)[j * 3 + 1]? = some (.int .i64 vs[j].2.1) ∧ (vcells vs)[j * 3 + 2]? = some (.string vs[j].2.2)
  | v :: vs, 0, _ => ⟨rfl, rfl, rfl⟩
  | v :: vs, j + 1, h => by
    have := vcells_at (vs := vs) (j := j) (by simpa using h)
    rw [vcells, show (j + 1) * 3 = j * 3 + 3 by omega]
    simpa using this
  | [], _, h => absurd h (by simp)
theorem vcells_len : ∀ vs : List V3, (vcells vs).length = vs.length * 3
  | [] => rfl
  | v :: vs => by rw [vcells]; simp [vcells_len vs]; omega
theorem vcells_append : ∀ (a b : List V3), vcells (a ++ b) = vcells a ++ vcells b
  | [], b => rfl
  | v :: vs, b => by rw [List.cons_append, vcells, vcells, vcells_append vs b]; rfl
theorem ownVals {W : World} {B : Nat} {q : Option Addr} {c n : Nat} {vs : List V3} (hn : vs.length = n) (h : W.ownsRow B 26 3 (.slice q n c) n (vcells vs)) : ValsAt W q vs := by
  by_cases h0 : vs.length = 0
  · exact .inl h0
  · refine .inr ?_
    rcases h.2 with ⟨e1, _⟩ | ⟨g, cap, cur, e1, hb, hg, hm, hx, hs, ht⟩
    · injection e1 with e1 e2; omega
    · injection e1 with e1 e2 e3
      subst e1
      refine ⟨g, 0, rfl, (Array.getElem?_eq_some_iff.1 hg).1, fun j hj => ?_⟩
      obtain ⟨a0, a1, a2⟩ := vcells_at hj
      have h1 := h.cells (g := g) rfl _ _ a0
      have h2 := h.cells (g := g) rfl _ _ a1
      have h3 := h.cells (g := g) rfl _ _ a2
      rw [Go.WideShapes.add_plain] at h1 h2 h3
      exact ⟨by simpa using h1, by simpa [Nat.add_assoc] using h2, by simpa [Nat.add_assoc] using h3⟩
theorem info_val : (Tryd.prog.info? 26).map (fun i => (i.zero, i.size, i.bytes)) = some (some (.agg #[.int .i64 0, .int .i64 0, .string ⟨#[]⟩]), 3, 32) := by kernel_rfl
end Go.Proofs.YtfonalmgdjboeaaDoor
namespace Go.Proofs.YtfonalmgdjboeaaDoor
open Go.RowKit
set_option linter.unusedVariables false

/-- Is a word one of an aggregate? -/
def isAg (s : List UInt8) : Bool := decide (s = [99, 111, 117, 110, 116]) || (decide (s = [115, 117, 109]) || (decide (s = [108, 101, 97, 115, 116]) || decide (s = [109, 111, 115, 116])))
def aggsL : List (List UInt8) := [[99, 111, 117, 110, 116], [115, 117, 109], [108, 101, 97, 115, 116], [109, 111, 115, 116]]
def aggsC : Array Value := #[.string ⟨#[99, 111, 117, 110, 116]⟩, .string ⟨#[115, 117, 109]⟩, .string ⟨#[108, 101, 97, 115, 116]⟩, .string ⟨#[109, 111, 115, 116]⟩]
/-- What package query's variable holds: the words of aggregates. -/
structure AEnv (w : World) : Prop where
  big : 2 ≤ w.heap.size
  ags : ∃ t fr, w.heap[0]? = some (.cells aggsC t fr)
theorem AEnv.onB {w w' : World} {n : Nat} (h : AEnv w) (hb : Below n w w') (hn : 2 ≤ n) (hs : w.heap.size ≤ w'.heap.size) : AEnv w' := by
  refine ⟨by have := h.big; omega, ?_⟩
  obtain ⟨t, fr, h1⟩ := h.ags
  exact ⟨t, fr, by rw [hb.block _ (by omega)]; exact h1⟩
theorem AEnv.on {w w' : World} (h : AEnv w) (hb : Below w.heap.size w w') : AEnv w' := h.onB hb h.big hb.size
theorem agg_at (k : Nat) (hk : k < 4) : ∃ S : ByteArray, (∀ W : World, Sem.run Tryd.prog (Instr.index 88 (.agg aggsC) (.int .i64 (k : Int))) W = .ok (.string S) W) ∧ aggsL[k]'hk = S.data.toList := by
  have h : k = 0 ∨ k = 1 ∨ k = 2 ∨ k = 3 := by omega
  rcases h with rfl | rfl | rfl | rfl
  · exact ⟨⟨#[99, 111, 117, 110, 116]⟩, fun W => by kernel_rfl, rfl⟩
  · exact ⟨⟨#[115, 117, 109]⟩, fun W => by kernel_rfl, rfl⟩
  · exact ⟨⟨#[108, 101, 97, 115, 116]⟩, fun W => by kernel_rfl, rfl⟩
  · exact ⟨⟨#[109, 111, 115, 116]⟩, fun W => by kernel_rfl, rfl⟩
theorem isAg_any (s : List UInt8) : isAg s = aggsL.any (· == s) := by
  have e : ∀ a : List UInt8, decide (s = a) = (a == s) := fun a => by
    by_cases h : s = a
    · subst h; simp
    · have h2 : ¬ a = s := fun h2 => h h2.symm
      simp [h, h2]
  simp only [isAg, aggsL, List.any_cons, List.any_nil, Bool.or_false, e]
set_option maxHeartbeats 1000000 in
set_option maxRecDepth 20000 in
theorem isAgg_any (x : ByteArray) (w : World) (henv : AEnv w) :
    Calls Tryd.prog 37 #[.string x] w fun e w' => e = .returned (.bool (isAg x.data.toList)) ∧ w' = w := by
  obtain ⟨tt, fr, hgl⟩ := henv.ags
  rw [isAg_any]
  obtain ⟨R, hR⟩ : ∃ R, aggsL.any (· == x.data.toList) = R := ⟨_, rfl⟩
  have HR : Hid (aggsL.any (· == x.data.toList) = R) := hR
  rw [hR]
  clear hR
  go_enter Tryd.func37, Tryd.ntmps37
  go_wp2_with (refine wpList_load_row rfl 88 _ rfl 0 rfl tt _ fr _ hgl Tryd.underlying88 rfl (by kernel_rfl) ?_)
  have hat := agg_at
  generalize Value.agg aggsC = AR at hat ⊢
  clear hgl
  go_loopg [4, 6] 4 (fun gg _ s6 wr => ∃ kk : Nat, kk ≤ 4 ∧ 4 - kk ≤ gg ∧ s6 = .int .i64 kk ∧ wr = w ∧ Hid ((aggsL.drop kk).any (· == x.data.toList) = R))
  case atStart => exact ⟨0, Nat.zero_le _, by omega, rfl, rfl, HR⟩
  case round =>
    obtain ⟨kk, hkk, hg, rfl, rfl, HE⟩ := hrel
    clear HR
    by_cases hlt : kk < 4
    · have hltz : (kk : Int) < 4 := by omega
      obtain ⟨S, hS, hS1⟩ := hat kk hlt
      clear hat
      have hd : aggsL.drop kk = S.data.toList :: aggsL.drop (kk + 1) := by
        rw [List.drop_eq_getElem_cons (show kk < aggsL.length from hlt)]
        exact congrArg (· :: _) hS1
      have HS : Hid ((S.data.toList :: aggsL.drop (kk + 1)).any (· == x.data.toList) = R) := by show _ = _; rw [← hd]; exact HE.out
      clear hd hS1 HE
      by_cases he : S.data.toList = x.data.toList
      · have hq : (S.toList == x.toList) = true := by rw [Lib.toList_data, Lib.toList_data]; simpa using he
        have hR2 : true = R := by
          have hb : (S.data.toList == x.data.toList) = true := by simpa using he
          rw [← HS.out, List.any_cons, hb]; rfl
        subst hR2
        clear HS
        go_wp2
        go_ret
        exact ⟨rfl, rfl⟩
      · have hq : (S.toList == x.toList) = false := by rw [Lib.toList_data, Lib.toList_data]; simpa using he
        have HS2 : Hid ((aggsL.drop (kk + 1)).any (· == x.data.toList) = R) := by
          show _ = _
          have hb : (S.data.toList == x.data.toList) = false := by simpa using he
          rw [← HS.out, List.any_cons, hb, Bool.false_or]
        clear HS
        go_wp2
        go_roundg (4 - (kk + 1))
        case measure => omega
        case rel => exact ⟨kk + 1, by omega, by omega, by go_num, rfl, HS2⟩
    · have hltz : ¬ (kk : Int) < 4 := by omega
      have hR2 : false = R := by rw [← HE.out, List.drop_eq_nil_of_le (by show 4 ≤ kk; omega)]; rfl
      subst hR2
      clear HE
      go_wp2
      go_ret
      exact ⟨rfl, rfl⟩
end Go.Proofs.YtfonalmgdjboeaaDoor
