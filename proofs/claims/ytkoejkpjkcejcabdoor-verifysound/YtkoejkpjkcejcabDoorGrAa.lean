/-
  Val1, KdR0, OwnS, KdOps, CdO, in one text.
-/
import Derived.Test.YtkoejkpjkcejcabDoorProg
import Derived.WalkKit
import Derived.Below
import Derived.Lib.Strings
import Derived.Laws.Rows
import Derived.RowKitTokens
import Derived.Lib.OthersKept
import Derived.Laws.RangeAny
import Derived.Deep.DeepCutAuto
import Derived.Deep.LoopGhost
import Derived.OwnWalk
import Derived.Deep.QuietTactic
import Derived.BigQuiet
import Derived.WalkSmall
namespace Go.Proofs.YtkoejkpjkcejcabDoor
open Go.RowKit

theorem ret_int {k : IntKind} {a b : Int} (h : a = b) : Ending.returned (.int k a) = .returned (.int k b) := by rw [h]
theorem ret_bool {a b : Bool} (h : a = b) : Ending.returned (.bool a) = .returned (.bool b) := by rw [h]

/-- Has a text just the bytes that it may? -/
def plainB (l : List UInt8) : Bool := l.all fun c => decide (32 ≤ (c.toNat : Int)) && decide ((c.toNat : Int) ≤ 126)
theorem plain_take (s : ByteArray) (k : Nat) (h : k < s.size) : plainB (s.data.toList.take (k + 1)) = (plainB (s.data.toList.take k) && (decide (32 ≤ (s[k].toNat : Int)) && decide ((s[k].toNat : Int) ≤ 126))) := by
  rw [List.take_succ_eq_append_getElem (by simpa using h)]
  simp only [plainB, List.all_append, List.all_cons, List.all_nil, Bool.and_true]
  rfl
theorem plain_not (s : ByteArray) (k : Nat) (h : k < s.size) (hc : (s[k].toNat : Int) < 32 ∨ 126 < (s[k].toNat : Int)) : plainB s.data.toList = false := by
  have h2 : plainB (s.data.toList.take (k + 1)) = false := by
    rw [plain_take s k h]
    have : (decide (32 ≤ (s[k].toNat : Int)) && decide ((s[k].toNat : Int) ≤ 126)) = false := by
      rw [Bool.and_eq_false_iff, decide_eq_false_iff_not, decide_eq_false_iff_not]; omega
    rw [this, Bool.and_false]
  cases hp : plainB s.data.toList with
  | false => rfl
  | true =>
    exfalso
    have h3 : plainB (s.data.toList.take (k + 1)) = true := by
      simp only [plainB, List.all_eq_true] at hp ⊢
      exact fun x hx => hp x (List.mem_of_mem_take hx)
    rw [h2] at h3; exact Bool.noConfusion h3
theorem plain_of (s : ByteArray) (k : Nat) (h : s.size ≤ k) (hp : plainB (s.data.toList.take k) = true) : plainB s.data.toList = true := by
  rwa [List.take_of_length_le (by simpa using h)] at hp

set_option maxHeartbeats 400000 in
theorem hasTextBytes_any (s : ByteArray) (w : World) (hs : s.size ≤ maxLen) :
    Calls Tryd.prog 78 #[.string s] w fun e w' => e = .returned (.bool (plainB s.data.toList)) ∧ w' = w := by
  unfold maxLen at hs
  go_enter Tryd.func78, Tryd.ntmps78
  go_wp2
  go_loop [3] (fun i => ∃ k : Nat, k ≤ s.size ∧ i = .int .i64 k ∧ plainB (s.data.toList.take k) = true) (fun i => s.size - (intOf i).toNat)
  case atStart => exact ⟨0, Nat.zero_le _, rfl, rfl⟩
  case round =>
    obtain ⟨k, hk, rfl, hp⟩ := hrel
    have HP : Hid (plainB (s.data.toList.take k) = true) := hp
    clear hp
    by_cases hlt : k < s.size
    · have HN : Hid (∀ _ : (s[k].toNat : Int) < 32 ∨ 126 < (s[k].toNat : Int), plainB s.data.toList = false) := plain_not s k hlt
      have HT : Hid (plainB (s.data.toList.take (k + 1)) = (plainB (s.data.toList.take k) && (decide (32 ≤ (s[k].toNat : Int)) && decide ((s[k].toNat : Int) ≤ 126)))) := plain_take s k hlt
      go_wp2
      · go_ret
        exact ⟨ret_bool (HN.out (by omega)).symm, rfl⟩
      · go_round
        case rel =>
          refine ⟨k + 1, by omega, by go_num, ?_⟩
          rw [HT.out, HP.out]
          simp only [Bool.true_and, Bool.and_eq_true, decide_eq_true_eq]
          assumption
        case measure => simp [intOf]; omega
      · go_ret
        exact ⟨ret_bool (HN.out (by omega)).symm, rfl⟩
    · have HO := plain_of s k (by omega) HP.out
      go_wp2
      go_ret
      exact ⟨rfl, rfl⟩
/-- The fault of a value. -/
def chk (t n : Int) (l : List UInt8) : Int :=
  if ¬ (t = 1 ∨ t = 2 ∨ t = 3) ∨ (t = 2 ∧ n ≠ 0 ∧ n ≠ 1) then 1
  else if t = 3 ∧ 40 < l.length then 4
  else if t = 3 ∧ plainB l = false then 2
  else if (t ≠ 3 ∧ l ≠ []) ∨ (t = 3 ∧ n ≠ 0) then 3 else 0
/-- An error by its number. -/
def errV (k : Int) : Value := if k = 0 then .nilIface else .iface 37 (.int .i64 k)

theorem isType_yes (t : Int) (w : World) (h : t = 1 ∨ t = 2 ∨ t = 3) : Calls Tryd.prog 48 #[.int .i64 t] w fun e w' => e = .returned (.bool true) ∧ w' = w := by
  rcases h with rfl | rfl | rfl
  all_goals
    go_enter Tryd.func48, Tryd.ntmps48
    go_wp2
    go_ret
    exact ⟨rfl, rfl⟩
theorem isType_no (t : Int) (w : World) (h : ¬ (t = 1 ∨ t = 2 ∨ t = 3)) : Calls Tryd.prog 48 #[.int .i64 t] w fun e w' => e = .returned (.bool false) ∧ w' = w := by
  have h1 : (t == 1) = false := by simp; omega
  have h2 : (t == 2) = false := by simp; omega
  have h3 : (t == 3) = false := by simp; omega
  go_enter Tryd.func48, Tryd.ntmps48
  go_wp2
  go_ret
  exact ⟨rfl, rfl⟩

theorem errV_eq {k j : Int} (h : k = j) (hj : j ≠ 0) : Ending.returned (.iface 37 (.int .i64 j)) = .returned (errV k) := by
  rw [errV, if_neg (by omega), h]
theorem errV_nil {k : Int} (h : k = 0) : Ending.returned .nilIface = .returned (errV k) := by
  rw [errV, if_pos h]

def chkT (n : Int) (l : List UInt8) : Int := if 40 < l.length then 4 else if plainB l = false then 2 else if n ≠ 0 then 3 else 0
theorem chk_text (n : Int) (l : List UInt8) : chk 3 n l = chkT n l := by
  rw [chk, chkT, if_neg (by simp)]
  simp
set_option maxHeartbeats 1000000 in
theorem checkText_any (t n : Int) (s : ByteArray) (w : World) (hs : s.size ≤ maxLen) :
    Calls Tryd.prog 49 #[.agg #[.int .i64 t, .int .i64 n, .string s]] w fun e w' => e = .returned (errV (chkT n s.data.toList)) ∧ Below w.heap.size w w' := by
  have hs2 := hs
  unfold maxLen at hs2
  generalize hc : chkT n s.data.toList = c
  have HC : Hid (chkT n s.data.toList = c) := hc
  clear hc
  go_enter Tryd.func49, Tryd.ntmps49
  go_wp2_with (first | (go_at_call 78; refine (hasTextBytes_any _ _ hs).mono ?_; rintro e w' ⟨rfl, rfl⟩))
  all_goals
    go_ret
    refine ⟨?_, by repeat (first | exact Below.refl _ _ | (refine Below.alloc ?_ (by simp) _))⟩
    have hd : s.data.toList.length = s.size := by simp
    have hc := HC.out
    clear HC hs
    rw [chkT] at hc
    simp only [bne_iff_ne, bne_eq_false_iff_eq, Bool.not_eq_true', Bool.not_eq_false'] at *
  all_goals
    repeat' split at hc
  all_goals subst hc
  all_goals first | exact errV_eq rfl (by decide) | exact errV_nil rfl | (exfalso; omega) | (exfalso; simp_all; done) | (exfalso; simp_all; omega)
set_option maxHeartbeats 1000000 in
theorem check_any (t n : Int) (s : ByteArray) (w : World) (hs : s.size ≤ maxLen) :
    Calls Tryd.prog 20 #[.agg #[.int .i64 t, .int .i64 n, .string s]] w fun e w' => e = .returned (errV (chk t n s.data.toList)) ∧ Below w.heap.size w w' := by
  have hs2 := hs
  unfold maxLen at hs2
  by_cases h3 : t = 3
  · subst h3
    rw [chk_text]
    go_enter Tryd.func20, Tryd.ntmps20
    go_wp2_with (first | (go_at_call 48; refine (isType_yes _ _ (by omega)).mono ?_; rintro e w' ⟨rfl, rfl⟩) | (go_at_call 49; refine (checkText_any _ _ _ _ hs).mono ?_; rintro e w' ⟨rfl, hbT⟩))
    go_ret
    exact ⟨rfl, (((Below.refl _ _).alloc (Nat.le_refl _) _)).trans (hbT.mono (by simp))⟩
  · by_cases ht : t = 1 ∨ t = 2 ∨ t = 3
    · generalize hc : chk t n s.data.toList = c
      have HC : Hid (chk t n s.data.toList = c) := hc
      clear hc
      have e3 : (t == 3) = false := by simpa using h3
      have HT : Hid (t = 1 ∨ t = 2 ∨ t = 3) := ht
      go_enter Tryd.func20, Tryd.ntmps20
      go_wp2_with (first | (go_at_call 48; refine (isType_yes _ _ HT.out).mono ?_; rintro e w' ⟨rfl, rfl⟩))
      all_goals
        go_ret
        refine ⟨?_, by repeat (first | exact Below.refl _ _ | (refine Below.alloc ?_ (by simp) _))⟩
        have hd : s.data.toList.length = s.size := by simp
        have hc := HC.out
        have htt := HT.out
        clear HC HT hs
        rw [chk] at hc
        simp only [Lib.toList_data, bne_iff_ne, bne_eq_false_iff_eq, Bool.not_eq_true', Bool.not_eq_false'] at *
      all_goals
        repeat' split at hc
      all_goals subst hc
      all_goals first | exact errV_eq rfl (by decide) | exact errV_nil rfl | (exfalso; omega) | (exfalso; simp_all; done) | (exfalso; simp_all; omega)
    · have hc : chk t n s.data.toList = 1 := by rw [chk, if_pos (Or.inl ht)]
      have HC : Hid (chk t n s.data.toList = 1) := hc
      clear hc
      have HT : Hid (¬ (t = 1 ∨ t = 2 ∨ t = 3)) := ht
      clear ht h3
      go_enter Tryd.func20, Tryd.ntmps20
      go_wp2_with (first | (go_at_call 48; refine (isType_no _ _ HT.out).mono ?_; rintro e w' ⟨rfl, rfl⟩))
      go_ret
      exact ⟨errV_eq HC.out (by omega), by repeat (first | exact Below.refl _ _ | (refine Below.alloc ?_ (by simp) _))⟩
end Go.Proofs.YtkoejkpjkcejcabDoor
namespace Go.Proofs.YtkoejkpjkcejcabDoor
open Go.RowKit Go.BigFrame
set_option linter.unusedVariables false

/-- The rules: an Op, of which types its parts are (0: none more; -1: one type, whichever it is), and of which it is itself. -/
def kdRules : List (List UInt8 × Int × Int × Int × Int) := [([111, 114], 2, 2, 0, 2), ([97, 110, 100], 2, 2, 0, 2), ([110, 111, 116], 2, 0, 0, 2), ([61], -1, -1, 0, 2), ([60, 62], -1, -1, 0, 2), ([60], -1, -1, 0, 2), ([60, 61], -1, -1, 0, 2), ([62], -1, -1, 0, 2), ([62, 61], -1, -1, 0, 2), ([43], 1, 1, 0, 1), ([45], 1, 1, 0, 1), ([42], 1, 1, 0, 1), ([47], 1, 1, 0, 1), ([37], 1, 1, 0, 1), ([110, 101, 103], 1, 0, 0, 1), ([108, 101, 110], 3, 0, 0, 1), ([105, 102], 2, -1, -1, -1)]
abbrev KRule := List UInt8 × Int × Int × Int × Int
def rulesC : Array Value := #[.string ⟨#[111, 114]⟩, .int .i64 2, .int .i64 2, .int .i64 0, .int .i64 2, .string ⟨#[97, 110, 100]⟩, .int .i64 2, .int .i64 2, .int .i64 0, .int .i64 2, .string ⟨#[110, 111, 116]⟩, .int .i64 2, .int .i64 0, .int .i64 0, .int .i64 2, .string ⟨#[61]⟩, .int .i64 (-1), .int .i64 (-1), .int .i64 0, .int .i64 2, .string ⟨#[60, 62]⟩, .int .i64 (-1), .int .i64 (-1), .int .i64 0, .int .i64 2, .string ⟨#[60]⟩, .int .i64 (-1), .int .i64 (-1), .int .i64 0, .int .i64 2, .string ⟨#[60, 61]⟩, .int .i64 (-1), .int .i64 (-1), .int .i64 0, .int .i64 2, .string ⟨#[62]⟩, .int .i64 (-1), .int .i64 (-1), .int .i64 0, .int .i64 2, .string ⟨#[62, 61]⟩, .int .i64 (-1), .int .i64 (-1), .int .i64 0, .int .i64 2, .string ⟨#[43]⟩, .int .i64 1, .int .i64 1, .int .i64 0, .int .i64 1, .string ⟨#[45]⟩, .int .i64 1, .int .i64 1, .int .i64 0, .int .i64 1, .string ⟨#[42]⟩, .int .i64 1, .int .i64 1, .int .i64 0, .int .i64 1, .string ⟨#[47]⟩, .int .i64 1, .int .i64 1, .int .i64 0, .int .i64 1, .string ⟨#[37]⟩, .int .i64 1, .int .i64 1, .int .i64 0, .int .i64 1, .string ⟨#[110, 101, 103]⟩, .int .i64 1, .int .i64 0, .int .i64 0, .int .i64 1, .string ⟨#[108, 101, 110]⟩, .int .i64 3, .int .i64 0, .int .i64 0, .int .i64 1, .string ⟨#[105, 102]⟩, .int .i64 2, .int .i64 (-1), .int .i64 (-1), .int .i64 (-1)]
/-- What Rule reads of the variables: the rules. -/
def REnv (w : World) : Prop := ∃ t fr, w.heap[0]? = some (.cells rulesC t fr)
theorem REnv.lt {w : World} (h : REnv w) : 0 < w.heap.size := by
  obtain ⟨t, fr, h1⟩ := h
  exact (Array.getElem?_eq_some_iff.1 h1).1
theorem REnv.on {w w' : World} (h : REnv w) (hb : Below w.heap.size w w') : REnv w' := by
  have hl := h.lt
  obtain ⟨t, fr, h1⟩ := h
  exact ⟨t, fr, by rw [hb.block _ hl]; exact h1⟩
theorem rule_at (k : Nat) (hk : k < 17) : ∃ (S : ByteArray) (a0 a1 a2 ty : Int), (∀ W : World, Sem.run Tryd.prog (Instr.index 119 (.agg rulesC) (.int .i64 (k : Int))) W = .ok (.agg #[.string S, .int .i64 a0, .int .i64 a1, .int .i64 a2, .int .i64 ty]) W) ∧ kdRules[k]'hk = (S.data.toList, a0, a1, a2, ty) ∧ (-1 ≤ a0 ∧ a0 ≤ 3) ∧ (-1 ≤ a1 ∧ a1 ≤ 3) ∧ (-1 ≤ a2 ∧ a2 ≤ 3) ∧ (-1 ≤ ty ∧ ty ≤ 3) := by
  have h : k = 0 ∨ k = 1 ∨ k = 2 ∨ k = 3 ∨ k = 4 ∨ k = 5 ∨ k = 6 ∨ k = 7 ∨ k = 8 ∨ k = 9 ∨ k = 10 ∨ k = 11 ∨ k = 12 ∨ k = 13 ∨ k = 14 ∨ k = 15 ∨ k = 16 := by omega
  rcases h with rfl | rfl | rfl | rfl | rfl | rfl | rfl | rfl | rfl | rfl | rfl | rfl | rfl | rfl | rfl | rfl | rfl
  · exact ⟨⟨#[111, 114]⟩, 2, 2, 0, 2, fun W => by kernel_rfl, rfl, by decide, by decide, by decide, by decide⟩
  · exact ⟨⟨#[97, 110, 100]⟩, 2, 2, 0, 2, fun W => by kernel_rfl, rfl, by decide, by decide, by decide, by decide⟩
  · exact ⟨⟨#[110, 111, 116]⟩, 2, 0, 0, 2, fun W => by kernel_rfl, rfl, by decide, by decide, by decide, by decide⟩
  · exact ⟨⟨#[61]⟩, (-1), (-1), 0, 2, fun W => by kernel_rfl, rfl, by decide, by decide, by decide, by decide⟩
  · exact ⟨⟨#[60, 62]⟩, (-1), (-1), 0, 2, fun W => by kernel_rfl, rfl, by decide, by decide, by decide, by decide⟩
  · exact ⟨⟨#[60]⟩, (-1), (-1), 0, 2, fun W => by kernel_rfl, rfl, by decide, by decide, by decide, by decide⟩
  · exact ⟨⟨#[60, 61]⟩, (-1), (-1), 0, 2, fun W => by kernel_rfl, rfl, by decide, by decide, by decide, by decide⟩
  · exact ⟨⟨#[62]⟩, (-1), (-1), 0, 2, fun W => by kernel_rfl, rfl, by decide, by decide, by decide, by decide⟩
  · exact ⟨⟨#[62, 61]⟩, (-1), (-1), 0, 2, fun W => by kernel_rfl, rfl, by decide, by decide, by decide, by decide⟩
  · exact ⟨⟨#[43]⟩, 1, 1, 0, 1, fun W => by kernel_rfl, rfl, by decide, by decide, by decide, by decide⟩
  · exact ⟨⟨#[45]⟩, 1, 1, 0, 1, fun W => by kernel_rfl, rfl, by decide, by decide, by decide, by decide⟩
  · exact ⟨⟨#[42]⟩, 1, 1, 0, 1, fun W => by kernel_rfl, rfl, by decide, by decide, by decide, by decide⟩
  · exact ⟨⟨#[47]⟩, 1, 1, 0, 1, fun W => by kernel_rfl, rfl, by decide, by decide, by decide, by decide⟩
  · exact ⟨⟨#[37]⟩, 1, 1, 0, 1, fun W => by kernel_rfl, rfl, by decide, by decide, by decide, by decide⟩
  · exact ⟨⟨#[110, 101, 103]⟩, 1, 0, 0, 1, fun W => by kernel_rfl, rfl, by decide, by decide, by decide, by decide⟩
  · exact ⟨⟨#[108, 101, 110]⟩, 3, 0, 0, 1, fun W => by kernel_rfl, rfl, by decide, by decide, by decide, by decide⟩
  · exact ⟨⟨#[105, 102]⟩, 2, (-1), (-1), (-1), fun W => by kernel_rfl, rfl, by decide, by decide, by decide, by decide⟩
end Go.Proofs.YtkoejkpjkcejcabDoor
namespace Go.Proofs.YtkoejkpjkcejcabDoor
open Go.RowKit

theorem lown_slice {W : World} {base : Nat} {e : TypeId} {size : Nat} {v : Value} {n : Nat} {xs : List Value} (h : W.ownsRow base e size v n xs) : ∃ p c, v = .slice p n c := by
  rcases h.2 with ⟨rfl, rfl⟩ | ⟨g, cap, cur, rfl, _⟩
  · exact ⟨_, _, rfl⟩
  · exact ⟨_, _, rfl⟩
theorem lown_below {W W' : World} {base : Nat} {e : TypeId} {size : Nat} {v : Value} {n : Nat} {xs : List Value} (h : W.ownsRow base e size v n xs) (hb : Below W.heap.size W W') : W'.ownsRow base e size v n xs := by
  refine ⟨h.1, ?_⟩
  rcases h.2 with hn | ⟨g, cap, cur, rfl, h1, hgg, rest⟩
  · exact .inl hn
  · exact .inr ⟨g, cap, cur, rfl, h1, by rw [hb.block g (Array.getElem?_eq_some_iff.1 hgg).1]; exact hgg, rest⟩
end Go.Proofs.YtkoejkpjkcejcabDoor
namespace Go.Proofs.YtkoejkpjkcejcabDoor
open Go.RowKit Go.BigFrame
set_option linter.unusedVariables false

def opsS : List ByteArray := kdRules.map fun r => ⟨r.1.toArray⟩
/-- Texts one behind the other. -/
def StrsAt (w : World) (p : Option Addr) (ss : List ByteArray) : Prop := ∃ b off, p = some ⟨b, off, none⟩ ∧ b < w.heap.size ∧ ∀ j (h : j < ss.length), w.cell? ⟨b, off + j, none⟩ = some (.string ss[j])
theorem StrsAt.on {w w' : World} {p : Option Addr} {ss : List ByteArray} (h : StrsAt w p ss) (hb : Below w.heap.size w w') : StrsAt w' p ss := by
  obtain ⟨b, off, e, hl, h⟩ := h
  exact ⟨b, off, e, by have := hb.size; omega, fun j hj => by rw [hb.cell (p := ⟨b, _, none⟩) hl]; exact h j hj⟩
theorem info_strO : (Tryd.prog.info? 9).map (fun i => (i.zero, i.size, i.bytes)) = some (some (.string ⟨#[]⟩), 1, 16) := by kernel_rfl
theorem ownStrs {W : World} {B : Nat} {q : Option Addr} {c n : Nat} {ss : List ByteArray} (hn : ss.length = n) (h0 : 0 < n) (h : W.ownsRow B 9 1 (.slice q n c) n (ss.map .string)) : StrsAt W q ss := by
  rcases h.2 with ⟨e1, _⟩ | ⟨g, cap, cur, e1, hb, hg, hm, hx, hs, ht⟩
  · injection e1 with e1 e2; omega
  · injection e1 with e1 e2 e3
    subst e1
    refine ⟨g, 0, rfl, (Array.getElem?_eq_some_iff.1 hg).1, fun j hj => ?_⟩
    have h1 := h.cells (g := g) rfl j (.string ss[j]) (by rw [List.getElem?_map, List.getElem?_eq_getElem hj]; rfl)
    rw [Go.WideShapes.add_plain] at h1
    simpa using h1
theorem opsS_take {k : Nat} (hk : k < 17) {S : ByteArray} (h : (kdRules[k]'hk).1 = S.data.toList) : opsS.take k ++ [S] = opsS.take (k + 1) := by
  have hl : k < opsS.length := hk
  rw [List.take_add_one, List.getElem?_eq_getElem hl]
  have : opsS[k] = S := by
    have h1 : opsS[k] = (⟨(kdRules[k]'hk).1.toArray⟩ : ByteArray) := List.getElem_map (l := kdRules) (fun r : KRule => (⟨r.1.toArray⟩ : ByteArray))
    rw [h1, h]
  rw [this]
  rfl
set_option maxHeartbeats 2000000 in
set_option maxRecDepth 20000 in
theorem kindOps_any (w : World) (henv : REnv w) :
    Calls Tryd.prog 41 #[] w fun e w' => (∃ q c, e = .returned (.slice q 17 c) ∧ Aside (StrsAt w' q opsS)) ∧ Below w.heap.size w w' := by
  obtain ⟨i0, hi, hz0, hz1, hzz⟩ := info_parts info_strO
  obtain ⟨tt, fr, hgl⟩ := henv
  go_enter Tryd.func41, Tryd.ntmps41
  go_wp2_with (refine wpList_load_row rfl 119 _ rfl 0 rfl tt _ fr _ hgl Tryd.underlying119 rfl (by kernel_rfl) ?_)
  have hat := rule_at
  generalize Value.agg rulesC = AR at hat ⊢
  clear hgl
  go_loopg [1, 3, 5] 17 (fun gg s1 _ s5 wr => ∃ (kk : Nat) (acc : List ByteArray) (q : Option Addr) (cp : Nat), kk ≤ 17 ∧ 17 - kk ≤ gg ∧ s5 = .int .i64 kk ∧ s1 = .slice q kk cp ∧ Aside (wr.ownsRow w.heap.size 9 1 (.slice q kk cp) kk (acc.map .string)) ∧ Aside (Below w.heap.size w wr) ∧ Hid (acc = opsS.take kk))
  case atStart => exact ⟨0, [], none, 0, Nat.zero_le _, by omega, rfl, rfl, (show Aside _ from ⟨rfl, .inl ⟨rfl, rfl⟩⟩), (show Aside _ from Below.refl _ _), (show Hid _ from rfl)⟩
  case round =>
    obtain ⟨kk, acc, q, cp, hkk, hg, rfl, rfl, OW, BW, HE⟩ := hrel
    have hzr : w.heap.size ≤ wr.heap.size := BW.out.size
    by_cases hlt : kk < 17
    · have hltz : (kk : Int) < 17 := by omega
      obtain ⟨S, a0, a1, a2, ty, hix, hkr, _⟩ := hat kk hlt
      have HT : Hid (acc ++ [S] = opsS.take (kk + 1)) := by
        show _ = _
        rw [HE.out]; exact opsS_take hlt (by rw [hkr])
      have hix2 := fun W => hix W
      have OW4 := OW.out.alloc (.cells #[.string S, .int .i64 a0, .int .i64 a1, .int .i64 a2, .int .i64 ty] 105)
      have BW4 : Aside (Below w.heap.size w (wr.alloc (.cells #[.string S, .int .i64 a0, .int .i64 a1, .int .i64 a2, .int .i64 ty] 105))) := BW.out.alloc hzr _
      clear HE hkr OW
      go_wp2_with (at_builtin; refine wpList_append_own _ rfl _ _ 45 rfl w.heap.size 9 i0 (.string ⟨#[]⟩) 1 16 Tryd.underlying45 hi hz0 hz1 hzz rfl (by decide) _ _ _ rfl (OW4.alloc _) ⟨wr.heap.size + 1, 0, none⟩ 1 1 [.string S] rfl rfl ?c1 ?c2 ?c3 ?c4 ?c5 ?_)
      case c1 =>
        intro i u hu
        rw [Go.WideShapes.add_plain, World.cell?_alloc_at _ _ _ _ (by simp)]
        simpa using hu
      case c2 =>
        intro u hu
        simp at hu
        subst hu; rfl
      case c3 => simp [maxLen]; omega
      case c4 => omega
      case c5 => simp; omega
      · intro v' w5 hown' hgrow _
        have hlo3 : ∀ j, (Value.slice q kk cp).ownBlock = some j → w.heap.size ≤ j := fun j hj => (OW4.lt j hj).1
        have bg : Below w.heap.size (wr.alloc (.cells #[.string S, .int .i64 a0, .int .i64 a1, .int .i64 a2, .int .i64 ty] 105)) w5 := ((Below.refl _ _).alloc (by simp; omega) _).grown hgrow (by simp; omega) hlo3
        have BW6 : Aside (Below w.heap.size w w5) := BW4.out.trans bg
        obtain ⟨q5, c5, rfl⟩ := lown_slice hown'
        have ow6 : w5.ownsRow w.heap.size 9 1 (.slice q5 (kk + 1) c5) (kk + 1) ((acc ++ [S]).map .string) := by rw [List.map_append]; exact hown'
        clear hown' hgrow OW4 bg BW4
        go_wp2
        go_roundg (17 - (kk + 1))
        case measure => omega
        case rel => exact ⟨kk + 1, acc ++ [S], q5, c5, by omega, by omega, by go_num, rfl, (show Aside _ from ow6), BW6, HT⟩
    · have hltz : ¬ (kk : Int) < 17 := by omega
      obtain rfl : kk = 17 := by omega
      have hacc : acc = opsS := by rw [HE.out]; rfl
      subst hacc
      have hst : Aside (StrsAt wr q opsS) := ownStrs rfl (by decide) OW.out
      clear HE OW hat
      go_wp2
      go_ret
      exact ⟨⟨q, ⟨cp, rfl⟩, hst⟩, BW.out⟩
theorem refOps_any (w : World) : Calls Tryd.prog 40 #[] w fun e w' => (∃ q c, e = .returned (.slice q 17 c) ∧ Aside (StrsAt w' q opsS)) ∧ Below w.heap.size w w' := by
  go_enter Tryd.func40, Tryd.ntmps40
  go_wp2
  go_ret
  refine ⟨⟨_, _, rfl, (show Aside _ from ⟨w.heap.size, 0, rfl, by simp, fun j hj => ?_⟩)⟩, (Below.refl _ w).alloc (Nat.le_refl _) _⟩
  rw [World.cell?_alloc_at _ _ _ _ rfl]
  have h17 : j < 17 := hj
  have : j = 0 ∨ j = 1 ∨ j = 2 ∨ j = 3 ∨ j = 4 ∨ j = 5 ∨ j = 6 ∨ j = 7 ∨ j = 8 ∨ j = 9 ∨ j = 10 ∨ j = 11 ∨ j = 12 ∨ j = 13 ∨ j = 14 ∨ j = 15 ∨ j = 16 := by omega
  rcases this with rfl | rfl | rfl | rfl | rfl | rfl | rfl | rfl | rfl | rfl | rfl | rfl | rfl | rfl | rfl | rfl | rfl <;> rfl
end Go.Proofs.YtkoejkpjkcejcabDoor
namespace Go.Proofs.YtkoejkpjkcejcabDoor
open Go.RowKit
set_option linter.unusedVariables false

/-- The operation of a number that is one here. -/
def opN (n : Int) : List UInt8 := if 2 ≤ n ∧ n < 16 then ((kdRules[n.toNat]?).map (·.1)).getD [] else []
def opE (n : Int) : Int := if 2 ≤ n ∧ n < 16 then 0 else 1
theorem opN_len (n : Int) : (opN n).length ≤ 8 := by
  unfold opN
  split
  · rename_i h
    obtain ⟨k, rfl⟩ : ∃ k : Nat, n = k := ⟨n.toNat, by omega⟩
    have : k = 2 ∨ k = 3 ∨ k = 4 ∨ k = 5 ∨ k = 6 ∨ k = 7 ∨ k = 8 ∨ k = 9 ∨ k = 10 ∨ k = 11 ∨ k = 12 ∨ k = 13 ∨ k = 14 ∨ k = 15 := by omega
    rcases this with rfl | rfl | rfl | rfl | rfl | rfl | rfl | rfl | rfl | rfl | rfl | rfl | rfl | rfl <;> decide
  · decide
theorem opN_none {n : Int} (h : ¬ (2 ≤ n ∧ n < 16)) : opN n = [] ∧ opE n = 1 := ⟨if_neg h, if_neg h⟩
theorem opN_some {k : Nat} (h : 2 ≤ k ∧ k < 16) (hk : k < opsS.length) : (⟨(opN k).toArray⟩ : ByteArray) = opsS[k] ∧ opE k = 0 := by
  have hz : 2 ≤ (k : Int) ∧ (k : Int) < 16 := by omega
  refine ⟨?_, if_pos hz⟩
  have h17 : k < kdRules.length := by have : kdRules.length = 17 := rfl; omega
  rw [opN, if_pos hz, Int.toNat_natCast, List.getElem?_eq_getElem h17]
  exact (List.getElem_map (l := kdRules) (fun r : KRule => (⟨r.1.toArray⟩ : ByteArray))).symm
def jmpB (l : List UInt8) : Bool := l == [111, 114] || l == [97, 110, 100] || l == [105, 102]
theorem jmp_ops {k : Nat} (hk : k < opsS.length) : jmpB opsS[k].data.toList = (k == 0 || k == 1 || k == 16) := by
  have h17 : k < 17 := hk
  have : k = 0 ∨ k = 1 ∨ k = 2 ∨ k = 3 ∨ k = 4 ∨ k = 5 ∨ k = 6 ∨ k = 7 ∨ k = 8 ∨ k = 9 ∨ k = 10 ∨ k = 11 ∨ k = 12 ∨ k = 13 ∨ k = 14 ∨ k = 15 ∨ k = 16 := by omega
  rcases this with rfl | rfl | rfl | rfl | rfl | rfl | rfl | rfl | rfl | rfl | rfl | rfl | rfl | rfl | rfl | rfl | rfl <;> rfl
theorem byJumps_any (S : ByteArray) (w : World) :
    Calls Tryd.prog 42 #[.string S] w fun e w' => e = .returned (.bool (jmpB S.data.toList)) ∧ w' = w := by
  rw [← Lib.toList_data]
  generalize hL : S.toList = L
  have e1 : jmpB L = (L == [111, 114] || L == [97, 110, 100] || L == [105, 102]) := rfl
  rw [e1]
  clear e1
  go_enter Tryd.func42, Tryd.ntmps42
  go_wp2
  all_goals
    go_ret
    simp_all
set_option maxHeartbeats 2000000 in
theorem codeOp_any (n : Int) (w : World) (henv : REnv w) :
    Calls Tryd.prog 16 #[.int .i64 n] w fun e w' => e = .returned (.tuple #[.string ⟨(opN n).toArray⟩, errV (opE n)]) ∧ Below w.heap.size w w' := by
  by_cases h0 : 0 ≤ n ∧ n < 17
  · obtain ⟨k, rfl⟩ : ∃ k : Nat, n = k := ⟨n.toNat, by omega⟩
    have hk : k < opsS.length := by have : opsS.length = 17 := rfl; omega
    have H1 : Hid (jmpB opsS[k].data.toList = (k == 0 || k == 1 || k == 16)) := jmp_ops hk
    obtain ⟨R, hR⟩ : ∃ R, Value.tuple #[.string ⟨(opN k).toArray⟩, errV (opE k)] = R := ⟨_, rfl⟩
    have HR : Hid (Value.tuple #[.string ⟨(opN k).toArray⟩, errV (opE k)] = R) := hR
    rw [hR]
    clear hR
    have z0 : ¬ (k : Int) < 0 := by omega
    have z1 : ¬ (17 : Int) ≤ (k : Int) := by omega
    have z2 : (0 : Int) ≤ (k : Int) := by omega
    go_enter Tryd.func16, Tryd.ntmps16
    go_wp2_with fail
    refine (kindOps_any w henv).mono ?_
    rintro e w1 ⟨⟨q, c, rfl, hst⟩, b1⟩
    obtain ⟨b, off, rfl, hbl, hcell⟩ := hst.out
    have c1 := hcell k hk
    go_wp2_with fail
    refine (byJumps_any opsS[k] _).mono ?_
    rintro e w2 ⟨rfl, rfl⟩
    by_cases hj : 2 ≤ k ∧ k < 16
    · have ej : jmpB opsS[k].data.toList = false := by rw [H1.out]; simp; omega
      rw [ej]
      obtain ⟨f1, f2⟩ := opN_some hj hk
      have HR2 : Hid (Value.tuple #[.string opsS[k], errV 0] = R) := by
        show _ = _
        rw [← HR.out, f1, f2]
      go_wp2
      go_ret2
      exact ⟨by rw [← HR2.out]; rfl, b1⟩
    · have ej : jmpB opsS[k].data.toList = true := by rw [H1.out]; simp; omega
      rw [ej]
      obtain ⟨f1, f2⟩ := opN_none (n := k) (by omega)
      have HR2 : Hid (Value.tuple #[.string ⟨#[]⟩, errV 1] = R) := by
        show _ = _
        rw [← HR.out, f1, f2]
      go_wp2
      go_ret2
      exact ⟨by rw [← HR2.out]; rfl, b1⟩
  · obtain ⟨f1, f2⟩ := opN_none (n := n) (by omega)
    rw [f1, f2]
    have HR2 : Hid (Value.tuple #[.string ⟨(#[] : Array UInt8)⟩, errV 1] = Value.tuple #[.string ⟨([] : List UInt8).toArray⟩, errV 1]) := rfl
    by_cases hn : n < 0
    · go_enter Tryd.func16, Tryd.ntmps16
      go_wp2_with fail
      refine (kindOps_any w henv).mono ?_
      rintro e w1 ⟨⟨q, c, rfl, hst⟩, b1⟩
      go_wp2
      go_ret2
      exact ⟨rfl, b1⟩
    · have hn2 : (17 : Int) ≤ n := by omega
      go_enter Tryd.func16, Tryd.ntmps16
      go_wp2_with fail
      refine (kindOps_any w henv).mono ?_
      rintro e w1 ⟨⟨q, c, rfl, hst⟩, b1⟩
      go_wp2
      go_ret2
      exact ⟨rfl, b1⟩
/-- An instruction: what, its number, the value. -/
abbrev I5 := Int × Int × Int × Int × ByteArray
def okI (i : I5) : Prop := (-9223372036854775808 ≤ i.2.1 ∧ i.2.1 ≤ 9223372036854775807) ∧ (-9223372036854775808 ≤ i.2.2.2.1 ∧ i.2.2.2.1 ≤ 9223372036854775807) ∧ i.2.2.2.2.size ≤ maxLen
/-- Instructions one behind the other. -/
def InsAt (w : World) (p : Option Addr) (is : List I5) : Prop := is.length = 0 ∨ ∃ b off, p = some ⟨b, off, none⟩ ∧ b < w.heap.size ∧ ∀ j (h : j < is.length), w.cell? ⟨b, off + j * 5, none⟩ = some (.int .i64 is[j].1) ∧ w.cell? ⟨b, off + j * 5 + 1, none⟩ = some (.int .i64 is[j].2.1) ∧ w.cell? ⟨b, off + j * 5 + 2, none⟩ = some (.int .i64 is[j].2.2.1) ∧ w.cell? ⟨b, off + j * 5 + 3, none⟩ = some (.int .i64 is[j].2.2.2.1) ∧ w.cell? ⟨b, off + j * 5 + 4, none⟩ = some (.string is[j].2.2.2.2)
theorem InsAt.on {w w' : World} {p : Option Addr} {is : List I5} (h : InsAt w p is) (hb : Below w.heap.size w w') : InsAt w' p is := by
  rcases h with h | ⟨b, off, e, hl, h⟩
  · exact .inl h
  · refine .inr ⟨b, off, e, by have := hb.size; omega, fun j hj => ?_⟩
    obtain ⟨h1, h2, h3, h4, h5⟩ := h j hj
    exact ⟨by rw [hb.cell (p := ⟨b, _, none⟩) hl]; exact h1, by rw [hb.cell (p := ⟨b, _, none⟩) hl]; exact h2, by rw [hb.cell (p := ⟨b, _, none⟩) hl]; exact h3, by rw [hb.cell (p := ⟨b, _, none⟩) hl]; exact h4, by rw [hb.cell (p := ⟨b, _, none⟩) hl]; exact h5⟩
end Go.Proofs.YtkoejkpjkcejcabDoor
