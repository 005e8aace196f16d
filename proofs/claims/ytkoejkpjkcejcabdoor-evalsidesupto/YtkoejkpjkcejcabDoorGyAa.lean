/-
  Val1, OwnS, ApM, Cmp, VlB, in one text.
-/
import Derived.Test.YtkoejkpjkcejcabDoorProg
import Derived.WalkKit
import Derived.Below
import Derived.Lib.Strings
import Derived.OwnWalk
import Derived.Laws.AppendOwn
import Derived.Deep.RegionLaw
import Derived.Deep.Heap
namespace Go.Proofs.YtkoejkpjkcejcabDoor
open Go.RowKit

theorem ret_int {k : IntKind} {a b : Int} (h : a = b) : Ending.returned (.int k a) = .returned (.int k b) := by rw [h]
theorem ret_bool {a b : Bool} (h : a = b) : Ending.returned (.bool a) = .returned (.bool b) := by rw [h]

/-- Has a text just the bytes that it may? -/
def plainB (l : List UInt8) : Bool := l.all fun c => decide (32 ≤ (c.toNat : Int)) && decide ((c.toNat : Int) ≤ 126)
theorem plain_take (s : ByteArray) (k : Nat) (h : k < s.size) : plainB (s.data.toList.take (k + 1)) = (plainB (s.data.toList.take k) && (decide (32 ≤ (s[k].toNat : Int)) && decide ((s[k].toNat : Int) ≤ 126))) := by
  rw [List.take_succ_eq_append_getElem (by simpa using h)]
  simp only [plainB, List.all_append, List.all_cons, List.all_nil, Bool.and_true]
  rfl
theorem plain_not (s : ByteArray) (k : Nat) (h : k < s.size) (hc : (s[k].toNat : Int) < 32 ∨ 126 < (s[k].toNat : Int)) : plainB s.data.toList = false := by
  have h2 : plainB (s.data.toList.take (k + 1)) = false := by
    rw [plain_take s k h]
    have : (decide (32 ≤ (s[k].toNat : Int)) && decide ((s[k].toNat : Int) ≤ 126)) = false := by
      rw [Bool.and_eq_false_iff, decide_eq_false_iff_not, decide_eq_false_iff_not]; omega
    rw [this, Bool.and_false]
  cases hp : plainB s.data.toList with
  | false => rfl
  | true =>
    exfalso
    have h3 : plainB (s.data.toList.take (k + 1)) = true := by
      simp only [plainB, List.all_eq_true] at hp ⊢
      exact fun x hx => hp x (List.mem_of_mem_take hx)
    rw [h2] at h3; exact Bool.noConfusion h3
theorem plain_of (s : ByteArray) (k : Nat) (h : s.size ≤ k) (hp : plainB (s.data.toList.take k) = true) : plainB s.data.toList = true := by
  rwa [List.take_of_length_le (by simpa using h)] at hp

set_option maxHeartbeats 400000 in
theorem hasTextBytes_any (s : ByteArray) (w : World) (hs : s.size ≤ maxLen) :
    Calls Tryd.prog 78 #[.string s] w fun e w' => e = .returned (.bool (plainB s.data.toList)) ∧ w' = w := by
  unfold maxLen at hs
  go_enter Tryd.func78, Tryd.ntmps78
  go_wp2
  go_loop [3] (fun i => ∃ k : Nat, k ≤ s.size ∧ i = .int .i64 k ∧ plainB (s.data.toList.take k) = true) (fun i => s.size - (intOf i).toNat)
  case atStart => exact ⟨0, Nat.zero_le _, rfl, rfl⟩
  case round =>
    obtain ⟨k, hk, rfl, hp⟩ := hrel
    have HP : Hid (plainB (s.data.toList.take k) = true) := hp
    clear hp
    by_cases hlt : k < s.size
    · have HN : Hid (∀ _ : (s[k].toNat : Int) < 32 ∨ 126 < (s[k].toNat : Int), plainB s.data.toList = false) := plain_not s k hlt
      have HT : Hid (plainB (s.data.toList.take (k + 1)) = (plainB (s.data.toList.take k) && (decide (32 ≤ (s[k].toNat : Int)) && decide ((s[k].toNat : Int) ≤ 126)))) := plain_take s k hlt
      go_wp2
      · go_ret
        exact ⟨ret_bool (HN.out (by omega)).symm, rfl⟩
      · go_round
        case rel =>
          refine ⟨k + 1, by omega, by go_num, ?_⟩
          rw [HT.out, HP.out]
          simp only [Bool.true_and, Bool.and_eq_true, decide_eq_true_eq]
          assumption
        case measure => simp [intOf]; omega
      · go_ret
        exact ⟨ret_bool (HN.out (by omega)).symm, rfl⟩
    · have HO := plain_of s k (by omega) HP.out
      go_wp2
      go_ret
      exact ⟨rfl, rfl⟩
/-- The fault of a value. -/
def chk (t n : Int) (l : List UInt8) : Int :=
  if ¬ (t = 1 ∨ t = 2 ∨ t = 3) ∨ (t = 2 ∧ n ≠ 0 ∧ n ≠ 1) then 1
  else if t = 3 ∧ 40 < l.length then 4
  else if t = 3 ∧ plainB l = false then 2
  else if (t ≠ 3 ∧ l ≠ []) ∨ (t = 3 ∧ n ≠ 0) then 3 else 0
/-- An error by its number. -/
def errV (k : Int) : Value := if k = 0 then .nilIface else .iface 37 (.int .i64 k)

theorem isType_yes (t : Int) (w : World) (h : t = 1 ∨ t = 2 ∨ t = 3) : Calls Tryd.prog 48 #[.int .i64 t] w fun e w' => e = .returned (.bool true) ∧ w' = w := by
  rcases h with rfl | rfl | rfl
  all_goals
    go_enter Tryd.func48, Tryd.ntmps48
    go_wp2
    go_ret
    exact ⟨rfl, rfl⟩
theorem isType_no (t : Int) (w : World) (h : ¬ (t = 1 ∨ t = 2 ∨ t = 3)) : Calls Tryd.prog 48 #[.int .i64 t] w fun e w' => e = .returned (.bool false) ∧ w' = w := by
  have h1 : (t == 1) = false := by simp; omega
  have h2 : (t == 2) = false := by simp; omega
  have h3 : (t == 3) = false := by simp; omega
  go_enter Tryd.func48, Tryd.ntmps48
  go_wp2
  go_ret
  exact ⟨rfl, rfl⟩

theorem errV_eq {k j : Int} (h : k = j) (hj : j ≠ 0) : Ending.returned (.iface 37 (.int .i64 j)) = .returned (errV k) := by
  rw [errV, if_neg (by omega), h]
theorem errV_nil {k : Int} (h : k = 0) : Ending.returned .nilIface = .returned (errV k) := by
  rw [errV, if_pos h]

def chkT (n : Int) (l : List UInt8) : Int := if 40 < l.length then 4 else if plainB l = false then 2 else if n ≠ 0 then 3 else 0
theorem chk_text (n : Int) (l : List UInt8) : chk 3 n l = chkT n l := by
  rw [chk, chkT, if_neg (by simp)]
  simp
set_option maxHeartbeats 1000000 in
theorem checkText_any (t n : Int) (s : ByteArray) (w : World) (hs : s.size ≤ maxLen) :
    Calls Tryd.prog 49 #[.agg #[.int .i64 t, .int .i64 n, .string s]] w fun e w' => e = .returned (errV (chkT n s.data.toList)) ∧ Below w.heap.size w w' := by
  have hs2 := hs
  unfold maxLen at hs2
  generalize hc : chkT n s.data.toList = c
  have HC : Hid (chkT n s.data.toList = c) := hc
  clear hc
  go_enter Tryd.func49, Tryd.ntmps49
  go_wp2_with (first | (go_at_call 78; refine (hasTextBytes_any _ _ hs).mono ?_; rintro e w' ⟨rfl, rfl⟩))
  all_goals
    go_ret
    refine ⟨?_, by repeat (first | exact Below.refl _ _ | (refine Below.alloc ?_ (by simp) _))⟩
    have hd : s.data.toList.length = s.size := by simp
    have hc := HC.out
    clear HC hs
    rw [chkT] at hc
    simp only [bne_iff_ne, bne_eq_false_iff_eq, Bool.not_eq_true', Bool.not_eq_false'] at *
  all_goals
    repeat' split at hc
  all_goals subst hc
  all_goals first | exact errV_eq rfl (by decide) | exact errV_nil rfl | (exfalso; omega) | (exfalso; simp_all; done) | (exfalso; simp_all; omega)
set_option maxHeartbeats 1000000 in
theorem check_any (t n : Int) (s : ByteArray) (w : World) (hs : s.size ≤ maxLen) :
    Calls Tryd.prog 20 #[.agg #[.int .i64 t, .int .i64 n, .string s]] w fun e w' => e = .returned (errV (chk t n s.data.toList)) ∧ Below w.heap.size w w' := by
  have hs2 := hs
  unfold maxLen at hs2
  by_cases h3 : t = 3
  · subst h3
    rw [chk_text]
    go_enter Tryd.func20, Tryd.ntmps20
    go_wp2_with (first | (go_at_call 48; refine (isType_yes _ _ (by omega)).mono ?_; rintro e w' ⟨rfl, rfl⟩) | (go_at_call 49; refine (checkText_any _ _ _ _ hs).mono ?_; rintro e w' ⟨rfl, hbT⟩))
    go_ret
    exact ⟨rfl, (((Below.refl _ _).alloc (Nat.le_refl _) _)).trans (hbT.mono (by simp))⟩
  · by_cases ht : t = 1 ∨ t = 2 ∨ t = 3
    · generalize hc : chk t n s.data.toList = c
      have HC : Hid (chk t n s.data.toList = c) := hc
      clear hc
      have e3 : (t == 3) = false := by simpa using h3
      have HT : Hid (t = 1 ∨ t = 2 ∨ t = 3) := ht
      go_enter Tryd.func20, Tryd.ntmps20
      go_wp2_with (first | (go_at_call 48; refine (isType_yes _ _ HT.out).mono ?_; rintro e w' ⟨rfl, rfl⟩))
      all_goals
        go_ret
        refine ⟨?_, by repeat (first | exact Below.refl _ _ | (refine Below.alloc ?_ (by simp) _))⟩
        have hd : s.data.toList.length = s.size := by simp
        have hc := HC.out
        have htt := HT.out
        clear HC HT hs
        rw [chk] at hc
        simp only [Lib.toList_data, bne_iff_ne, bne_eq_false_iff_eq, Bool.not_eq_true', Bool.not_eq_false'] at *
      all_goals
        repeat' split at hc
      all_goals subst hc
      all_goals first | exact errV_eq rfl (by decide) | exact errV_nil rfl | (exfalso; omega) | (exfalso; simp_all; done) | (exfalso; simp_all; omega)
    · have hc : chk t n s.data.toList = 1 := by rw [chk, if_pos (Or.inl ht)]
      have HC : Hid (chk t n s.data.toList = 1) := hc
      clear hc
      have HT : Hid (¬ (t = 1 ∨ t = 2 ∨ t = 3)) := ht
      clear ht h3
      go_enter Tryd.func20, Tryd.ntmps20
      go_wp2_with (first | (go_at_call 48; refine (isType_no _ _ HT.out).mono ?_; rintro e w' ⟨rfl, rfl⟩))
      go_ret
      exact ⟨errV_eq HC.out (by omega), by repeat (first | exact Below.refl _ _ | (refine Below.alloc ?_ (by simp) _))⟩
end Go.Proofs.YtkoejkpjkcejcabDoor
namespace Go.Proofs.YtkoejkpjkcejcabDoor
open Go.RowKit

theorem lown_slice {W : World} {base : Nat} {e : TypeId} {size : Nat} {v : Value} {n : Nat} {xs : List Value} (h : W.ownsRow base e size v n xs) : ∃ p c, v = .slice p n c := by
  rcases h.2 with ⟨rfl, rfl⟩ | ⟨g, cap, cur, rfl, _⟩
  · exact ⟨_, _, rfl⟩
  · exact ⟨_, _, rfl⟩
theorem lown_below {W W' : World} {base : Nat} {e : TypeId} {size : Nat} {v : Value} {n : Nat} {xs : List Value} (h : W.ownsRow base e size v n xs) (hb : Below W.heap.size W W') : W'.ownsRow base e size v n xs := by
  refine ⟨h.1, ?_⟩
  rcases h.2 with hn | ⟨g, cap, cur, rfl, h1, hgg, rest⟩
  · exact .inl hn
  · exact .inr ⟨g, cap, cur, rfl, h1, by rw [hb.block g (Array.getElem?_eq_some_iff.1 hgg).1]; exact hgg, rest⟩
end Go.Proofs.YtkoejkpjkcejcabDoor
namespace Go.Proofs.YtkoejkpjkcejcabDoor
open Go.RowKit
set_option linter.unusedVariables false

/-- append to a slice that is one's own, inside a statement that draws its order. -/
theorem step_append_mine {P : Program} {ops : Array Oper} {o : Oper} {a : Act} {w : World} {K : Act → World → Prop} {Q : Exit → Act → World → Prop} {E : Prop}
    (hg : o.guard = none) (s x : Operand) (t : TypeId) (hop : o.op = Op.call { callee := Callee.builtin Builtin.append, args := #[s, x], argTypes := #[t, t] })
    (base : Nat) (e : TypeId) (i : TypeInfo) (z : Value) (size bytes : Nat) (h1 : P.underlying t = some (.slice e)) (h2 : P.info? e = some i) (h3 : i.zero = some z) (h4 : i.size = size) (h5 : i.bytes = bytes) (h6 : z.cells.size = size) (h7 : 0 < size)
    (v : Value) (n : Nat) (xs : List Value) (hs : a.eval s = v) (hown : w.ownsRow base e size v n xs)
    (ad : Addr) (m c : Nat) (news : List Value) (hx : a.eval x = .slice (some ad) m c) (hn : news.length = m * size) (hc : ∀ j u, news[j]? = some u → w.cell? (ad.add j) = some u) (h1c : ∀ u ∈ news, u.oneCell' = true)
    (b1 : n + m ≤ maxLen) (b2 : (n + m) * bytes ≤ 140737488355328) (hb : base ≤ w.heap.size)
    (hK : ∀ q' c' w', w'.ownsRow base e size (.slice q' (n + m) c') (n + m) (xs ++ news) → w.grownBy w' v.ownBlock → K (a.put o.dst (.slice q' (n + m) c')) w') :
    if Region.wanted o (yielded ops a.tmps) = true then Oper.wp P o a w K Q else E := by
  have hw : Region.wanted o (yielded ops a.tmps) = true := by simp [Region.wanted, hg]
  rw [if_pos hw]
  obtain ⟨v', w', hrun, r1, r2, _⟩ := run_append_own (P := P) w base t o.type e i z size bytes h1 h2 h3 h4 h5 h6 h7 v n xs hown ad m c news hn hc h1c b1 b2 hb
  obtain ⟨q', c', rfl⟩ := lown_slice r1
  unfold Oper.wp
  simp [execOp, hop, resolve, invoke, builtin, hs, hx, hrun, Result.andThen]
  exact hK q' c' w' r1 r2
end Go.Proofs.YtkoejkpjkcejcabDoor
namespace Go.Proofs.YtkoejkpjkcejcabDoor
open Go.RowKit

theorem bytesLess_lt : ∀ (x y : List UInt8), Op.bytesLess x y = decide (x < y)
  | [], [] => by simp [Op.bytesLess]
  | _ :: _, [] => by simp [Op.bytesLess]
  | [], _ :: _ => by simp [Op.bytesLess]
  | a :: x, b :: y => by
    rw [Op.bytesLess, bytesLess_lt x y]
    simp only [List.cons_lt_cons_iff]
    by_cases h1 : a < b <;> by_cases h2 : a = b <;> by_cases h3 : x < y <;> simp [h1, h2, h3]

def cmpI (x y : Int) : Int := if x < y then -1 else if y < x then 1 else 0
def cmpS (x y : List UInt8) : Int := if x < y then -1 else if y < x then 1 else 0

theorem cmp_int (x y : Int) (w : World) : Calls Tryd.prog 119 #[.int .i64 x, .int .i64 y] w fun e w' => e = .returned (.int .i64 (cmpI x y)) ∧ w' = w := by
  have hx : (x != x) = false := by simp
  by_cases h1 : x < y
  · have hc : cmpI x y = -1 := by rw [cmpI, if_pos h1]
    rw [hc]
    go_enter Tryd.func119, Tryd.ntmps119
    go_wp2
    go_ret
    exact ⟨rfl, rfl⟩
  · by_cases h2 : y < x
    · have hc : cmpI x y = 1 := by rw [cmpI, if_neg h1, if_pos h2]
      rw [hc]
      go_enter Tryd.func119, Tryd.ntmps119
      go_wp2
      go_ret
      exact ⟨rfl, rfl⟩
    · have hc : cmpI x y = 0 := by rw [cmpI, if_neg h1, if_neg h2]
      rw [hc]
      go_enter Tryd.func119, Tryd.ntmps119
      go_wp2
      go_ret
      exact ⟨rfl, rfl⟩
theorem run_gtr_str (x y : ByteArray) (w : World) : Sem.run Tryd.prog (binOp .gtr 9 (.string x) (.string y)) w = .ok (.bool !(Op.bytesLess x.toList y.toList || x.toList == y.toList)) w := by
  simp [binOp, Op.stringOp]
theorem cmp_str (x y : ByteArray) (w : World) : Calls Tryd.prog 118 #[.string x, .string y] w fun e w' => e = .returned (.int .i64 (cmpS x.data.toList y.data.toList)) ∧ w' = w := by
  by_cases h1 : x.data.toList < y.data.toList
  · have hc : cmpS x.data.toList y.data.toList = -1 := by rw [cmpS, if_pos h1]
    have hl : Op.bytesLess x.toList y.toList = true := by rw [bytesLess_lt, Lib.toList_data, Lib.toList_data]; simpa using h1
    rw [hc]
    clear h1 hc
    go_enter Tryd.func118, Tryd.ntmps118
    go_wp2
    go_ret
    exact ⟨rfl, rfl⟩
  · have hl : Op.bytesLess x.toList y.toList = false := by rw [bytesLess_lt, Lib.toList_data, Lib.toList_data]; simpa using h1
    by_cases h2 : y.data.toList < x.data.toList
    · have hc : cmpS x.data.toList y.data.toList = 1 := by rw [cmpS, if_neg h1, if_pos h2]
      have hm : ¬ x.toList = y.toList := by rw [Lib.toList_data, Lib.toList_data]; intro e; rw [e] at h2; exact List.lt_irrefl _ h2
      have hq : (x.toList == y.toList) = false := by simpa using hm
      have hr := run_gtr_str x y w
      rw [hl, hq] at hr
      clear hm hq
      rw [hc]
      clear h1 h2 hc
      go_enter Tryd.func118, Tryd.ntmps118
      go_wp2
      go_ret
      exact ⟨rfl, rfl⟩
    · have hc : cmpS x.data.toList y.data.toList = 0 := by rw [cmpS, if_neg h1, if_neg h2]
      have hm : x.data.toList = y.data.toList := List.le_antisymm (List.not_lt.1 h2) (List.not_lt.1 h1)
      obtain rfl : x = y := by cases x; cases y; simp_all
      have hr := run_gtr_str x x w
      rw [hl, beq_self_eq_true] at hr
      rw [hc]
      clear h1 h2 hc
      go_enter Tryd.func118, Tryd.ntmps118
      go_wp2
      go_ret
      exact ⟨rfl, rfl⟩

theorem bcell {W w1 : World} (hb : Below W.heap.size W w1) : (∀ b o, b < W.heap.size → w1.cell? ⟨b, o, none⟩ = W.cell? ⟨b, o, none⟩) ∧ (∀ b o, b < W.heap.size → w1.frozen? ⟨b, o, none⟩ = W.frozen? ⟨b, o, none⟩) :=
  ⟨fun b o h => hb.cell (p := ⟨b, o, none⟩) h, fun b o h => hb.frozen (p := ⟨b, o, none⟩) h⟩
theorem check_ok (t n : Int) (s : ByteArray) (w : World) (hs : s.size ≤ maxLen) (h : chk t n s.data.toList = 0) :
    Calls Tryd.prog 20 #[.agg #[.int .i64 t, .int .i64 n, .string s]] w fun e w' => e = .returned .nilIface ∧ Below w.heap.size w w' :=
  (check_any t n s w hs).mono fun e w' hh => ⟨by rw [hh.1, h, errV, if_pos rfl], hh.2⟩
theorem check_bad (t n : Int) (s : ByteArray) (w : World) (hs : s.size ≤ maxLen) (h : chk t n s.data.toList ≠ 0) :
    Calls Tryd.prog 20 #[.agg #[.int .i64 t, .int .i64 n, .string s]] w fun e w' => e = .returned (.iface 37 (.int .i64 (chk t n s.data.toList))) ∧ Below w.heap.size w w' :=
  (check_any t n s w hs).mono fun e w' hh => ⟨by rw [hh.1, errV, if_neg h], hh.2⟩

def cmpE (t n : Int) (l : List UInt8) (t' n' : Int) (l' : List UInt8) : Int :=
  if chk t n l ≠ 0 then chk t n l else if chk t' n' l' ≠ 0 then chk t' n' l' else if t ≠ t' then 8 else 0
def cmpN (t n : Int) (l : List UInt8) (t' n' : Int) (l' : List UInt8) : Int :=
  if cmpE t n l t' n' l' ≠ 0 then 0 else if t = 3 then cmpS l l' else cmpI n n'
theorem cmp_ret {a b j : Int} {x : Value} (ha : a = b) (hx : x = errV j) : Ending.returned (.tuple #[.int .i64 a, x]) = .returned (.tuple #[.int .i64 b, errV j]) := by rw [ha, hx]

set_option maxHeartbeats 1000000 in
theorem compare_any (t n : Int) (s : ByteArray) (t' n' : Int) (s' : ByteArray) (w : World) (hs : s.size ≤ maxLen) (hs' : s'.size ≤ maxLen) :
    Calls Tryd.prog 91 #[.agg #[.int .i64 t, .int .i64 n, .string s], .agg #[.int .i64 t', .int .i64 n', .string s']] w fun e w' => e = .returned (.tuple #[.int .i64 (cmpN t n s.data.toList t' n' s'.data.toList), errV (cmpE t n s.data.toList t' n' s'.data.toList)]) ∧ Below w.heap.size w w' := by
  by_cases h1 : chk t n s.data.toList = 0
  · by_cases h2 : chk t' n' s'.data.toList = 0
    · have H1 : Hid (chk t n s.data.toList = 0) := h1
      have H2 : Hid (chk t' n' s'.data.toList = 0) := h2
      have HE : Hid (cmpE t n s.data.toList t' n' s'.data.toList = if t ≠ t' then 8 else 0) := by rw [cmpE, if_neg (by simp [h1]), if_neg (by simp [h2])]; exact rfl
      clear h1 h2
      go_enter Tryd.func91, Tryd.ntmps91
      go_wp2_with fail
      refine (check_ok _ _ _ _ hs H1.out).mono ?_
      rintro e w1 ⟨rfl, b1⟩
      obtain ⟨hc, hf⟩ := bcell b1
      have hz : w.heap.size + 1 < w1.heap.size := by have := b1.size; simp at this; omega
      have hy : w.heap.size < w1.heap.size := by omega
      go_wp2_with fail
      refine (check_ok _ _ _ _ hs' H2.out).mono ?_
      rintro e w2 ⟨rfl, b2⟩
      obtain ⟨hc2, hf2⟩ := bcell b2
      have hz2 : w.heap.size + 1 < w2.heap.size := by have := b2.size; omega
      by_cases ht : t = t'
      · subst ht
        have hE : cmpE t n s.data.toList t n' s'.data.toList = 0 := by rw [HE.out, if_neg (by simp)]
        by_cases h3 : t = 3
        · subst h3
          have HN : Hid (cmpN 3 n s.data.toList 3 n' s'.data.toList = cmpS s.data.toList s'.data.toList) := by rw [cmpN, if_neg (by simp [hE]), if_pos rfl]; exact rfl
          have HE2 : Hid (cmpE 3 n s.data.toList 3 n' s'.data.toList = 0) := hE
          clear hE HE
          go_wp2_with fail
          refine (cmp_str s s' _).mono ?_
          rintro e w3 ⟨rfl, rfl⟩
          go_wp2
          go_ret2
          refine ⟨cmp_ret HN.out.symm (by rw [HE2.out, errV, if_pos rfl]; rfl), ?_⟩
          exact (((Below.refl _ _).alloc (Nat.le_refl _) _).alloc (by simp) _).trans ((b1.mono (by simp; omega)).trans (b2.mono (by omega)))
        · have HN : Hid (cmpN t n s.data.toList t n' s'.data.toList = cmpI n n') := by rw [cmpN, if_neg (by simp [hE]), if_neg h3]; exact rfl
          have HE2 : Hid (cmpE t n s.data.toList t n' s'.data.toList = 0) := hE
          clear hE HE
          have e3 : (t == 3) = false := by simpa using h3
          go_wp2_with fail
          refine (cmp_int n n' _).mono ?_
          rintro e w3 ⟨rfl, rfl⟩
          go_wp2
          go_ret2
          refine ⟨cmp_ret HN.out.symm (by rw [HE2.out, errV, if_pos rfl]; rfl), ?_⟩
          exact (((Below.refl _ _).alloc (Nat.le_refl _) _).alloc (by simp) _).trans ((b1.mono (by simp; omega)).trans (b2.mono (by omega)))
      · have hE : cmpE t n s.data.toList t' n' s'.data.toList = 8 := by rw [HE.out, if_pos ht]
        have HN : Hid (cmpN t n s.data.toList t' n' s'.data.toList = 0) := by rw [cmpN, if_pos (by rw [hE]; decide)]; exact rfl
        have HE2 : Hid (cmpE t n s.data.toList t' n' s'.data.toList = 8) := hE
        clear hE HE
        have et : (t != t') = true := by simpa using ht
        go_wp2
        go_ret2
        refine ⟨cmp_ret HN.out.symm (by rw [HE2.out, errV, if_neg (by decide)]; rfl), ?_⟩
        exact (((Below.refl _ _).alloc (Nat.le_refl _) _).alloc (by simp) _).trans ((b1.mono (by simp; omega)).trans (b2.mono (by omega)))
    · have H1 : Hid (chk t n s.data.toList = 0) := h1
      have H2 : Hid (chk t' n' s'.data.toList ≠ 0) := h2
      have HE : Hid (cmpE t n s.data.toList t' n' s'.data.toList = chk t' n' s'.data.toList) := by rw [cmpE, if_neg (by simp [h1]), if_pos h2]; exact rfl
      clear h1 h2
      go_enter Tryd.func91, Tryd.ntmps91
      go_wp2_with fail
      refine (check_ok _ _ _ _ hs H1.out).mono ?_
      rintro e w1 ⟨rfl, b1⟩
      obtain ⟨hc, hf⟩ := bcell b1
      have hz : w.heap.size + 1 < w1.heap.size := by have := b1.size; simp at this; omega
      have hy : w.heap.size < w1.heap.size := by omega
      go_wp2_with fail
      refine (check_bad _ _ _ _ hs' H2.out).mono ?_
      rintro e w2 ⟨rfl, b2⟩
      go_wp2
      go_ret2
      refine ⟨?_, ?_⟩
      · have hE := HE.out
        refine cmp_ret ?_ ?_
        · rw [cmpN, if_pos (by rw [hE]; exact H2.out)]
        · rw [hE, errV, if_neg H2.out]; rfl
      · exact (((Below.refl _ _).alloc (Nat.le_refl _) _).alloc (by simp) _).trans ((b1.mono (by simp; omega)).trans (b2.mono (by omega)))
  · have H1 : Hid (chk t n s.data.toList ≠ 0) := h1
    have HE : Hid (cmpE t n s.data.toList t' n' s'.data.toList = chk t n s.data.toList) := by rw [cmpE, if_pos h1]; exact rfl
    clear h1
    go_enter Tryd.func91, Tryd.ntmps91
    go_wp2_with fail
    refine (check_bad _ _ _ _ hs H1.out).mono ?_
    rintro e w1 ⟨rfl, b1⟩
    go_wp2
    go_ret2
    refine ⟨?_, ?_⟩
    · have hE := HE.out
      refine cmp_ret ?_ ?_
      · rw [cmpN, if_pos (by rw [hE]; exact H1.out)]
      · rw [hE, errV, if_neg H1.out]; rfl
    · exact (((Below.refl _ _).alloc (Nat.le_refl _) _).alloc (by simp) _).trans (b1.mono (by simp; omega))
end Go.Proofs.YtkoejkpjkcejcabDoor
namespace Go.Proofs.YtkoejkpjkcejcabDoor
open Go.RowKit
set_option linter.unusedVariables false

/-- A value: its type, number and text. -/
abbrev V3 := Int × Int × ByteArray
def inB (n : Int) : Prop := -9223372036854775808 ≤ n ∧ n ≤ 9223372036854775807
def noV : V3 := (0, 0, ⟨#[]⟩)
/-- A value that is right. -/
def okV (t : Int) (v : V3) : Prop := v.1 = t ∧ chk v.1 v.2.1 v.2.2.data.toList = 0 ∧ inB v.2.1
theorem chk_two {n : Int} {l : List UInt8} (h : chk 2 n l = 0) : (n = 0 ∨ n = 1) ∧ l = [] := by
  unfold chk at h
  by_cases h0 : n = 0 ∨ n = 1
  · refine ⟨h0, ?_⟩
    by_cases hl : l = []
    · exact hl
    · simp [hl] at h
      split at h <;> omega
  · rw [if_pos (by right; simp at h0; exact ⟨rfl, h0⟩)] at h
    omega
theorem chk_one {n : Int} {l : List UInt8} (h : chk 1 n l = 0) : l = [] := by
  unfold chk at h
  by_cases hl : l = []
  · exact hl
  · simp [hl] at h
theorem chk_three {n : Int} {l : List UInt8} (h : chk 3 n l = 0) : l.length ≤ 40 ∧ n = 0 := by
  rw [chk_text, chkT] at h
  split at h
  · omega
  · split at h
    · omega
    · split at h
      · omega
      · rename_i h1 _ h3
        exact ⟨by omega, by simpa using h3⟩
theorem chk_size {t n : Int} {l : List UInt8} (h : chk t n l = 0) : l.length ≤ 40 := by
  by_cases h1 : t = 1
  · subst h1; rw [chk_one h]; simp
  · by_cases h2 : t = 2
    · subst h2; rw [(chk_two h).2]; simp
    · by_cases h3 : t = 3
      · subst h3; exact (chk_three h).1
      · unfold chk at h
        rw [if_pos (by left; omega)] at h
        omega
/-- What lies in a block that was made stays, where only later blocks turn. -/
theorem box_at (w : World) (cs : Array Value) (t : TypeId) {W : World} {n : Nat} (hb : Below n (w.alloc (.cells cs t)) W) (hn : w.heap.size < n) : (∀ i, W.cell? ⟨w.heap.size, i, none⟩ = cs[i]?) ∧ (∀ o, W.frozen? ⟨w.heap.size, o, none⟩ = false) ∧ w.heap.size < W.heap.size := by
  have hz := hb.size
  simp at hz
  exact ⟨fun i => by rw [hb.cell (p := ⟨w.heap.size, i, none⟩) hn, World.cell?_alloc_at _ _ _ _ rfl], fun o => by rw [hb.frozen (p := ⟨w.heap.size, o, none⟩) hn, World.frozen?_alloc_at _ _ _ _ rfl], by omega⟩
theorem alB (w : World) (o : Obj) : Below w.heap.size w (w.alloc o) := (Below.refl _ _).alloc (Nat.le_refl _) o
/-- Values one behind the other. -/
def ValsAt (w : World) (p : Option Addr) (vs : List V3) : Prop := vs.length = 0 ∨ ∃ b off, p = some ⟨b, off, none⟩ ∧ b < w.heap.size ∧ ∀ j (h : j < vs.length), w.cell? ⟨b, off + j * 3, none⟩ = some (.int .i64 vs[j].1) ∧ w.cell? ⟨b, off + j * 3 + 1, none⟩ = some (.int .i64 vs[j].2.1) ∧ w.cell? ⟨b, off + j * 3 + 2, none⟩ = some (.string vs[j].2.2)
theorem ValsAt.on {w w' : World} {p : Option Addr} {vs : List V3} (h : ValsAt w p vs) (hb : Below w.heap.size w w') : ValsAt w' p vs := by
  rcases h with h | ⟨b, off, e, hl, h⟩
  · exact .inl h
  · refine .inr ⟨b, off, e, by have := hb.size; omega, fun j hj => ?_⟩
    obtain ⟨h1, h2, h3⟩ := h j hj
    exact ⟨by rw [hb.cell (p := ⟨b, _, none⟩) hl]; exact h1, by rw [hb.cell (p := ⟨b, _, none⟩) hl]; exact h2, by rw [hb.cell (p := ⟨b, _, none⟩) hl]; exact h3⟩
/-- One value at a place. -/
def One (w : World) (b o : Nat) (t n : Int) (s : ByteArray) : Prop := w.cell? ⟨b, o, none⟩ = some (.int .i64 t) ∧ w.cell? ⟨b, o + 1, none⟩ = some (.int .i64 n) ∧ w.cell? ⟨b, o + 2, none⟩ = some (.string s)
theorem One.on {w w' : World} {b o : Nat} {t n : Int} {s : ByteArray} (h : One w b o t n s) (hl : b < w.heap.size) (hb : Below w.heap.size w w') : One w' b o t n s :=
  ⟨by rw [hb.cell (p := ⟨b, _, none⟩) hl]; exact h.1, by rw [hb.cell (p := ⟨b, _, none⟩) hl]; exact h.2.1, by rw [hb.cell (p := ⟨b, _, none⟩) hl]; exact h.2.2⟩
/-- A slice of values. -/
def ValsV (w : World) (v : Value) (rs : List V3) : Prop := ∃ q c, v = .slice q rs.length c ∧ rs.length ≤ maxLen ∧ ValsAt w q rs
theorem ValsV.on {w w' : World} {v : Value} {rs : List V3} (h : ValsV w v rs) (hb : Below w.heap.size w w') : ValsV w' v rs := by
  obtain ⟨q, c, e, h1, h2⟩ := h
  exact ⟨q, c, e, h1, h2.on hb⟩
/-- Texts and numbers as a machine has them. -/
def SizedV (rs : List V3) : Prop := ∀ r ∈ rs, r.2.2.size ≤ maxLen ∧ inB r.2.1
def vcells : List V3 → List Value
  | [] => []
  | v :: vs => .int .i64 v.1 :: .int .i64 v.2.1 :: .string v.2.2 :: vcells vs
theorem vcells_at : ∀ {vs : List V3} {j : Nat} (h : j < vs.length), (vcells vs)[j * 3]? = some (.int .i64 vs[j].1) ∧ (vcells vs)[j * 3 + 1]? = some (.int .i64 vs[j].2.1) ∧ (vcells vs)[j * 3 + 2]? = some (.string vs[j].2.2)
  | v :: vs, 0, _ => ⟨rfl, rfl, rfl⟩
  | v :: vs, j + 1, h => by
    have := vcells_at (vs := vs) (j := j) (by simpa using h)
    rw [vcells, show (j + 1) * 3 = j * 3 + 3 by omega]
    simpa using this
  | [], _, h => absurd h (by simp)
theorem vcells_len : ∀ vs : List V3, (vcells vs).length = vs.length * 3
  | [] => rfl
  | v :: vs => by rw [vcells]; simp [vcells_len vs]; omega
theorem vcells_append : ∀ (a b : List V3), vcells (a ++ b) = vcells a ++ vcells b
  | [], b => rfl
  | v :: vs, b => by rw [List.cons_append, vcells, vcells, vcells_append vs b]; rfl
theorem ownVals {W : World} {B : Nat} {q : Option Addr} {c n : Nat} {vs : List V3} (hn : vs.length = n) (h : W.ownsRow B 23 3 (.slice q n c) n (vcells vs)) : ValsAt W q vs := by
  by_cases h0 : vs.length = 0
  · exact .inl h0
  · refine .inr ?_
    rcases h.2 with ⟨e1, _⟩ | ⟨g, cap, cur, e1, hb, hg, hm, hx, hs, ht⟩
    · injection e1 with e1 e2; omega
    · injection e1 with e1 e2 e3
      subst e1
      refine ⟨g, 0, rfl, (Array.getElem?_eq_some_iff.1 hg).1, fun j hj => ?_⟩
      obtain ⟨a0, a1, a2⟩ := vcells_at hj
      have h1 := h.cells (g := g) rfl _ _ a0
      have h2 := h.cells (g := g) rfl _ _ a1
      have h3 := h.cells (g := g) rfl _ _ a2
      rw [Go.WideShapes.add_plain] at h1 h2 h3
      exact ⟨by simpa using h1, by simpa [Nat.add_assoc] using h2, by simpa [Nat.add_assoc] using h3⟩
theorem info_val : (Tryd.prog.info? 23).map (fun i => (i.zero, i.size, i.bytes)) = some (some (.agg #[.int .i64 0, .int .i64 0, .string ⟨#[]⟩]), 3, 32) := by kernel_rfl
end Go.Proofs.YtkoejkpjkcejcabDoor
