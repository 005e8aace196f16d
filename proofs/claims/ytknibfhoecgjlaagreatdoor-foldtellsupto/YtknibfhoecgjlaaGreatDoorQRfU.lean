/-
  The document's uses: the names of columns, put into a list that rises. (Written by wip/gen_rfu.py.)
-/
import Derived.Test.YtknibfhoecgjlaaGreatDoorGrAn
import Derived.Test.YtknibfhoecgjlaaGreatDoorGrAp
import Derived.Test.YtknibfhoecgjlaaGreatDoorGrAa
import Derived.BigQuiet
import Derived.WalkSmall
import Derived.OwnWalk
import Derived.Laws.AppendOwnNone
import Derived.Deep.QuietTactic
import Derived.Deep.LoopGhost
namespace Go.Proofs.YtknibfhoecgjlaaGreatDoor
open Go.RowKit
set_option linter.unusedVariables false

--PLAIN
/-- A name that is there already, ahead of greater ones. -/
theorem insN_there {n : List UInt8} : ∀ {l : List (List UInt8)} {k : Nat}, l.Pairwise (fun a b => a ≤ b ∧ a ≠ b) → l[k]? = some n → insN n l = l
  | [], k, _, h => by simp at h
  | a :: l, 0, _, h => by
    have : a = n := by simpa using h
    rw [insN, if_pos this]
  | a :: l, k + 1, hp, h => by
    obtain ⟨h1, h2⟩ := List.pairwise_cons.1 hp
    have hk : l[k]? = some n := by simpa using h
    have ha := h1 n (List.mem_of_getElem? hk)
    rw [insN, if_neg ha.2, if_pos ha.1, insN_there h2 hk]
/-- A name that comes behind the first k, which are less, and ahead of the others, which are greater. -/
theorem insN_new {n : List UInt8} : ∀ {l : List (List UInt8)} {k : Nat}, l.Pairwise (fun a b => a ≤ b ∧ a ≠ b) → k ≤ l.length → (∀ j, k ≤ j → ∀ b, l[j]? = some b → n < b) → (k = 0 ∨ ∃ a, l[k - 1]? = some a ∧ a ≤ n ∧ a ≠ n) → insN n l = l.take k ++ n :: l.drop k
  | [], k, _, hk, _, _ => by
    have : k = 0 := by simpa using hk
    subst this; rfl
  | a :: l, 0, _, _, hg, _ => by
    have hlt := hg 0 (Nat.le_refl _) a rfl
    have hne : a ≠ n := fun e => by subst e; exact List.lt_irrefl _ hlt
    rw [insN, if_neg hne, if_neg (List.not_le.2 hlt)]
    rfl
  | a :: l, k + 1, hp, hk, hg, hl => by
    obtain ⟨h1, h2⟩ := List.pairwise_cons.1 hp
    have hl' := hl.resolve_left (Nat.succ_ne_zero k)
    obtain ⟨c, hc, hcn, hcne⟩ := hl'
    rw [Nat.add_sub_cancel] at hc
    have hag : a ≤ n ∧ a ≠ n := by
      cases k with
      | zero => have : a = c := by simpa using hc
                subst this; exact ⟨hcn, hcne⟩
      | succ k =>
        have hm := h1 c (List.mem_of_getElem? (i := k) (by simpa using hc))
        refine ⟨List.le_trans hm.1 hcn, fun e => ?_⟩
        subst e
        exact hcne (List.le_antisymm hcn hm.1)
    rw [insN, if_neg hag.2, if_pos hag.1, insN_new h2 (by simpa using hk) (fun j hj b hb => hg (j + 1) (by omega) b (by simpa using hb)) ?_]
    · rfl
    · cases k with
      | zero => exact .inl rfl
      | succ k => exact .inr ⟨c, by simpa using hc, hcn, hcne⟩
theorem insN_len (n : List UInt8) : ∀ l, (insN n l).length ≤ l.length + 1
  | [] => by simp [insN]
  | a :: l => by
    rw [insN]
    split
    · simp
    · split
      · have := insN_len n l; simp; omega
      · simp
theorem foldl_insN_len : ∀ (ns l : List (List UInt8)), (ns.foldl (fun l n => insN n l) l).length ≤ l.length + ns.length
  | [], l => by simp
  | n :: ns, l => by
    have := foldl_insN_len ns (insN n l)
    have := insN_len n l
    simp only [List.foldl_cons, List.length_cons]
    omega
--PLAINEND
/-- A text's bytes. -/
abbrev toL (b : ByteArray) : List UInt8 := b.data.toList
/-- Texts one behind the other; none of them, and they may lie nowhere. -/
def StsA (w : World) (v : Value) (ts : List ByteArray) : Prop := ∃ p c, v = .slice p ts.length c ∧ (ts.length ≤ c ∧ ts.length ≤ 1048576) ∧ (p = none → c = 0) ∧ ∀ a, p = some a → ∃ g off, a = ⟨g, off, none⟩ ∧ g < w.heap.size ∧ ∀ j (h : j < ts.length), w.cell? ⟨g, off + j, none⟩ = some (.string ts[j])
theorem StsA.on {w w' : World} {v : Value} {ts : List ByteArray} (h : StsA w v ts) (hb : Below w.heap.size w w') : StsA w' v ts := by
  obtain ⟨p, c, e, h1, h2, h3⟩ := h
  refine ⟨p, c, e, h1, h2, fun a ha => ?_⟩
  obtain ⟨g, off, e2, h5, h6⟩ := h3 a ha
  exact ⟨g, off, e2, by have := hb.size; omega, fun j hj => by rw [hb.cell (p := ⟨g, off + j, none⟩) h5]; exact h6 j hj⟩
theorem StsA.nil (w : World) : StsA w (.slice none 0 0) [] := ⟨none, 0, rfl, ⟨Nat.le_refl _, Nat.zero_le _⟩, fun _ => rfl, fun a h => nomatch h⟩
theorem sts_own {w : World} {B : Nat} {v : Value} {n : Nat} {ts : List ByteArray} (hn : ts.length = n) (hl : n ≤ 1048576) (h : w.ownsRow B 9 1 v n (ts.map .string)) : StsA w v ts := by
  subst hn
  rcases id h.2 with ⟨rfl, e⟩ | ⟨g, cap, cur, rfl, hb, hg, hm, hx, hs, ht⟩
  · exact ⟨none, 0, by rw [e], ⟨by omega, by omega⟩, fun _ => rfl, fun a ha => nomatch ha⟩
  · refine ⟨some ⟨g, 0, none⟩, cap, rfl, ⟨by omega, hl⟩, (fun hp => nomatch hp), fun a ha => ?_⟩
    injection ha with ha
    subst ha
    refine ⟨g, 0, rfl, (Array.getElem?_eq_some_iff.1 hg).1, fun j hj => ?_⟩
    have := h.cells (g := g) rfl j (.string ts[j]) (by rw [List.getElem?_map, List.getElem?_eq_getElem hj]; rfl)
    rw [Go.WideShapes.add_plain] at this
    exact this
theorem sts_some {w : World} {q : Option Addr} {n c m : Nat} {bs : List ByteArray} (h : StsA w (.slice q n c) bs) (hm : m < bs.length) : ∃ g off, q = some ⟨g, off, none⟩ ∧ g < w.heap.size ∧ ∀ j (h : j < bs.length), w.cell? ⟨g, off + j, none⟩ = some (.string bs[j]) := by
  obtain ⟨p', c', e, ⟨h1, h64⟩, h2, h3⟩ := h
  injection e with e1 e2 e3
  subst e1 e3
  cases q with
  | none => have := h2 rfl; omega
  | some a =>
    obtain ⟨g, off, rfl, h5, h6⟩ := h3 a rfl
    exact ⟨g, off, rfl, h5, h6⟩
theorem sts_slice_l {w : World} {p : Option Addr} {n c l : Nat} {ts : List ByteArray} (h : StsA w (.slice p n c) ts) (hn : ts.length = n) (hl : l ≤ n) : ∃ p1 c1, (∀ W, Sem.run Tryz.prog (Instr.slice 38 (.slice p n c) (some (.int .i64 (l : Int))) none none) W = .ok (.slice p1 (n - l) c1) W) ∧ StsA w (.slice p1 (n - l) c1) (ts.drop l) := by
  subst hn
  obtain ⟨p', c', e, ⟨h1, h64⟩, h2, h3⟩ := h
  injection e with e1 e2 e3
  subst e1 e3
  have hr : ∀ W, Sem.run Tryz.prog (Instr.slice 38 (.slice p ts.length c) (some (.int .i64 (l : Int))) none none) W = .ok (sliced p l ts.length c 1) W := fun W => by
    have g0 : (0 : Int) ≤ (l : Int) := by omega
    have g1 : (l : Int) ≤ (ts.length : Int) := by omega
    have g2 : Sem.run Tryz.prog (Go.sizeOf (Tryz.prog.elem 38)) W = .ok 1 W := by kernel_rfl
    rw [run_slice_l W 38 p ts.length c (by kernel_rfl) .i64 l g0 g1, g2]
    rfl
  by_cases hcl : c = l
  · refine ⟨p, c - l, fun W => by rw [hr W, sliced, if_pos hcl], p, c - l, by rw [List.length_drop], ⟨by rw [List.length_drop]; omega, by rw [List.length_drop]; omega⟩, fun hp => by have := h2 hp; omega, fun a ha => ?_⟩
    obtain ⟨g, off, e2, h5, h6⟩ := h3 a ha
    exact ⟨g, off, e2, h5, fun j hj => absurd hj (by rw [List.length_drop]; omega)⟩
  · cases p with
    | none => exact absurd (h2 rfl) (by omega)
    | some a =>
      obtain ⟨g, off, rfl, h5, h6⟩ := h3 a rfl
      refine ⟨some ⟨g, off + l * 1, none⟩, c - l, fun W => by rw [hr W, sliced, if_neg hcl, Option.map_some, Go.WideShapes.add_plain], some ⟨g, off + l * 1, none⟩, c - l, by rw [List.length_drop], ⟨by rw [List.length_drop]; omega, by rw [List.length_drop]; omega⟩, (fun hp => nomatch hp), fun a ha => ?_⟩
      injection ha with ha
      subst ha
      refine ⟨g, off + l * 1, rfl, h5, fun j hj => ?_⟩
      rw [List.length_drop] at hj
      have := h6 (l + j) (by omega)
      rw [List.getElem_drop, show off + l * 1 + j = off + (l + j) by omega]
      exact this
theorem sts_slice_h {w : World} {p : Option Addr} {n c l : Nat} {ts : List ByteArray} (h : StsA w (.slice p n c) ts) (hn : ts.length = n) (hl : l ≤ n) : ∃ p1 c1, (∀ W, Sem.run Tryz.prog (Instr.slice 38 (.slice p n c) none (some (.int .i64 (l : Int))) none) W = .ok (.slice p1 l c1) W) ∧ StsA w (.slice p1 l c1) (ts.take l) := by
  subst hn
  obtain ⟨p', c', e, ⟨h1, h64⟩, h2, h3⟩ := h
  injection e with e1 e2 e3
  subst e1 e3
  have hr : ∀ W, Sem.run Tryz.prog (Instr.slice 38 (.slice p ts.length c) none (some (.int .i64 (l : Int))) none) W = .ok (sliced p 0 l c 1) W := fun W => by
    have g0 : (0 : Int) ≤ (l : Int) := by omega
    have g1 : (l : Int) ≤ (c : Int) := by omega
    have g2 : Sem.run Tryz.prog (Go.sizeOf (Tryz.prog.elem 38)) W = .ok 1 W := by kernel_rfl
    rw [run_slice_h W 38 p ts.length c (by kernel_rfl) .i64 l g0 g1, g2]
    rfl
  have hlen : (ts.take l).length = l := by rw [List.length_take]; omega
  refine ⟨p, c, fun W => ?_, p, c, by rw [hlen], ⟨by omega, by omega⟩, h2, fun a ha => ?_⟩
  · rw [hr W, sliced]
    cases p with
    | none => simp
    | some a =>
      obtain ⟨g, off, rfl, -⟩ := h3 a rfl
      simp [Addr.add]
  · obtain ⟨g, off, e2, h5, h6⟩ := h3 a ha
    refine ⟨g, off, e2, h5, fun j hj => ?_⟩
    rw [List.getElem_take]
    exact h6 j (by omega)
/-- append of a list of texts, which may lie nowhere, to one's own. -/
theorem wpList_append_sts {w : World} {ops : Array Oper} {rest : List Oper} {o : Oper} {a : Act} {Q : Exit → Act → World → Prop} (hgd : o.guard = none) (s x : Operand)
    (ho : o.op = .call { callee := .builtin .append, args := #[s, x], argTypes := #[38, 38] })
    (base : Nat) (v : Value) (n : Nat) (xs : List ByteArray) (hs : a.eval s = v) (hown : w.ownsRow base 9 1 v n (xs.map .string))
    (u : Value) (ts : List ByteArray) (hx : a.eval x = u) (hst : StsA w u ts) (n' : Nat) (cs' : List Value) (hn' : n + ts.length = n') (hcs : (xs ++ ts).map .string = cs') (hsm : n' ≤ 1048576) (hbase : base ≤ w.heap.size)
    (h : ∀ v' w', w'.ownsRow base 9 1 v' n' cs' → Below base w w' → wpList Tryz.prog ops Q rest (a.put o.dst v') w') : wpList Tryz.prog ops Q (o :: rest) a w := by
  subst hn' hcs
  obtain ⟨i0, hi, hz0, hz1, hzz⟩ := info_parts info_strO
  obtain ⟨p, c, rfl, h1, h2, h3⟩ := hst
  cases p with
  | none =>
    have hc := h2 rfl
    subst hc
    have hl : ts.length = 0 := by omega
    have : ts = [] := List.length_eq_zero_iff.1 hl
    subst this
    refine wpList_append_own_none hgd s x 38 ho base 9 i0 1 Tryz.underlying38 hi v n (xs.map .string) hs hown hx (h v w ?_ (Below.refl _ _))
    simpa using hown
  | some ad =>
    obtain ⟨g, off, rfl, h5, h6⟩ := h3 ad rfl
    refine wpList_append_own w hgd s x 38 ho base 9 i0 (.string ⟨#[]⟩) 1 16 Tryz.underlying38 hi hz0 hz1 hzz rfl (by decide) v n (xs.map .string) hs hown ⟨g, off, none⟩ ts.length c (ts.map .string) hx (by simp) (fun j y hy => ?_) (fun y hy => ?_) (by unfold maxLen; omega) (by omega) hbase (fun v' w' o1 o2 _ => ?_)
    · rw [List.getElem?_map] at hy
      obtain ⟨t, ht, rfl⟩ := Option.map_eq_some_iff.1 hy
      obtain ⟨hj, rfl⟩ := List.getElem?_eq_some_iff.1 ht
      rw [Go.WideShapes.add_plain]
      exact h6 j hj
    · rw [List.mem_map] at hy
      obtain ⟨t, _, rfl⟩ := hy
      rfl
    · refine h v' w' ?_ ((Below.refl _ w).grown o2 hbase (fun j hj => (hown.lt j hj).1))
      rw [List.map_append]; exact o1
theorem sts_one (w : World) (s : ByteArray) (g : Nat) (hg : g = w.heap.size) : StsA (w.alloc (.cells #[.string s] 9)) (.slice (some ⟨g, 0, none⟩) 1 1) [s] := by
  subst hg
  refine ⟨_, 1, rfl, ⟨Nat.le_refl _, by simp⟩, (fun hp => nomatch hp), fun a ha => ?_⟩
  injection ha with ha
  subst ha
  refine ⟨w.heap.size, 0, rfl, by simp, fun j hj => ?_⟩
  obtain rfl : j = 0 := by simp at hj; omega
  rw [World.cell?_alloc_at _ _ _ _ rfl]; rfl
theorem gt_true {x y : ByteArray} (h : y.data.toList < x.data.toList) (W : World) : Sem.run Tryz.prog (binOp .gtr 9 (.string x) (.string y)) W = .ok (.bool true) W := by
  have hl : Op.bytesLess x.toList y.toList = false := by
    rw [bytesLess_lt, Lib.toList_data, Lib.toList_data]
    exact decide_eq_false (fun h' => List.lt_irrefl _ (List.lt_trans h h'))
  have hm : (x.toList == y.toList) = false := by
    rw [Lib.toList_data, Lib.toList_data]
    simp only [beq_eq_false_iff_ne]
    intro e
    rw [e] at h
    exact List.lt_irrefl _ h
  rw [run_gtr_str, hl, hm]
  rfl
theorem gt_false {x y : ByteArray} (h : ¬ y.data.toList < x.data.toList) (W : World) : Sem.run Tryz.prog (binOp .gtr 9 (.string x) (.string y)) W = .ok (.bool false) W := by
  rw [run_gtr_str]
  by_cases h1 : x.data.toList < y.data.toList
  · have hl : Op.bytesLess x.toList y.toList = true := by rw [bytesLess_lt, Lib.toList_data, Lib.toList_data]; simpa using h1
    rw [hl]; rfl
  · have he : x.data.toList = y.data.toList := List.le_antisymm (List.not_lt.1 h) (List.not_lt.1 h1)
    have hm : (x.toList == y.toList) = true := by rw [Lib.toList_data, Lib.toList_data, he]; simp
    rw [hm]
    simp

theorem nm_tail {bs : List ByteArray} {k : Nat} {nm : ByteArray} (hk : k ≤ bs.length) : ((bs.take k ++ [nm]) ++ bs.drop k).map toL = (bs.map toL).take k ++ toL nm :: (bs.map toL).drop k := by
  rw [List.map_append, List.map_append, List.map_take, List.map_drop]
  simp
set_option maxHeartbeats 4000000 in
set_option maxRecDepth 20000 in
theorem uses_leaf (op nm : ByteArray) (vt vn : Int) (vs : ByteArray) (pos : Int) (p : Option Addr) (ca : Nat) (q : Option Addr) (n c : Nat) (bs : List ByteArray) (w : World) (hop : op.data.toList = [99, 111, 108]) (hnm : nm.size ≤ maxLen) (hst : StsA w (.slice q n c) bs) (hn : bs.length = n) (hup : (bs.map toL).Pairwise (fun a b => a ≤ b ∧ a ≠ b)) (hl : n + 1 ≤ 1048576) :
    Calls Tryz.prog 27 #[.agg #[.string op, .string nm, .int .i64 vt, .int .i64 vn, .string vs, .slice p 0 ca, .int .i64 pos], .slice q n c] w fun e w' => (∃ u, e = .returned u ∧ ∃ bs', StsA w' u bs' ∧ bs'.map toL = insN (toL nm) (bs.map toL)) ∧ Below w.heap.size w w' := by
  have q1 : (op.toList == [99, 111, 108]) = true := by rw [Lib.toList_data]; simpa using hop
  have HN : Hid (bs.length = n) := hn
  have HU : Aside ((bs.map toL).Pairwise (fun a b => a ≤ b ∧ a ≠ b)) := hup
  have HS : Aside (StsA w (.slice q n c) bs) := hst
  have hnz : (n : Int) < 1048576 := by omega
  have B0 : Aside (Below (w.heap.size + 1) (w.alloc (.cells #[.string op, .string nm, .int .i64 vt, .int .i64 vn, .string vs, .slice p 0 ca, .int .i64 pos] 26)) (w.alloc (.cells #[.string op, .string nm, .int .i64 vt, .int .i64 vn, .string vs, .slice p 0 ca, .int .i64 pos] 26))) := Below.refl _ _
  have KB : Hid (∀ W, Below (w.heap.size + 1) (w.alloc (.cells #[.string op, .string nm, .int .i64 vt, .int .i64 vn, .string vs, .slice p 0 ca, .int .i64 pos] 26)) W → Box7 W w.heap.size (.string op) (.string nm) (.int .i64 vt) (.int .i64 vn) (.string vs) (.slice p 0 ca) (.int .i64 pos) ∧ w.heap.size + 1 ≤ W.heap.size ∧ Below w.heap.size w W) := fun W hb => by
    have hz := hb.size
    simp at hz
    exact ⟨(box7_alloc w (.string op) (.string nm) (.int .i64 vt) (.int .i64 vn) (.string vs) (.slice p 0 ca) (.int .i64 pos) _).on (hb.mono (by simp)), hz, ((Below.refl _ w).alloc (Nat.le_refl _) _).trans (hb.mono (by omega))⟩
  clear hop hst hup hn
  go_enter Tryz.func27, Tryz.ntmps27
  go_wp2
  go_loopg [5] n (fun gg s5 wr => ∃ kk : Nat, s5 = .int .i64 kk ∧ kk ≤ n ∧ kk ≤ gg ∧ Aside (Below (w.heap.size + 1) (w.alloc (.cells #[.string op, .string nm, .int .i64 vt, .int .i64 vn, .string vs, .slice p 0 ca, .int .i64 pos] 26)) wr) ∧ Aside (∀ j, kk ≤ j → ∀ b, (bs.map toL)[j]? = some b → toL nm < b))
  case atStart => exact ⟨n, rfl, Nat.le_refl _, Nat.le_refl _, B0, (show Aside _ from fun j hj b hb => by rw [List.getElem?_eq_none (by rw [List.length_map, HN.out]; exact hj)] at hb; exact nomatch hb)⟩
  case round =>
    obtain ⟨kk, rfl, hkk, hg, BW, HG⟩ := hrel
    obtain ⟨⟨e0, e1, e2, e3, e4, e5, e6, -, el⟩, hsz, bw⟩ := KB.out wr BW.out
    have HKN : Hid (kk ≤ n) := hkk
    obtain ⟨ph, ch, rh, sh⟩ := sts_slice_h HS.out HN.out hkk
    obtain ⟨pl, cl, rl, sl⟩ := sts_slice_l HS.out HN.out hkk
    have SH : Aside (StsA w (.slice ph kk ch) (bs.take kk)) := sh
    have SL : Aside (StsA w (.slice pl (n - kk) cl) (bs.drop kk)) := sl
    have hnl : ((n - kk : Nat) : Int) ≤ 1048576 := by omega
    have hth : (bs.take kk).length = kk := by rw [List.length_take, HN.out]; omega
    have htl : (bs.drop kk).length = n - kk := by rw [List.length_drop, HN.out]
    have HTH : Hid ((bs.take kk).length = kk) := hth
    have HTL : Hid ((bs.drop kk).length = n - kk) := htl
    clear sh sl hth htl
    by_cases hk0 : kk = 0
    · have hd : decide ((0 : Int) < (kk : Int)) = false := decide_eq_false (by omega)
      have hd' : decide (0 < kk) = false := decide_eq_false (by omega)
      have hd0 : ((kk : Int) == 0) = true := by simpa using hk0
      have hd1 : (kk == 0) = true := by simpa using hk0
      have HI : Hid (insN (toL nm) (bs.map toL) = ((bs.take kk ++ [nm]) ++ bs.drop kk).map toL) := by
        show _ = _
        rw [nm_tail (by rw [HN.out]; exact hkk)]
        exact insN_new HU.out (by rw [List.length_map, HN.out]; exact hkk) HG.out (.inl hk0)
      clear hk0 HG HS HU
      go_wp2
      go_quiet (fail)
      go_wp2
      go_quiet (fail)
      generalize hW : (wr.drewN _).drewN _ = W
      have bW : Below wr.heap.size wr W := by rw [← hW]; exact below_drewN (below_drewN (Below.refl _ _) _) _
      have BWW : Below (w.heap.size + 1) (w.alloc (.cells #[.string op, .string nm, .int .i64 vt, .int .i64 vn, .string vs, .slice p 0 ca, .int .i64 pos] 26)) W := BW.out.trans (bW.mono hsz)
      clear e0 e1 e2 e3 e4 e5 e6 el hW
      obtain ⟨⟨e0, e1, e2, e3, e4, e5, e6, -, el⟩, hszW, bwW⟩ := KB.out W BWW
      have SHW := SH.out.on bwW
      clear SH bW BW
      obtain ⟨TH, hTH⟩ : ∃ TH, bs.take kk = TH := ⟨_, rfl⟩
      obtain ⟨TL, hTL⟩ : ∃ TL, bs.drop kk = TL := ⟨_, rfl⟩
      rw [hTH] at HTH HI SHW
      rw [hTL] at HTL HI SL
      clear hTH hTL
      obtain ⟨C1, hC1⟩ : ∃ C1, TH.map Value.string = C1 := ⟨_, rfl⟩
      obtain ⟨C2, hC2⟩ : ∃ C2, (TH ++ [nm]).map Value.string = C2 := ⟨_, rfl⟩
      obtain ⟨C3, hC3⟩ : ∃ C3, (TH ++ [nm] ++ TL).map Value.string = C3 := ⟨_, rfl⟩
      have HC1 : Hid (TH.map Value.string = C1) := hC1
      have HC2 : Hid ((TH ++ [nm]).map Value.string = C2) := hC2
      have HC3 : Hid ((TH ++ [nm] ++ TL).map Value.string = C3) := hC3
      clear hC1 hC2 hC3
      go_wp2_with (at_builtin; refine wpList_append_sts rfl (.tmp 39) (.tmp 42) rfl (w.heap.size + 1) _ 0 [] rfl (World.ownsRow_nil _ _ _ _) _ TH rfl SHW kk C1 (by rw [HTH.out, Nat.zero_add]) HC1.out (by omega) (by omega) ?_)
      intro v1 w1 o1 b1
      obtain ⟨q1', c1', rfl⟩ := lown_slice o1
      have B1 := BWW.trans b1
      clear e0 e1 e2 e3 e4 e5 e6 el SHW b1 hszW bwW BWW
      obtain ⟨⟨e0, e1, e2, e3, e4, e5, e6, -, el⟩, hsz1, bw1⟩ := KB.out w1 B1
      have o1a := o1.alloc (.cells #[.string nm] 9)
      have B1a := B1.alloc hsz1 (.cells #[.string nm] 9)
      have st1 := sts_one w1 nm _ rfl
      have hs1a : w.heap.size + 1 ≤ (w1.alloc (.cells #[.string nm] 9)).heap.size := by simp; omega
      clear o1
      go_wp2_with (at_builtin; refine wpList_append_sts rfl (.tmp 44) (.tmp 47) rfl (w.heap.size + 1) _ kk TH rfl (by rw [HC1.out]; exact o1a) _ [nm] rfl st1 (kk + 1) C2 rfl HC2.out (by omega) hs1a ?_)
      intro v2 w2 o2 b2
      obtain ⟨q2', c2', rfl⟩ := lown_slice o2
      have B2 := B1a.trans b2
      clear e0 e1 e2 e3 e4 e5 e6 el o1a B1a st1 hsz1 bw1 B1 b2 hs1a
      obtain ⟨⟨e0, e1, e2, e3, e4, e5, e6, -, el⟩, hsz2, bw2⟩ := KB.out w2 B2
      have SL2 := SL.out.on bw2
      go_wp2_with (at_builtin; refine wpList_append_sts rfl (.tmp 49) (.tmp 52) rfl (w.heap.size + 1) _ (kk + 1) (TH ++ [nm]) rfl (by rw [HC2.out]; exact o2) _ TL rfl SL2 (n + 1) C3 (by rw [HTL.out]; have := HKN.out; omega) HC3.out (by omega) (by omega) ?_)
      intro v3 w3 o3 b3
      obtain ⟨q3', c3', rfl⟩ := lown_slice o3
      have B3 := B2.trans b3
      clear e0 e1 e2 e3 e4 e5 e6 el o2 SL2 hsz2 bw2 B2 b3
      obtain ⟨⟨e0, e1, e2, e3, e4, e5, e6, -, el⟩, hsz3, bw3⟩ := KB.out w3 B3
      have O3 : Aside (StsA w3 (.slice q3' (n + 1) c3') (TH ++ [nm] ++ TL)) := sts_own (n := n + 1) (by rw [List.length_append, List.length_append, HTH.out, HTL.out, List.length_singleton]; have := HKN.out; omega) (by omega) (by rw [HC3.out]; exact o3)
      have BW3 : Aside (Below w.heap.size w w3) := bw3
      clear o3 bw3 SL B3
      go_wp2
      go_loopg [1, 7] 0 (fun gg s1 s7 wz => s1 = .slice q3' (n + 1) c3' ∧ s7 = .int .i64 0 ∧ wz = w3)
      case atStart => exact ⟨rfl, rfl, rfl⟩
      case round =>
        obtain ⟨rfl, rfl, rfl⟩ := hrel
        have h00 : ¬ (0 : Int) < ((0 : Nat) : Int) := by simp
        go_wp2
        go_ret
        refine ⟨⟨_, rfl, _, O3.out, ?_⟩, BW3.out⟩
        rw [HI.out]
    · obtain ⟨m, hkm⟩ : ∃ m, kk = m + 1 := ⟨kk - 1, by omega⟩
      have HKM : Hid (kk = m + 1) := hkm
      have hm : m < bs.length := by rw [HN.out]; omega
      obtain ⟨g, off, rfl, hgl, hgc⟩ := sts_some HS.out hm
      have ea : wr.cell? ⟨g, off + m, none⟩ = some (.string bs[m]) := by rw [bw.cell (p := ⟨g, off + m, none⟩) hgl]; exact hgc m hm
      have HSM : Hid ((bs.map toL)[m]? = some (toL bs[m])) := by show _ = _; rw [List.getElem?_map, List.getElem?_eq_getElem hm]; rfl
      have hglr : g < wr.heap.size := by have := bw.size; omega
      generalize bs[m] = S at ea HSM
      have hd : decide ((0 : Int) < (kk : Int)) = true := decide_eq_true (by omega)
      have hd' : decide (0 < kk) = true := decide_eq_true (by omega)
      have hd0 : ((kk : Int) == 0) = false := by simpa using hk0
      have hd1 : (kk == 0) = false := by simpa using hk0
      have h0z : (0 : Int) ≤ (m : Int) := by omega
      have hmn : (m : Int) < (n : Int) := by have := HN.out; omega
      have hmz : (m : Int) < 1048576 := by omega
      have hwm : IntKind.i64.wrap ((kk : Int) - 1) = (m : Int) := by rw [IntKind.wrap_i64]; omega
      clear hm hgc bw hk0 hkm
      by_cases hgt : toL nm < toL S
      · have hr := fun W => gt_true (x := S) (y := nm) hgt W
        have HG2 : Aside (∀ j, m ≤ j → ∀ b, (bs.map toL)[j]? = some b → toL nm < b) := fun j hj b hb => by
          by_cases hjm : j = m
          · subst hjm
            rw [HSM.out] at hb
            injection hb with hb
            subst hb
            exact hgt
          · exact HG.out j (by have := HKM.out; omega) b hb
        clear hgt HG SH SL
        go_wp2
        go_quiet (fail)
        go_wp2
        go_roundg m
        case measure => have := HKM.out; omega
        case rel => exact ⟨m, by go_num, by have := HKN.out; have := HKM.out; omega, Nat.le_refl _, (show Aside _ from below_drewN BW.out _), HG2⟩
      · have hr := fun W => gt_false (x := S) (y := nm) hgt W
        by_cases hq : toL S = toL nm
        · have hqb : (S.toList == nm.toList) = true := by rw [Lib.toList_data, Lib.toList_data]; simpa using hq
          have HI : Hid (insN (toL nm) (bs.map toL) = bs.map toL) := insN_there HU.out (by rw [HSM.out, hq])
          clear hq hgt HG SH SL HSM
          go_wp2
          go_quiet (fail)
          go_wp2
          go_quiet (fail)
          generalize hW : (wr.drewN _).drewN _ = W
          have bW : Below wr.heap.size wr W := by rw [← hW]; exact below_drewN (below_drewN (Below.refl _ _) _) _
          have BWW : Below (w.heap.size + 1) (w.alloc (.cells #[.string op, .string nm, .int .i64 vt, .int .i64 vn, .string vs, .slice p 0 ca, .int .i64 pos] 26)) W := BW.out.trans (bW.mono hsz)
          clear e0 e1 e2 e3 e4 e5 e6 el hW ea
          obtain ⟨⟨e0, e1, e2, e3, e4, e5, e6, -, el⟩, hszW, bwW⟩ := KB.out W BWW
          have BW3 : Aside (Below w.heap.size w W) := bwW
          clear bW BWW bwW BW
          go_wp2
          go_loopg [1, 7] 0 (fun gg s1 s7 wz => s1 = .slice (some ⟨g, off, none⟩) n c ∧ s7 = .int .i64 0 ∧ wz = W)
          case atStart => exact ⟨rfl, rfl, rfl⟩
          case round =>
            obtain ⟨rfl, rfl, rfl⟩ := hrel
            have h00 : ¬ (0 : Int) < ((0 : Nat) : Int) := by simp
            go_wp2
            go_ret
            refine ⟨⟨_, rfl, _, HS.out.on BW3.out, ?_⟩, BW3.out⟩
            rw [HI.out]
        · have hqb : (S.toList == nm.toList) = false := by rw [Lib.toList_data, Lib.toList_data]; simpa using hq
          have HI : Hid (insN (toL nm) (bs.map toL) = ((bs.take kk ++ [nm]) ++ bs.drop kk).map toL) := by
            show _ = _
            rw [nm_tail (by rw [HN.out]; exact hkk)]
            exact insN_new HU.out (by rw [List.length_map, HN.out]; exact hkk) HG.out (.inr ⟨_, by rw [HKM.out]; exact HSM.out, List.not_lt.1 hgt, hq⟩)
          clear hq hgt HG HSM
          go_wp2
          go_quiet (fail)
          go_wp2
          go_quiet (fail)
          generalize hW : (wr.drewN _).drewN _ = W
          have bW : Below wr.heap.size wr W := by rw [← hW]; exact below_drewN (below_drewN (Below.refl _ _) _) _
          have BWW : Below (w.heap.size + 1) (w.alloc (.cells #[.string op, .string nm, .int .i64 vt, .int .i64 vn, .string vs, .slice p 0 ca, .int .i64 pos] 26)) W := BW.out.trans (bW.mono hsz)
          clear e0 e1 e2 e3 e4 e5 e6 el hW
          obtain ⟨⟨e0, e1, e2, e3, e4, e5, e6, -, el⟩, hszW, bwW⟩ := KB.out W BWW
          have SHW := SH.out.on bwW
          clear SH bW BW
          obtain ⟨TH, hTH⟩ : ∃ TH, bs.take kk = TH := ⟨_, rfl⟩
          obtain ⟨TL, hTL⟩ : ∃ TL, bs.drop kk = TL := ⟨_, rfl⟩
          rw [hTH] at HTH HI SHW
          rw [hTL] at HTL HI SL
          clear hTH hTL
          obtain ⟨C1, hC1⟩ : ∃ C1, TH.map Value.string = C1 := ⟨_, rfl⟩
          obtain ⟨C2, hC2⟩ : ∃ C2, (TH ++ [nm]).map Value.string = C2 := ⟨_, rfl⟩
          obtain ⟨C3, hC3⟩ : ∃ C3, (TH ++ [nm] ++ TL).map Value.string = C3 := ⟨_, rfl⟩
          have HC1 : Hid (TH.map Value.string = C1) := hC1
          have HC2 : Hid ((TH ++ [nm]).map Value.string = C2) := hC2
          have HC3 : Hid ((TH ++ [nm] ++ TL).map Value.string = C3) := hC3
          clear hC1 hC2 hC3
          go_wp2_with (at_builtin; refine wpList_append_sts rfl (.tmp 39) (.tmp 42) rfl (w.heap.size + 1) _ 0 [] rfl (World.ownsRow_nil _ _ _ _) _ TH rfl SHW kk C1 (by rw [HTH.out, Nat.zero_add]) HC1.out (by omega) (by omega) ?_)
          intro v1 w1 o1 b1
          obtain ⟨q1', c1', rfl⟩ := lown_slice o1
          have B1 := BWW.trans b1
          clear e0 e1 e2 e3 e4 e5 e6 el SHW b1 hszW bwW BWW
          obtain ⟨⟨e0, e1, e2, e3, e4, e5, e6, -, el⟩, hsz1, bw1⟩ := KB.out w1 B1
          have o1a := o1.alloc (.cells #[.string nm] 9)
          have B1a := B1.alloc hsz1 (.cells #[.string nm] 9)
          have st1 := sts_one w1 nm _ rfl
          have hs1a : w.heap.size + 1 ≤ (w1.alloc (.cells #[.string nm] 9)).heap.size := by simp; omega
          clear o1
          go_wp2_with (at_builtin; refine wpList_append_sts rfl (.tmp 44) (.tmp 47) rfl (w.heap.size + 1) _ kk TH rfl (by rw [HC1.out]; exact o1a) _ [nm] rfl st1 (kk + 1) C2 rfl HC2.out (by omega) hs1a ?_)
          intro v2 w2 o2 b2
          obtain ⟨q2', c2', rfl⟩ := lown_slice o2
          have B2 := B1a.trans b2
          clear e0 e1 e2 e3 e4 e5 e6 el o1a B1a st1 hsz1 bw1 B1 b2 hs1a
          obtain ⟨⟨e0, e1, e2, e3, e4, e5, e6, -, el⟩, hsz2, bw2⟩ := KB.out w2 B2
          have SL2 := SL.out.on bw2
          go_wp2_with (at_builtin; refine wpList_append_sts rfl (.tmp 49) (.tmp 52) rfl (w.heap.size + 1) _ (kk + 1) (TH ++ [nm]) rfl (by rw [HC2.out]; exact o2) _ TL rfl SL2 (n + 1) C3 (by rw [HTL.out]; have := HKN.out; omega) HC3.out (by omega) (by omega) ?_)
          intro v3 w3 o3 b3
          obtain ⟨q3', c3', rfl⟩ := lown_slice o3
          have B3 := B2.trans b3
          clear e0 e1 e2 e3 e4 e5 e6 el o2 SL2 hsz2 bw2 B2 b3
          obtain ⟨⟨e0, e1, e2, e3, e4, e5, e6, -, el⟩, hsz3, bw3⟩ := KB.out w3 B3
          have O3 : Aside (StsA w3 (.slice q3' (n + 1) c3') (TH ++ [nm] ++ TL)) := sts_own (n := n + 1) (by rw [List.length_append, List.length_append, HTH.out, HTL.out, List.length_singleton]; have := HKN.out; omega) (by omega) (by rw [HC3.out]; exact o3)
          have BW3 : Aside (Below w.heap.size w w3) := bw3
          clear o3 bw3 SL B3
          go_wp2
          go_loopg [1, 7] 0 (fun gg s1 s7 wz => s1 = .slice q3' (n + 1) c3' ∧ s7 = .int .i64 0 ∧ wz = w3)
          case atStart => exact ⟨rfl, rfl, rfl⟩
          case round =>
            obtain ⟨rfl, rfl, rfl⟩ := hrel
            have h00 : ¬ (0 : Int) < ((0 : Nat) : Int) := by simp
            go_wp2
            go_ret
            refine ⟨⟨_, rfl, _, O3.out, ?_⟩, BW3.out⟩
            rw [HI.out]
theorem sts_form {w : World} {v : Value} {ts : List ByteArray} (h : StsA w v ts) : ∃ q c, v = .slice q ts.length c := by
  obtain ⟨p, c, e, -⟩ := h
  exact ⟨p, c, e⟩
theorem foldl_take {l : List Ex} {k : Nat} (h : k < l.length) (b : List (List UInt8)) : (colssP (l.take (k + 1))).foldl (fun l n => insN n l) b = (colsP l[k]).foldl (fun l n => insN n l) ((colssP (l.take k)).foldl (fun l n => insN n l) b) := by
  rw [colss_take h, List.foldl_append]
theorem colss_le (l : List Ex) : ∀ k, (colssP (l.take k)).length ≤ (colssP l).length := by
  induction l with
  | nil => intro k; simp
  | cons x xs ih =>
    intro k
    cases k with
    | zero => simp [colssP]
    | succ k => rw [List.take_succ_cons, colssP, colssP, List.length_append, List.length_append]; have := ih k; omega
set_option maxHeartbeats 4000000 in
set_option maxRecDepth 20000 in
theorem refUses_rec : ∀ (x : Ex) (lo : Nat → Prop) (v vl : Value) (bs : List ByteArray) (w : World), AllN (fun q => q.op.data.toList = [99, 111, 108] → q.args = []) x → ExIn w lo v x → StsA w vl bs → (bs.map toL).Pairwise (fun a b => a ≤ b ∧ a ≠ b) → bs.length + (colsP x).length + 1 ≤ 1048576 →
    Calls Tryz.prog 27 #[v, vl] w fun e w' => (∃ u, e = .returned u ∧ ∃ bs', StsA w' u bs' ∧ bs'.map toL = (colsP x).foldl (fun l n => insN n l) (bs.map toL)) ∧ Below w.heap.size w w' := by
  refine Ex.ind fun op nm vt vn vs pos l ih lo v vl bs w hA hx hst hup hsz => ?_
  rw [ExIn] at hx
  obtain ⟨p, ca, rfl, ⟨hm, hmc⟩, ho, hnm, hvs, hparts⟩ := hx
  obtain ⟨q, c, rfl⟩ := sts_form hst
  by_cases hop : op.data.toList = [99, 111, 108]
  · have hle : l = [] := hA.self hop
    subst hle
    have hc : colsP (.node op nm vt vn vs pos []) = [toL nm] := by rw [colsP, if_pos hop, colssP, List.append_nil]
    rw [hc] at hsz ⊢
    exact uses_leaf op nm vt vn vs pos p ca q bs.length c bs w hop hnm hst rfl hup (by simp at hsz; omega)
  · have q1 : (op.toList == [99, 111, 108]) = false := by rw [Lib.toList_data]; simpa using hop
    have hc : colsP (.node op nm vt vn vs pos l) = colssP l := by rw [colsP, if_neg hop, List.nil_append]
    rw [hc] at hsz ⊢
    obtain ⟨N, hNl⟩ : ∃ N, l.length = N := ⟨_, rfl⟩
    have HNL : Hid (l.length = N) := hNl
    rw [hNl] at hm hmc
    simp only [hNl]
    obtain ⟨n, hnl⟩ : ∃ n, bs.length = n := ⟨_, rfl⟩
    have hst1 := hst
    rw [hnl] at hst1
    simp only [hnl]
    have HST : Aside (StsA w (.slice q n c) bs) := hst1
    have HUP : Aside ((bs.map toL).Pairwise (fun a b => a ≤ b ∧ a ≠ b)) := hup
    have HSZ : Hid (bs.length + (colssP l).length + 1 ≤ 1048576) := hsz
    have HA : Aside (∀ y ∈ l, AllN (fun q => q.op.data.toList = [99, 111, 108] → q.args = []) y) := hA.part
    have HPA : Aside (l.length = 0 ∨ ∃ b off, p = some ⟨b, off, none⟩ ∧ b < w.heap.size ∧ lo b ∧ ExsIn w lo b off l) := hparts
    have HI : Aside (∀ y ∈ l, ∀ (lo : Nat → Prop) (v vl : Value) (bs : List ByteArray) (w : World), AllN (fun q => q.op.data.toList = [99, 111, 108] → q.args = []) y → ExIn w lo v y → StsA w vl bs → (bs.map toL).Pairwise (fun a b => a ≤ b ∧ a ≠ b) → bs.length + (colsP y).length + 1 ≤ 1048576 → Calls Tryz.prog 27 #[v, vl] w fun e w' => (∃ u, e = .returned u ∧ ∃ bs', StsA w' u bs' ∧ bs'.map toL = (colsP y).foldl (fun l n => insN n l) (bs.map toL)) ∧ Below w.heap.size w w') := ih
    have hmz : (N : Int) ≤ 9223372036854775807 := by unfold maxLen at hm; omega
    have B0 : Aside (Below (w.heap.size + 1) (w.alloc (.cells #[.string op, .string nm, .int .i64 vt, .int .i64 vn, .string vs, .slice p N ca, .int .i64 pos] 26)) (w.alloc (.cells #[.string op, .string nm, .int .i64 vt, .int .i64 vn, .string vs, .slice p N ca, .int .i64 pos] 26))) := Below.refl _ _
    have KB : Hid (∀ W, Below (w.heap.size + 1) (w.alloc (.cells #[.string op, .string nm, .int .i64 vt, .int .i64 vn, .string vs, .slice p N ca, .int .i64 pos] 26)) W → Box7 W w.heap.size (.string op) (.string nm) (.int .i64 vt) (.int .i64 vn) (.string vs) (.slice p N ca) (.int .i64 pos) ∧ w.heap.size + 1 ≤ W.heap.size ∧ Below w.heap.size w W) := fun W hb => by
      have hz := hb.size
      simp at hz
      exact ⟨(box7_alloc w (.string op) (.string nm) (.int .i64 vt) (.int .i64 vn) (.string vs) (.slice p N ca) (.int .i64 pos) _).on (hb.mono (by simp)), hz, ((Below.refl _ w).alloc (Nat.le_refl _) _).trans (hb.mono (by omega))⟩
    clear hop hc hA hst hst1 hup hsz hparts ih hNl hnl
    go_enter Tryz.func27, Tryz.ntmps27
    go_wp2
    go_loopg [1, 7] N (fun gg s1 s7 wr => ∃ (kk : Nat) (q1 : Option Addr) (n1 c1 : Nat), s7 = .int .i64 kk ∧ s1 = .slice q1 n1 c1 ∧ kk ≤ N ∧ N - kk ≤ gg ∧ Aside (∃ bs1, StsA wr (.slice q1 n1 c1) bs1 ∧ bs1.map toL = (colssP (l.take kk)).foldl (fun l n => insN n l) (bs.map toL)) ∧ Aside (Below (w.heap.size + 1) (w.alloc (.cells #[.string op, .string nm, .int .i64 vt, .int .i64 vn, .string vs, .slice p N ca, .int .i64 pos] 26)) wr))
    case atStart => exact ⟨0, q, n, c, rfl, rfl, Nat.zero_le _, by omega, (show Aside _ from ⟨bs, HST.out.on ((Below.refl _ w).alloc (Nat.le_refl _) _), rfl⟩), B0⟩
    case round =>
      obtain ⟨kk, q1', n1, c1, rfl, rfl, hkk, hg, HB, BW⟩ := hrel
      obtain ⟨⟨e0, e1, e2, e3, e4, e5, e6, -, el⟩, hszr, bw⟩ := KB.out wr BW.out
      by_cases hlt : kk < N
      · have hltz : (kk : Int) < (N : Int) := by omega
        have h0z : (0 : Int) ≤ (kk : Int) := by omega
        have hk2 : kk < l.length := by rw [HNL.out]; exact hlt
        obtain ⟨ba, oa, yp, yc, rfl, hbl, -, f0, f1, f2, f3, f4, f5, f6, hy⟩ := partF_at HPA.out hk2
        have kA : ∀ o, wr.cell? ⟨ba, o, none⟩ = w.cell? ⟨ba, o, none⟩ := fun o => bw.cell (p := ⟨ba, o, none⟩) hbl
        rw [← kA] at f0 f1 f2 f3 f4 f5 f6
        have hblr : ba < wr.heap.size := by have := bw.size; omega
        have hft := foldl_take hk2 (bs.map toL)
        obtain ⟨bs1, hs1, hb1⟩ := HB.out
        have hup1 : (bs1.map toL).Pairwise (fun a b => a ≤ b ∧ a ≠ b) := by rw [hb1]; exact (us_gen _ _ HUP.out).1
        have hlen1 : bs1.length ≤ bs.length + (colssP (l.take kk)).length := by
          have := foldl_insN_len (colssP (l.take kk)) (bs.map toL)
          rw [← hb1, List.length_map, List.length_map] at this
          exact this
        have hle2 : (colssP (l.take kk)).length + (colsP l[kk]).length ≤ (colssP l).length := by
          have := colss_le l (kk + 1)
          rw [colss_take hk2, List.length_append] at this
          exact this
        have cY := HI.out _ (List.getElem_mem hk2) lo _ _ bs1 wr (HA.out _ (List.getElem_mem hk2)) (hy.on bw) hs1 hup1 (by have := HSZ.out; omega)
        rw [hb1, ← hft] at cY
        have HKL : Hid (kk < N) := hlt
        clear kA hft hs1 hb1 hup1 hlen1 hle2 HB hy
        generalize l[kk] = y at f0 f1 f2 f3 f4 f5 f6 cY
        go_wp2_with fail
        refine cY.mono ?_
        rintro e w4 ⟨⟨u, rfl, bs2, hs2, hb2⟩, b4⟩
        obtain ⟨q4, c4, rfl⟩ := sts_form hs2
        have HB4 : Aside (∃ bs1, StsA w4 (.slice q4 bs2.length c4) bs1 ∧ bs1.map toL = (colssP (l.take (kk + 1))).foldl (fun l n => insN n l) (bs.map toL)) := ⟨bs2, hs2, hb2⟩
        have BW4 : Aside (Below (w.heap.size + 1) (w.alloc (.cells #[.string op, .string nm, .int .i64 vt, .int .i64 vn, .string vs, .slice (some ⟨ba, oa, none⟩) N ca, .int .i64 pos] 26)) w4) := BW.out.trans (b4.mono hszr)
        clear cY hs2 hb2 b4 BW f0 f1 f2 f3 f4 f5 f6 e0 e1 e2 e3 e4 e5 e6
        generalize bs2.length = n2 at HB4 ⊢
        go_wp2
        go_roundg (N - (kk + 1))
        case measure => have := HKL.out; omega
        case rel => exact ⟨kk + 1, q4, n2, c4, by go_num, rfl, by have := HKL.out; omega, by omega, HB4, BW4⟩
      · have hkz : ¬ (kk : Int) < (N : Int) := by omega
        obtain rfl : kk = N := by omega
        obtain ⟨bs1, hs1, hb1⟩ := HB.out
        rw [show l.take kk = l by rw [← HNL.out]; exact List.take_length] at hb1
        have HS1 : Aside (StsA wr (.slice q1' n1 c1) bs1) := hs1
        have HB1 : Hid (bs1.map toL = (colssP l).foldl (fun l n => insN n l) (bs.map toL)) := hb1
        have BW1 : Aside (Below w.heap.size w wr) := bw
        clear HB hs1 hb1 BW bw
        go_wp2
        go_ret
        exact ⟨⟨_, rfl, bs1, HS1.out, HB1.out⟩, BW1.out⟩
end Go.Proofs.YtknibfhoecgjlaaGreatDoor
