/-
  VfM, VmM, VfA, VmA, VmQ, in one text.
-/
import Derived.Test.YtkoejkpjkcejcabDoorGyAn
import Derived.Test.YtkoejkpjkcejcabDoorGyAi
import Derived.Test.YtkoejkpjkcejcabDoorGyAe
import Derived.Test.YtkoejkpjkcejcabDoorYKdRuleC
import Derived.Test.YtkoejkpjkcejcabDoorGyAj
import Derived.Lib.OthersKept
import Derived.Lib.BufferMore
import Derived.Test.YtkoejkpjkcejcabDoorGyAa
import Derived.Deep.RegionLaw
namespace Go.Proofs.YtkoejkpjkcejcabDoor
open Go.RowKit
set_option linter.unusedVariables false

/-- Types one behind the other, in a block behind block B; none of them, and it may lie nowhere. -/
def StkAt (w : World) (B : Nat) (v : Value) (ts : List Int) : Prop := ∃ p c, v = .slice p ts.length c ∧ (ts.length ≤ c ∧ ts.length ≤ 64) ∧ (p = none → c = 0) ∧ ∀ a, p = some a → ∃ g off, a = ⟨g, off, none⟩ ∧ B < g ∧ g < w.heap.size ∧ ∀ j (h : j < ts.length), w.cell? ⟨g, off + j, none⟩ = some (.int .i64 ts[j])
theorem StkAt.but {w w' : World} {B : Nat} {v : Value} {ts : List Int} (h : StkAt w B v ts) (hb : But B w w') : StkAt w' B v ts := by
  obtain ⟨p, c, e, h1, h2, h3⟩ := h
  refine ⟨p, c, e, h1, h2, fun a ha => ?_⟩
  obtain ⟨g, off, e2, h4, h5, h6⟩ := h3 a ha
  exact ⟨g, off, e2, h4, by have := hb.size; omega, fun j hj => by rw [hb.cell _ h5 (by omega)]; exact h6 j hj⟩
theorem StkAt.on {w w' : World} {B : Nat} {v : Value} {ts : List Int} (h : StkAt w B v ts) (hb : Below w.heap.size w w') : StkAt w' B v ts := by
  obtain ⟨p, c, e, h1, h2, h3⟩ := h
  refine ⟨p, c, e, h1, h2, fun a ha => ?_⟩
  obtain ⟨g, off, e2, h4, h5, h6⟩ := h3 a ha
  exact ⟨g, off, e2, h4, by have := hb.size; omega, fun j hj => by rw [hb.cell (p := ⟨g, off + j, none⟩) h5]; exact h6 j hj⟩
theorem StkAt.nil (w : World) (B : Nat) : StkAt w B (.slice none 0 0) [] := ⟨none, 0, rfl, ⟨Nat.le_refl _, Nat.zero_le _⟩, fun _ => rfl, fun a h => nomatch h⟩
theorem StkAt.ints {w : World} {B : Nat} {p : Option Addr} {n c : Nat} {ts : List Int} (h : StkAt w B (.slice p n c) ts) : IntsAt w p ts := by
  obtain ⟨p', c', e, h1, h2, h3⟩ := h
  injection e with e1 e2 e3
  subst e1 e3
  cases p with
  | none => exact .inl (by have := h2 rfl; omega)
  | some a =>
    obtain ⟨g, off, e2, h4, h5, h6⟩ := h3 a rfl
    subst e2
    exact .inr ⟨g, off, rfl, h5, h6⟩
/-- What is known of each place lies in block b, two cells each; the stacks behind it. -/
def KnAt (w : World) (b : Nat) (ks : List Pl) : Prop := b < w.heap.size ∧ (∀ o, w.frozen? ⟨b, o, none⟩ = false) ∧ ∀ j (h : j < ks.length), w.cell? ⟨b, j * 2, none⟩ = some (.bool ks[j].isSome) ∧ ∃ v, w.cell? ⟨b, j * 2 + 1, none⟩ = some v ∧ StkAt w b v (ks[j].getD [])
theorem KnAt.on {w w' : World} {b : Nat} {ks : List Pl} (h : KnAt w b ks) (hb : Below w.heap.size w w') : KnAt w' b ks := by
  obtain ⟨h1, h2, h3⟩ := h
  refine ⟨by have := hb.size; omega, fun o => by rw [hb.frozen (p := ⟨b, o, none⟩) h1]; exact h2 o, fun j hj => ?_⟩
  obtain ⟨c0, v, c1, hs⟩ := h3 j hj
  exact ⟨by rw [hb.cell (p := ⟨b, j * 2, none⟩) h1]; exact c0, v, by rw [hb.cell (p := ⟨b, j * 2 + 1, none⟩) h1]; exact c1, hs.on hb⟩
theorem but_setCell (w : World) (b o : Nat) (x : Value) : But b w (w.setCell ⟨b, o, none⟩ x) := (But.refl b w).set o x
theorem KnAt.put {w : World} {b : Nat} {ks : List Pl} (h : KnAt w b ks) {t : Nat} (ht : t < ks.length) {v : Value} {st : List Int} (hv : StkAt w b v st) : KnAt ((w.setCell ⟨b, t * 2, none⟩ (.bool true)).setCell ⟨b, t * 2 + 1, none⟩ v) b (ks.set t (some st)) := by
  obtain ⟨h1, h2, h3⟩ := h
  have hB : But b w ((w.setCell ⟨b, t * 2, none⟩ (.bool true)).setCell ⟨b, t * 2 + 1, none⟩ v) := ((But.refl b w).set _ _).set _ _
  refine ⟨by have := hB.size; omega, fun o => by simpa using h2 o, fun j hj => ?_⟩
  rw [List.length_set] at hj
  obtain ⟨c0, u, c1, hs⟩ := h3 j hj
  by_cases hjt : t = j
  · subst hjt
    refine ⟨?_, v, ?_, ?_⟩
    · rw [cell_ne (by omega), cell_eq c0]; simp
    · exact cell_eq (u := u) (by rw [cell_ne (by omega)]; exact c1)
    · simpa using hv.but hB
  · refine ⟨?_, u, ?_, ?_⟩
    · rw [cell_ne (by omega), cell_ne (by omega), c0]; simp [List.getElem_set_ne hjt]
    · rw [cell_ne (by omega), cell_ne (by omega), c1]
    · rw [List.getElem_set_ne hjt]; exact hs.but hB
end Go.Proofs.YtkoejkpjkcejcabDoor
namespace Go.Proofs.YtkoejkpjkcejcabDoor
open Go.RowKit
set_option linter.unusedVariables false

/-- All is kept but the machine's block, and rows of values behind it. -/
def MKeeps (b : Nat) (w w' : World) : Prop := Below b w w' ∧ Lib.OthersKept 23 (some b) w w'
theorem MKeeps.refl (b : Nat) (w : World) : MKeeps b w w := ⟨Below.refl _ _, Lib.OthersKept.refl _ _ _⟩
theorem MKeeps.trans {b : Nat} {w w1 w2 : World} (h : MKeeps b w w1) (k : MKeeps b w1 w2) : MKeeps b w w2 := ⟨h.1.trans k.1, h.2.trans k.2⟩
theorem MKeeps.of_below {b : Nat} {w w' : World} (h : Below w.heap.size w w') (hb : b ≤ w.heap.size) : MKeeps b w w' :=
  ⟨h.mono hb, fun k o hk _ _ => by rw [h.block k (Array.getElem?_eq_some_iff.1 hk).1]; exact hk⟩
theorem MKeeps.on {b : Nat} {w w1 w2 : World} (h : MKeeps b w w1) (k : Below w1.heap.size w1 w2) (hb : b ≤ w1.heap.size) : MKeeps b w w2 := h.trans (MKeeps.of_below k hb)
theorem MKeeps.set {b : Nat} {w w1 : World} (h : MKeeps b w w1) (o : Nat) (v : Value) : MKeeps b w (w1.setCell ⟨b, o, none⟩ v) :=
  ⟨h.1.setCell (p := ⟨b, o, none⟩) (Nat.le_refl _) v, h.2.setCell ⟨b, o, none⟩ rfl v⟩
theorem MKeeps.drew {b : Nat} {w w1 : World} (h : MKeeps b w w1) : MKeeps b w w1.drew := ⟨h.1.drew, h.2.drew⟩
theorem MKeeps.alloc {b : Nat} {w w1 : World} (h : MKeeps b w w1) (hb : b ≤ w1.heap.size) (o : Obj) : MKeeps b w (w1.alloc o) := ⟨h.1.alloc hb o, h.2.alloc o⟩
/-- The machine lies in block b: it is at instruction k, has the row rv, and these values on its stack. -/
def MchAt (w : World) (b : Nat) (k : Int) (rv : Value) (q : Option Addr) (c : Nat) (st : List V3) : Prop :=
  (∃ cs, w.heap[b]? = some (.cells cs 122 (0, 0))) ∧ w.cell? ⟨b, 0, none⟩ = some (.int .i64 k) ∧ w.cell? ⟨b, 1, none⟩ = some rv ∧ w.cell? ⟨b, 2, none⟩ = some (.slice q st.length c) ∧ w.ownsRow (b + 1) 23 3 (.slice q st.length c) st.length (vcells st)
theorem MchAt.lt {w : World} {b : Nat} {k : Int} {rv : Value} {q : Option Addr} {c : Nat} {st : List V3} (h : MchAt w b k rv q c st) : b < w.heap.size := by
  obtain ⟨⟨cs, h⟩, -⟩ := h
  exact (Array.getElem?_eq_some_iff.1 h).1
theorem MchAt.fz {w : World} {b : Nat} {k : Int} {rv : Value} {q : Option Addr} {c : Nat} {st : List V3} (h : MchAt w b k rv q c st) (o : Nat) : w.frozen? ⟨b, o, none⟩ = false := by
  obtain ⟨⟨cs, h⟩, -⟩ := h
  simp [World.frozen?, h]
/-- What keeps the machine's own blocks keeps it. -/
theorem MchAt.keep {w w' : World} {b : Nat} {k : Int} {rv : Value} {q : Option Addr} {c : Nat} {st : List V3} (h : MchAt w b k rv q c st) (hk : ∀ g o, w.heap[g]? = some o → (g = b ∨ b < g ∧ ∃ cs, o = .cells cs 23 (0, 0)) → w'.heap[g]? = some o) : MchAt w' b k rv q c st := by
  obtain ⟨⟨cs, h0⟩, h1, h2, h3, h4⟩ := h
  have hb := hk b _ h0 (.inl rfl)
  have he : ∀ o, w'.cell? ⟨b, o, none⟩ = w.cell? ⟨b, o, none⟩ := fun o => World.cell?_of_block (w := w) (a := ⟨b, o, none⟩) (by rw [hb, h0])
  refine ⟨⟨cs, hb⟩, by rw [he]; exact h1, by rw [he]; exact h2, by rw [he]; exact h3, h4.1, ?_⟩
  rcases h4.2 with hn | ⟨g, cap, cur, e, h5, hg, rest⟩
  · exact .inl hn
  · exact .inr ⟨g, cap, cur, e, h5, hk g _ hg (.inr ⟨by omega, cur, rfl⟩), rest⟩
theorem MchAt.on {w w' : World} {b : Nat} {k : Int} {rv : Value} {q : Option Addr} {c : Nat} {st : List V3} (h : MchAt w b k rv q c st) (hb : Below w.heap.size w w') : MchAt w' b k rv q c st :=
  h.keep fun g o hg _ => by rw [hb.block g (Array.getElem?_eq_some_iff.1 hg).1]; exact hg
theorem MchAt.others {w w' : World} {b L : Nat} {k : Int} {rv : Value} {q : Option Addr} {c : Nat} {st : List V3} (h : MchAt w b k rv q c st) (hL : L < b) (hb : Lib.OthersKept 3 (some L) w w') : MchAt w' b k rv q c st := by
  obtain ⟨⟨cs, h0⟩, -⟩ := id h
  refine h.keep fun g o hg hgo => ?_
  refine hb g o hg (fun e => by have := Option.some.inj e; omega) fun c2 fz e => ?_
  rcases hgo with rfl | ⟨_, cs2, rfl⟩
  · rw [h0] at hg
    rw [← Option.some.inj hg] at e
    injection e with _ e _
    exact absurd e (by decide)
  · injection e with _ e _
    exact absurd e (by decide)
theorem MchAt.set0 {w : World} {b : Nat} {k : Int} {rv : Value} {q : Option Addr} {c : Nat} {st : List V3} (h : MchAt w b k rv q c st) (k' : Int) : MchAt (w.setCell ⟨b, 0, none⟩ (.int .i64 k')) b k' rv q c st := by
  obtain ⟨⟨cs, h0⟩, h1, h2, h3, h4⟩ := h
  refine ⟨⟨_, Lib.heap_setCell_same h0 _⟩, cell_eq h1, by rw [cell_ne (by decide)]; exact h2, by rw [cell_ne (by decide)]; exact h3, h4.1, ?_⟩
  rcases h4.2 with hn | ⟨g, cap, cur, e, h5, hg, rest⟩
  · exact .inl hn
  · exact .inr ⟨g, cap, cur, e, h5, by rw [Below.heap_setCell _ _ _ _ (by show g ≠ b; omega)]; exact hg, rest⟩
theorem MchAt.set2 {w : World} {b : Nat} {k : Int} {rv : Value} {q q' : Option Addr} {c c' : Nat} {st st' : List V3} (h : MchAt w b k rv q c st) (ho : w.ownsRow (b + 1) 23 3 (.slice q' st'.length c') st'.length (vcells st')) : MchAt (w.setCell ⟨b, 2, none⟩ (.slice q' st'.length c')) b k rv q' c' st' := by
  obtain ⟨⟨cs, h0⟩, h1, h2, h3, h4⟩ := h
  refine ⟨⟨_, Lib.heap_setCell_same h0 _⟩, by rw [cell_ne (by decide)]; exact h1, by rw [cell_ne (by decide)]; exact h2, cell_eq h3, ho.1, ?_⟩
  rcases ho.2 with hn | ⟨g, cap, cur, e, h5, hg, rest⟩
  · exact .inl hn
  · exact .inr ⟨g, cap, cur, e, h5, by rw [Below.heap_setCell _ _ _ _ (by show g ≠ b; omega)]; exact hg, rest⟩
theorem vcells_take : ∀ (vs : List V3) (l : Nat), (vcells vs).take (l * 3) = vcells (vs.take l)
  | [], l => by simp [vcells]
  | v :: vs, 0 => by simp [vcells]
  | v :: vs, l + 1 => by
    rw [vcells, show (l + 1) * 3 = l * 3 + 3 by omega, List.take_succ_cons, List.take_succ_cons, List.take_succ_cons, vcells_take vs l, List.take_succ_cons, vcells]
theorem own_take {w : World} {B : Nat} {q : Option Addr} {c l : Nat} {st : List V3} (hl : l ≤ st.length) (h0 : st.length ≠ 0) (h : w.ownsRow B 23 3 (.slice q st.length c) st.length (vcells st)) : w.ownsRow B 23 3 (.slice q (st.take l).length c) (st.take l).length (vcells (st.take l)) := by
  have hlen : (st.take l).length = l := by rw [List.length_take]; omega
  refine ⟨by rw [vcells_len], .inr ?_⟩
  rcases h.2 with ⟨_, h⟩ | ⟨g, cap, cur, e, h1, h2, h3, h4, h5, h6⟩
  · exact absurd h h0
  · injection e with e1 e2 e3
    subst e1 e3
    refine ⟨g, c, cur, rfl, h1, h2, by omega, h4, h5, ?_⟩
    rw [hlen, ← vcells_take, ← h6, List.take_take, Nat.min_eq_left (by omega)]
end Go.Proofs.YtkoejkpjkcejcabDoor
namespace Go.Proofs.YtkoejkpjkcejcabDoor
open Go.RowKit
set_option linter.unusedVariables false

def insW (i : I5) : Value := .agg #[.int .i64 i.1, .int .i64 i.2.1, .int .i64 i.2.2.1, .int .i64 i.2.2.2.1, .string i.2.2.2.2]
set_option maxHeartbeats 4000000 in
theorem checkArg_any (i : I5) (nc bh : Int) (w : World) (hs : i.2.2.2.2.size ≤ maxLen) (hr : REnv w) (E : Int) (hE : argE i nc bh = E) :
    Calls Tryd.prog 97 #[insW i, .int .i64 nc, .int .i64 bh] w fun e w' => e = .returned (errV E) ∧ Below w.heap.size w w' := by
  obtain ⟨a, g, t, n, s⟩ := i
  simp only at hs
  show Calls Tryd.prog _ #[Value.agg #[.int .i64 a, .int .i64 g, .int .i64 t, .int .i64 n, .string s], _, _] w _
  rw [argE] at hE
  simp only at hE
  have hB := fun o => alB w o
  by_cases a1 : a = 1
  · subst a1
    rw [if_pos rfl] at hE
    subst hE
    go_enter Tryd.func97, Tryd.ntmps97
    go_wp2_with fail
    refine (check_any t n s _ hs).mono ?_
    rintro e w1 ⟨rfl, b1⟩
    go_wp2
    go_ret
    exact ⟨rfl, (hB _).trans (b1.mono (by simp))⟩
  rw [if_neg a1] at hE
  by_cases a2 : a = 2
  · subst a2
    rw [if_pos rfl] at hE
    by_cases h0 : 0 ≤ g
    · by_cases h1 : g < nc
      · rw [if_pos ⟨h0, h1⟩] at hE
        subst hE
        clear a1 hs hr
        go_enter Tryd.func97, Tryd.ntmps97
        go_wp2
        go_ret
        exact ⟨rfl, hB _⟩
      · rw [if_neg (fun h => h1 h.2)] at hE
        subst hE
        clear a1 hs hr
        go_enter Tryd.func97, Tryd.ntmps97
        go_wp2
        go_ret
        exact ⟨rfl, hB _⟩
    · rw [if_neg (fun h => h0 h.1)] at hE
      subst hE
      clear a1 hs hr
      go_enter Tryd.func97, Tryd.ntmps97
      go_wp2
      go_ret
      exact ⟨rfl, hB _⟩
  rw [if_neg a2] at hE
  by_cases a3 : a = 3
  · subst a3
    rw [if_pos rfl] at hE
    subst hE
    clear a1 a2 hs
    go_enter Tryd.func97, Tryd.ntmps97
    go_wp2_with fail
    refine (codeOp_any g _ (hr.on (hB _))).mono ?_
    rintro e w1 ⟨rfl, b1⟩
    go_wp2
    go_ret
    exact ⟨rfl, (hB _).trans (b1.mono (by simp))⟩
  rw [if_neg a3] at hE
  have b1 : (a == 1) = false := by simpa using a1
  have b2 : (a == 2) = false := by simpa using a2
  have b3 : (a == 3) = false := by simpa using a3
  by_cases a4 : a = 4 ∨ a = 5
  · rw [if_pos a4] at hE
    by_cases h0 : 0 ≤ g
    · by_cases h1 : g ≤ bh
      · rw [if_pos ⟨h0, h1⟩] at hE
        subst hE
        clear a1 a2 a3 hs hr
        rcases a4 with rfl | rfl
        all_goals
          clear b1 b2 b3
          go_enter Tryd.func97, Tryd.ntmps97
          go_wp2
          go_ret
          exact ⟨rfl, hB _⟩
      · rw [if_neg (fun h => h1 h.2)] at hE
        subst hE
        clear a1 a2 a3 hs hr
        rcases a4 with rfl | rfl
        all_goals
          clear b1 b2 b3
          go_enter Tryd.func97, Tryd.ntmps97
          go_wp2
          go_ret
          exact ⟨rfl, hB _⟩
    · rw [if_neg (fun h => h0 h.1)] at hE
      subst hE
      clear a1 a2 a3 hs hr
      rcases a4 with rfl | rfl
      all_goals
        clear b1 b2 b3
        go_enter Tryd.func97, Tryd.ntmps97
        go_wp2
        go_ret
        exact ⟨rfl, hB _⟩
  rw [if_neg a4] at hE
  by_cases a6 : a = 6 ∨ a = 7
  · rw [if_pos a6] at hE
    subst hE
    clear a1 a2 a3 a4 hs hr
    rcases a6 with rfl | rfl
    all_goals
      clear b1 b2 b3
      go_enter Tryd.func97, Tryd.ntmps97
      go_wp2
      go_ret
      exact ⟨rfl, hB _⟩
  · rw [if_neg a6] at hE
    subst hE
    have b4 : (a == 4) = false := by simp; omega
    have b5 : (a == 5) = false := by simp; omega
    have b6 : (a == 6) = false := by simp; omega
    have b7 : (a == 7) = false := by simp; omega
    clear a1 a2 a3 a4 a6 hs hr
    go_enter Tryd.func97, Tryd.ntmps97
    go_wp2
    go_ret
    exact ⟨rfl, hB _⟩
theorem opOf_any (i : I5) (w : World) (hr : REnv w) :
    Calls Tryd.prog 138 #[insW i] w fun e w' => e = .returned (.string ⟨(opN i.2.1).toArray⟩) ∧ Below w.heap.size w w' := by
  obtain ⟨a, g, t, n, s⟩ := i
  show Calls Tryd.prog _ #[Value.agg #[.int .i64 a, .int .i64 g, .int .i64 t, .int .i64 n, .string s]] w _
  have hB := fun o => alB w o
  go_enter Tryd.func138, Tryd.ntmps138
  go_wp2_with fail
  refine (codeOp_any g _ (hr.on (hB _))).mono ?_
  rintro e w1 ⟨rfl, b1⟩
  go_wp2
  go_ret
  exact ⟨rfl, (hB _).trans (b1.mono (by simp))⟩
theorem cntN_none {x : List UInt8} (h : kdFind x kdRules = none) : cntN x = 0 := by rw [cntN, h]
theorem cntN_some {x : List UInt8} {r : KRule} (h : kdFind x kdRules = some r) : cntN x = kdCnt r := by rw [cntN, h]
set_option maxHeartbeats 1000000 in
theorem kindCount_any (op : ByteArray) (w : World) (henv : REnv w) (C : Nat) (hC : cntN op.data.toList = C) :
    Calls Tryd.prog 126 #[.string op] w fun e w' => (∃ E, e = .returned (.tuple #[.int .i64 C, errV E]) ∧ (C ≠ 0 → E = 0)) ∧ Below w.heap.size w w' := by
  have HC : Hid (cntN op.data.toList = C) := hC
  have cF := ruleOf_any op w henv _ rfl
  clear hC
  obtain ⟨R, hRR⟩ : ∃ R, kdFind op.data.toList kdRules = R := ⟨_, rfl⟩
  have HF : Hid (kdFind op.data.toList kdRules = R) := hRR
  rw [hRR] at cF
  clear hRR
  go_enter Tryd.func126, Tryd.ntmps126
  go_wp2_with fail
  refine cF.mono ?_
  rintro e w1 ⟨⟨S, a0, a1, a2, ty, ok, rfl, hok⟩, b1⟩
  clear cF
  have b2 : Below w.heap.size w (w1.alloc (.cells #[.string S, .int .i64 a0, .int .i64 a1, .int .i64 a2, .int .i64 ty] 105)) := b1.alloc b1.size _
  cases ok
  · have h := HC.out
    rw [cntN_none (by rw [HF.out]; exact hok.out)] at h
    subst h
    clear HC HF hok
    go_wp2
    go_ret2
    exact ⟨⟨1, rfl, fun h => absurd rfl h⟩, b2⟩
  · have hfd : kdFind op.data.toList kdRules = some (S.data.toList, a0, a1, a2, ty) := by rw [HF.out]; exact hok.out
    have h := HC.out
    rw [cntN_some hfd] at h
    have cN := count_any S a0 a1 a2 ty (w1.alloc (.cells #[.string S, .int .i64 a0, .int .i64 a1, .int .i64 a2, .int .i64 ty] 105)) C h
    have b3 : Below w.heap.size w ((w1.alloc (.cells #[.string S, .int .i64 a0, .int .i64 a1, .int .i64 a2, .int .i64 ty] 105)).alloc (.cells #[.string S, .int .i64 a0, .int .i64 a1, .int .i64 a2, .int .i64 ty] 105)) := b2.alloc b2.size _
    clear HC HF hok h hfd
    go_wp2_with fail
    refine cN.mono ?_
    rintro e w3 ⟨rfl, hq3⟩
    subst hq3
    go_wp2
    go_ret2
    exact ⟨⟨0, rfl, fun _ => rfl⟩, b3⟩
set_option maxHeartbeats 2000000 in
theorem needs_any (i : I5) (w : World) (hr : REnv w) (C : Nat) (hC : needN i = C) :
    Calls Tryd.prog 123 #[insW i] w fun e w' => e = .returned (.int .i64 C) ∧ Below w.heap.size w w' := by
  obtain ⟨a, g, t, n, s⟩ := i
  have hB := fun o => alB w o
  have cO := fun W hW => opOf_any (a, g, t, n, s) W hW
  simp only [insW] at cO
  show Calls Tryd.prog _ #[Value.agg #[.int .i64 a, .int .i64 g, .int .i64 t, .int .i64 n, .string s]] w _
  rw [needN] at hC
  simp only at hC
  by_cases a3 : a = 3
  · subst a3
    rw [if_pos rfl] at hC
    go_enter Tryd.func123, Tryd.ntmps123
    go_wp2_with fail
    refine (cO _ (hr.on (hB _))).mono ?_
    rintro e w1 ⟨rfl, b1⟩
    have b2 := (hB _).trans (b1.mono (by simp))
    clear cO
    have cK := kindCount_any ⟨(opN g).toArray⟩ w1 (hr.on b2) C hC
    go_wp2_with fail
    refine cK.mono ?_
    rintro e w2 ⟨⟨E, rfl, -⟩, b3⟩
    go_wp2
    go_ret
    exact ⟨rfl, b2.trans (b3.mono b2.size)⟩
  rw [if_neg a3] at hC
  have b3 : (a == 3) = false := by simpa using a3
  clear cO
  by_cases a5 : a = 5 ∨ a = 6 ∨ a = 7
  · rw [if_pos a5] at hC
    subst hC
    clear a3
    rcases a5 with rfl | rfl | rfl
    all_goals
      clear b3
      go_enter Tryd.func123, Tryd.ntmps123
      go_wp2
      go_ret
      exact ⟨rfl, hB _⟩
  · rw [if_neg a5] at hC
    subst hC
    have b5 : (a == 5) = false := by simp; omega
    have b6 : (a == 6) = false := by simp; omega
    have b7 : (a == 7) = false := by simp; omega
    clear a3 a5
    go_enter Tryd.func123, Tryd.ntmps123
    go_wp2
    go_ret
    exact ⟨rfl, hB _⟩
end Go.Proofs.YtkoejkpjkcejcabDoor
namespace Go.Proofs.YtkoejkpjkcejcabDoor
open Go.RowKit
set_option linter.unusedVariables false

/-- A value as the walk has it. -/
def valW (v : V3) : Value := .agg #[.int .i64 v.1, .int .i64 v.2.1, .string v.2.2]
theorem MKeeps.grown {b : Nat} {w w' : World} {v : Value} {n : Nat} {xs : List Value} (hg : w.grownBy w' v.ownBlock) (ho : w.ownsRow (b + 1) 23 3 v n xs) (hb : b ≤ w.heap.size) : MKeeps b w w' := by
  refine ⟨(Below.refl b w).grown hg hb fun k hk => by have := (ho.lt k hk).1; omega, (Lib.OthersKept.refl _ _ w).grown hg fun g hgg => ?_⟩
  rcases ho.2 with ⟨rfl, _⟩ | ⟨g', cap, cur, rfl, _, h2, _⟩
  · exact absurd hgg (by simp [Value.ownBlock])
  · have : g' = g := by simpa [Value.ownBlock] using hgg
    subst this
    exact ⟨_, _, h2⟩
theorem news_one {w : World} {T : TypeId} {g : Nat} (hg : w.heap.size = g) (cs : List Value) : ∀ j u, cs[j]? = some u → (w.alloc (.cells cs.toArray T)).cell? ((⟨g, 0, none⟩ : Addr).add j) = some u := by
  intro j u hu
  rw [Go.WideShapes.add_plain, World.cell?_alloc_at _ _ _ _ (by simp [hg])]
  simpa using hu
theorem one3 (t n : Int) (s : ByteArray) : ∀ u ∈ ([.int .i64 t, .int .i64 n, .string s] : List Value), u.oneCell' = true := by
  intro u hu
  simp at hu
  rcases hu with rfl | rfl | rfl <;> rfl
/-- What is needed behind the append of a value to the machine's stack. -/
theorem lay_end {w w1 w2 : World} {b : Nat} {k : Int} {rv : Value} {q q' : Option Addr} {c c' N : Nat} {st : List V3} {t n : Int} {s : ByteArray} (hM : MchAt w b k rv q c st) (hN : st.length = N) (hw : Below w.heap.size w w1) (ho : w2.ownsRow (b + 1) 23 3 (.slice q' (N + 1) c') (N + 1) (vcells st ++ [.int .i64 t, .int .i64 n, .string s])) (hg : w1.grownBy w2 (Value.slice q N c).ownBlock) :
    w2.frozen? ⟨b, 2, none⟩ = false ∧ w2.cell? ⟨b, 2, none⟩ = some (.slice q N c) ∧ MchAt (w2.setCell ⟨b, 2, none⟩ (.slice q' (N + 1) c')) b k rv q' c' (st ++ [(t, n, s)]) ∧ MKeeps b w (w2.setCell ⟨b, 2, none⟩ (.slice q' (N + 1) c')) := by
  have hM1 := hM.on hw
  have hb1 := hM1.lt
  have hM1' := hM1
  obtain ⟨⟨cs, h0⟩, h1, h2, h3, h4⟩ := hM1
  rw [hN] at h3 h4
  have hne : some b ≠ (Value.slice q N c).ownBlock := fun e => by
    have := (h4.lt b e.symm).1
    omega
  have hb : w2.heap[b]? = w1.heap[b]? := hg.block b hb1 hne
  have he : ∀ o, w2.cell? ⟨b, o, none⟩ = w1.cell? ⟨b, o, none⟩ := fun o => World.cell?_of_block (w := w1) (a := ⟨b, o, none⟩) hb
  have hk2 : MKeeps b w w2 := (MKeeps.of_below hw (Nat.le_of_lt hM.lt)).trans (MKeeps.grown hg h4 (Nat.le_of_lt hb1))
  refine ⟨by rw [World.frozen?_of_block (w := w1) (a := ⟨b, 2, none⟩) hb]; exact hM1'.fz 2, by rw [he]; exact h3, ?_, hk2.set _ _⟩
  have hl : (st ++ [(t, n, s)]).length = N + 1 := by rw [List.length_append, hN]; rfl
  have ho' : w2.ownsRow (b + 1) 23 3 (.slice q' (st ++ [(t, n, s)]).length c') (st ++ [(t, n, s)]).length (vcells (st ++ [(t, n, s)])) := by
    rw [hl, vcells_append]; exact ho
  refine ⟨⟨_, Lib.heap_setCell_same (by rw [hb]; exact h0) _⟩, by rw [cell_ne (by decide), he]; exact h1, by rw [cell_ne (by decide), he]; exact h2, by rw [hl]; exact cell_eq (u := .slice q N c) (by rw [he]; exact h3), ho'.1, ?_⟩
  rcases ho'.2 with hn | ⟨g, cap, cur, e, h5, hgg, rest⟩
  · exact .inl hn
  · exact .inr ⟨g, cap, cur, e, h5, by rw [Below.heap_setCell _ _ _ _ (by show g ≠ b; omega)]; exact hgg, rest⟩
set_option maxHeartbeats 2000000 in
set_option maxRecDepth 20000 in
theorem lay_any (b : Nat) (k : Int) (rv : Value) (q : Option Addr) (c : Nat) (st : List V3) (t n : Int) (s : ByteArray) (w : World) (h : MchAt w b k rv q c st) (hl : st.length ≤ 64) :
    Calls Tryd.prog 101 #[.pointer (some ⟨b, 0, none⟩), .agg #[.int .i64 t, .int .i64 n, .string s]] w fun e w' => e = .returned (.tuple #[]) ∧ (∃ q' c', Aside (MchAt w' b k rv q' c' (st ++ [(t, n, s)]))) ∧ Aside (MKeeps b w w') := by
  obtain ⟨i0, hi, hz0, hz1, hz2⟩ := info_parts info_val
  have hbl := h.lt
  have hfz := h.fz 2
  have HM : Aside (MchAt w b k rv q c st) := h
  obtain ⟨-, -, -, c2, ho⟩ := h
  generalize hN : st.length = N at c2 ho hl
  have HO : Aside (w.ownsRow (b + 1) 23 3 (.slice q N c) N (vcells st)) := ho
  have HN : Hid (st.length = N) := hN
  clear ho hN
  go_enter Tryd.func101, Tryd.ntmps101
  go_wp2
  go_region_law (refine step_append_mine rfl (.tmp 8) (.tmp 10) 28 rfl (b + 1) 23 i0 _ 3 32 Tryd.underlying28 hi hz0 hz1 hz2 rfl (by decide) (.slice q N c) N (vcells st) (by simp [Act.eval]) ((lown_below (HO.out.alloc _) ⟨rfl, rfl, rfl, Nat.le_refl _, fun _ _ => rfl⟩ : World.ownsRow (w.alloc _).drew (b + 1) 23 3 (.slice q N c) N (vcells st)).alloc _) ⟨w.heap.size + 1, 0, none⟩ 1 1 [.int .i64 t, .int .i64 n, .string s] (by simp [Act.eval]) rfl (news_one (by simp) _) (one3 t n s) (by simp [maxLen]; omega) (by omega) (by simp; omega) ?_; intro q' c' w5 ho hg; obtain ⟨f1, f2, f3, f4⟩ := lay_end HM.out HN.out (by first | exact ((alB w _).drew.alloc (by simp) _)) ho hg)
  all_goals
    go_wp2
    go_end0
    exact ⟨rfl, ⟨q', c', f3⟩, f4⟩
/-- The upper end of a list of values. -/
theorem val_slice_l {w : World} {B : Nat} {q : Option Addr} {c N l : Nat} {st : List V3} (h : w.ownsRow B 23 3 (.slice q N c) N (vcells st)) (hn : st.length = N) (hl : l < N) : ∃ p1 c1, (∀ W, Sem.run Tryd.prog (Instr.slice 28 (.slice q N c) (some (.int .i64 (l : Int))) none none) W = .ok (.slice p1 (N - l) c1) W) ∧ (∀ W, Sem.run Tryd.prog (Instr.slice 28 (.slice q N c) none (some (.int .i64 (l : Int))) none) W = .ok (.slice q l c) W) ∧ ∃ g, p1 = some ⟨g, l * 3, none⟩ ∧ g < w.heap.size ∧ B ≤ g ∧ ∀ j (hj : j < (st.drop l).length), w.cell? ⟨g, l * 3 + j * 3, none⟩ = some (.int .i64 (st.drop l)[j].1) ∧ w.cell? ⟨g, l * 3 + j * 3 + 1, none⟩ = some (.int .i64 (st.drop l)[j].2.1) ∧ w.cell? ⟨g, l * 3 + j * 3 + 2, none⟩ = some (.string (st.drop l)[j].2.2) := by
  rcases h.2 with ⟨_, h0⟩ | ⟨g, cap, cur, e, hB, hg, h1, h2, h3, h4⟩
  · omega
  injection e with e1 e2 e3
  subst e1 e3
  have g2 : ∀ W, Sem.run Tryd.prog (Go.sizeOf (Tryd.prog.elem 28)) W = .ok 3 W := fun W => by kernel_rfl
  refine ⟨some ⟨g, l * 3, none⟩, c - l, fun W => ?_, fun W => ?_, g, rfl, (Array.getElem?_eq_some_iff.1 hg).1, hB, fun j hj => ?_⟩
  · rw [run_slice_l W 28 (some ⟨g, 0, none⟩) N c (by kernel_rfl) .i64 l (by omega) (by omega), g2 W]
    show Result.ok (sliced (some ⟨g, 0, none⟩) l N c 3) W = _
    rw [sliced, if_neg (by omega), Option.map_some, Go.WideShapes.add_plain, Nat.zero_add]
  · rw [run_slice_h W 28 (some ⟨g, 0, none⟩) N c (by kernel_rfl) .i64 l (by omega) (by omega), g2 W]
    show Result.ok (sliced (some ⟨g, 0, none⟩) 0 l c 3) W = _
    rw [sliced]
    simp [Addr.add]
  · rw [List.length_drop] at hj
    have hj2 : l + j < st.length := by omega
    obtain ⟨a0, a1, a2⟩ := vcells_at hj2
    have k1 := h.cells (g := g) rfl _ _ a0
    have k2 := h.cells (g := g) rfl _ _ a1
    have k3 := h.cells (g := g) rfl _ _ a2
    rw [Go.WideShapes.add_plain] at k1 k2 k3
    rw [List.getElem_drop]
    rw [show l * 3 + j * 3 = 0 + (l + j) * 3 by omega]
    exact ⟨k1, by rw [Nat.add_assoc]; exact k2, by rw [Nat.add_assoc]; exact k3⟩
set_option maxHeartbeats 2000000 in
theorem take_any' (b : Nat) (k : Int) (rv : Value) (q : Option Addr) (c : Nat) (st : List V3) (n : Nat) (w : World) (h : MchAt w b k rv q c st) (hn : 1 ≤ n) (hn2 : n ≤ st.length) (h64 : st.length ≤ 64) :
    Calls Tryd.prog 103 #[.pointer (some ⟨b, 0, none⟩), .int .i64 n] w fun e w' => (∃ g o c1, e = .returned (.slice (some ⟨g, o, none⟩) n c1) ∧ g < w'.heap.size ∧ b < g ∧ ∀ j (hj : j < (st.drop (st.length - n)).length), w'.cell? ⟨g, o + j * 3, none⟩ = some (.int .i64 (st.drop (st.length - n))[j].1) ∧ w'.cell? ⟨g, o + j * 3 + 1, none⟩ = some (.int .i64 (st.drop (st.length - n))[j].2.1) ∧ w'.cell? ⟨g, o + j * 3 + 2, none⟩ = some (.string (st.drop (st.length - n))[j].2.2)) ∧ Aside (MchAt w' b k rv q c (st.take (st.length - n))) ∧ Aside (MKeeps b w w') := by
  have hbl := h.lt
  have hfz := h.fz 2
  have HM : Aside (MchAt w b k rv q c st) := h
  obtain ⟨-, -, -, c2, ho⟩ := h
  have hlen : (st.take (st.length - n)).length = st.length - n := by rw [List.length_take]; omega
  have ht := own_take (l := st.length - n) (by omega) (by omega) ho
  have hM2 := HM.out.set2 ht
  rw [hlen] at hM2
  have HM2 : Aside (MchAt (w.setCell ⟨b, 2, none⟩ (.slice q (st.length - n) c)) b k rv q c (st.take (st.length - n))) := hM2
  have HK : Aside (MKeeps b w (w.setCell ⟨b, 2, none⟩ (.slice q (st.length - n) c))) := (MKeeps.refl b w).set _ _
  obtain ⟨p1, c1, r1, r2, g, rfl, hg, hB, hcell⟩ := val_slice_l (l := st.length - n) ho rfl (by omega)
  have hcell2 : Aside (∀ j (hj : j < (st.drop (st.length - n)).length), (w.setCell ⟨b, 2, none⟩ (.slice q (st.length - n) c)).cell? ⟨g, (st.length - n) * 3 + j * 3, none⟩ = some (.int .i64 (st.drop (st.length - n))[j].1) ∧ (w.setCell ⟨b, 2, none⟩ (.slice q (st.length - n) c)).cell? ⟨g, (st.length - n) * 3 + j * 3 + 1, none⟩ = some (.int .i64 (st.drop (st.length - n))[j].2.1) ∧ (w.setCell ⟨b, 2, none⟩ (.slice q (st.length - n) c)).cell? ⟨g, (st.length - n) * 3 + j * 3 + 2, none⟩ = some (.string (st.drop (st.length - n))[j].2.2)) := fun j hj => by
    have hne : ∀ o, (w.setCell ⟨b, 2, none⟩ (.slice q (st.length - n) c)).cell? ⟨g, o, none⟩ = w.cell? ⟨g, o, none⟩ := fun o => World.cell?_of_block (w := w) (a := ⟨g, o, none⟩) (Below.heap_setCell _ _ _ _ (by show g ≠ b; omega))
    rw [hne, hne, hne]
    exact hcell j hj
  have hsub : ((st.length - n : Nat) : Int) = (st.length : Int) - (n : Int) := by omega
  have hnn : st.length - (st.length - n) = n := by omega
  rw [hnn, hsub] at r1
  rw [hsub] at r2
  clear hsub
  generalize st.drop (st.length - n) = dr at hcell2 ⊢
  generalize st.take (st.length - n) = tk at HM2 ⊢
  generalize st.length - n = l at r1 r2 HM2 HK hcell2
  have hgz : g < (w.setCell ⟨b, 2, none⟩ (.slice q l c)).heap.size := by simpa [World.setCell] using hg
  have hbg : b < g := by omega
  generalize st.length = NN at c2 r1 r2 h64 hn2
  clear hcell ht hM2 ho HM hlen hnn hB
  go_enter Tryd.func103, Tryd.ntmps103
  go_wp2
  go_ret
  exact ⟨⟨g, l * 3, c1, rfl, hgz, hbg, hcell2.out⟩, HM2, HK⟩
set_option maxHeartbeats 4000000 in
set_option maxRecDepth 20000 in
theorem operate_any (b : Nat) (k : Int) (rv : Value) (q : Option Addr) (c : Nat) (st : List V3) (m : Int) (w : World) (hr : REnv w) (henv : ∀ W, Below b w W → REnv W) (h : MchAt w b k rv q c st) (h64 : st.length ≤ 64) (h0 : opE m = 0) (n : Nat) (hC : cntN (opN m) = n) (hn1 : 1 ≤ n) (hn : n ≤ st.length) (hsz : ∀ v ∈ st, v.2.2.size ≤ maxLen ∧ inB v.2.1) (T K : Int) (S : ByteArray) (E : Int) (hR : doP (opN m) (st.drop (st.length - n)) = ((T, K, S), E)) :
    Calls Tryd.prog 102 #[.pointer (some ⟨b, 0, none⟩), .int .i64 m] w fun e w' => e = .returned (errV E) ∧ Aside (E = 0 → ∃ q' c', MchAt w' b k rv q' c' (st.take (st.length - n) ++ [(T, K, S)])) ∧ Aside (MKeeps b w w') := by
  have cO := codeOp_any m w hr
  rw [h0] at cO
  simp only [show errV 0 = .nilIface from rfl] at cO
  have hbl := h.lt
  have HM : Aside (MchAt w b k rv q c st) := h
  have HE : Aside (∀ W, Below b w W → REnv W) := henv
  have cK := fun W hW => kindCount_any ⟨(opN m).toArray⟩ W hW n hC
  have HZ : Aside (∀ v ∈ st, v.2.2.size ≤ maxLen ∧ inB v.2.1) := hsz
  have HR : Hid (doP (opN m) (st.drop (st.length - n)) = ((T, K, S), E)) := hR
  obtain ⟨RV, hRV⟩ : ∃ RV, errV E = RV := ⟨_, rfl⟩
  have HRV : Hid (errV E = RV) := hRV
  obtain ⟨Z, hZ⟩ : ∃ Z : Prop, (E = 0) = Z := ⟨_, rfl⟩
  have HZZ : Hid ((E = 0) = Z) := hZ
  rw [hRV, hZ]
  clear henv hsz hR h hr h0 hRV hZ
  go_enter Tryd.func102, Tryd.ntmps102
  go_wp2_with fail
  refine cO.mono ?_
  rintro e w1 ⟨rfl, b1⟩
  have k1 := MKeeps.of_below b1 (Nat.le_of_lt hbl)
  have cK1 := cK w1 (HE.out _ k1.1)
  clear cO cK
  go_wp2_with fail
  refine cK1.mono ?_
  rintro e w2 ⟨⟨E0, rfl, hE0⟩, b2⟩
  obtain rfl : E0 = 0 := hE0 (by omega)
  simp only [show errV 0 = .nilIface from rfl]
  have M2 := (HM.out.on b1).on b2
  have K2 : MKeeps b w w2 := k1.on b2 (by have := b1.size; omega)
  have cT := take_any' b k rv q c st n w2 M2 hn1 hn h64
  clear cK1 b1 b2 hE0 k1 M2
  go_wp2_with fail
  refine cT.mono ?_
  rintro e w3 ⟨⟨g, o, c1, rfl, hg, hbg, hcell⟩, M3, K3⟩
  have hdl : (st.drop (st.length - n)).length = n := by rw [List.length_drop]; omega
  have K3' := K2.trans K3.out
  have cD := do_any ⟨(opN m).toArray⟩ (some ⟨g, o, none⟩) c1 n (st.drop (st.length - n)) w3 (HE.out _ K3'.1) hdl (by omega) (.inr ⟨g, o, rfl, hg, hcell⟩) (fun v hv => HZ.out v (List.mem_of_mem_drop hv)) T K S E HR.out
  have hs64 : (st.take (st.length - n)).length ≤ 64 := by rw [List.length_take]; omega
  clear cT hcell K3 K2 HR HZ
  by_cases hE : E = 0
  · subst hE
    simp only [show errV 0 = .nilIface from rfl] at cD
    obtain rfl : Value.nilIface = RV := HRV.out
    clear HRV
    go_wp2_with fail
    refine cD.mono ?_
    rintro e w4 ⟨rfl, b4⟩
    have hl3 := M3.out.lt
    have M4 := M3.out.on b4
    have M5 := M4.on (alB w4 (.cells #[.int .i64 T, .int .i64 K, .string S] 23))
    have K5 : MKeeps b w (w4.alloc (.cells #[.int .i64 T, .int .i64 K, .string S] 23)) := (K3'.on b4 (Nat.le_of_lt hl3)).alloc (Nat.le_of_lt M4.lt) _
    have cL := lay_any b k rv q c (st.take (st.length - n)) T K S _ M5 hs64
    clear cD b4 M3 M4 M5
    go_wp2_with fail
    refine cL.mono ?_
    rintro e w6 ⟨rfl, ⟨q', c', M6⟩, K6⟩
    have K7 : Aside (MKeeps b w w6) := K5.trans K6.out
    have M7 : Aside (Z → ∃ q' c', MchAt w6 b k rv q' c' (st.take (st.length - n) ++ [(T, K, S)])) := fun _ => ⟨q', c', M6.out⟩
    clear cL K5 K6 M6
    go_wp2
    go_ret
    exact ⟨rfl, M7, K7⟩
  · have hV : errV E = .iface 37 (.int .i64 E) := by rw [errV, if_neg hE]
    have M7 : ∀ w6, Aside (Z → ∃ q' c', MchAt w6 b k rv q' c' (st.take (st.length - n) ++ [(T, K, S)])) := fun _ h => absurd (HZZ.out.mpr h) hE
    rw [hV] at cD
    obtain rfl : Value.iface 37 (.int .i64 E) = RV := hV.symm.trans HRV.out
    clear hV hE HRV HZZ
    go_wp2_with fail
    refine cD.mono ?_
    rintro e w4 ⟨rfl, b4⟩
    have K5 : Aside (MKeeps b w (w4.alloc (.cells #[.int .i64 T, .int .i64 K, .string S] 23))) := (K3'.on b4 (Nat.le_of_lt M3.out.lt)).alloc (by have := M3.out.lt; have := b4.size; omega) _
    clear cD b4 M3
    go_wp2
    go_ret
    exact ⟨rfl, M7 _, K5⟩
end Go.Proofs.YtkoejkpjkcejcabDoor
namespace Go.Proofs.YtkoejkpjkcejcabDoor
open Go.RowKit
set_option linter.unusedVariables false
--BEGIN
theorem step_knows {zs : List (ByteArray × Int)} {ks : List Pl} {k : Nat} {i : I5} (h : (stepP zs ks k i).2 = 0) : ∃ T, ks[k]? = some (some T) := by
  unfold stepP at h
  split at h
  · exact absurd h (by simp)
  · rename_i h1
    match hq : ks[k]?, h1 with
    | some (some T), _ => exact ⟨T, rfl⟩
    | some none, h1 => simp at h1
    | none, h1 => simp at h1
theorem loop_on {zs : List (ByteArray × Int)} : ∀ {is : List I5} {ks l : List Pl} {k n : Nat}, loopP zs ks k is = (l, n, 0) → KnOn ks l ∧ l.length = ks.length
  | [], ks, l, k, n, h => by
    rw [loopP] at h
    obtain ⟨rfl, _⟩ := Prod.mk.inj h
    exact ⟨KnOn.refl _, rfl⟩
  | i :: is, ks, l, k, n, h => by
    rw [loopP] at h
    split at h
    · rename_i h1
      exact absurd (congrArg (fun r => r.2.2) h) h1
    · obtain ⟨h1, h2⟩ := loop_on h
      exact ⟨step_on.trans h1, by rw [h2, stepP_len]⟩
theorem loop_at {zs : List (ByteArray × Int)} : ∀ {is : List I5} {ks l : List Pl} {k n : Nat}, ks.length = k + is.length + 1 → loopP zs ks k is = (l, n, 0) → ∀ j (hj : j < is.length), ∃ T, l[k + j]? = some (some T) ∧ argE is[j] zs.length ((l.length : Int) - 1 - (((k + j : Nat) : Int) + 1)) = 0 ∧ (aftP T is[j] zs).2 = 0 ∧ ∀ t ∈ leadP is[j] (k + j + 1), l[t]? = some (some (aftP T is[j] zs).1)
  | [], ks, l, k, n, hl, h, j, hj => absurd hj (by simp)
  | i :: is, ks, l, k, n, hl, h, j, hj => by
    rw [List.length_cons] at hl hj
    rw [loopP] at h
    split at h
    · rename_i h1
      exact absurd (congrArg (fun r => r.2.2) h) h1
    rename_i h1
    have h1' := Classical.not_not.1 h1
    obtain ⟨h2, h3⟩ := loop_on h
    rw [stepP_len] at h3
    match j, hj with
    | 0, _ =>
      obtain ⟨T, hT⟩ := step_knows h1'
      obtain ⟨q1, q2, q3⟩ := step_out h1' hT (by omega)
      refine ⟨T, h2 _ _ (step_on _ _ hT), ?_, q2, fun t ht => h2 _ _ (q3 t ht)⟩
      rw [h3]
      exact q1
    | j + 1, hj =>
      have := loop_at (by rw [stepP_len]; omega) h j (by omega)
      rw [show k + (j + 1) = k + 1 + j by omega]
      exact this
/-- What is known of the places of sound code. -/
structure Snd (zs : List (ByteArray × Int)) (is : List I5) (l : List Pl) (t : Int) : Prop where
  len : l.length = is.length + 1
  most : is.length ≤ 1200
  start : l[0]? = some (some [])
  fin : l[is.length]? = some (some [t])
  step : ∀ j (hj : j < is.length), ∃ T, l[j]? = some (some T) ∧ argE is[j] zs.length ((l.length : Int) - 1 - ((j : Int) + 1)) = 0 ∧ (aftP T is[j] zs).2 = 0 ∧ ∀ t ∈ leadP is[j] (j + 1), l[t]? = some (some (aftP T is[j] zs).1)
theorem snd_of {zs : List (ByteArray × Int)} {is : List I5} (h : (verP is zs).2.2 = 0) : ∃ l t, Snd zs is l t ∧ typP is (verP is zs) = t ∧ schE zs = 0 := by
  obtain ⟨h1, h2, l, t, h3, h4, h5, h6⟩ := sound_loop h
  refine ⟨l, t, ⟨h4, h1, (loop_on h3).1 0 [] rfl, h5, fun j hj => ?_⟩, typ_sound h5 h6, h2⟩
  have := loop_at (by simp) h3 j hj
  rw [Nat.zero_add] at this
  exact this
/-- What lies on the stack at a place of which it is known. -/
def AtPl (l : List Pl) (k : Nat) (st : List V3) : Prop := ∃ T, l[k]? = some (some T) ∧ StkR T st
theorem Snd.need {zs : List (ByteArray × Int)} {is : List I5} {l : List Pl} {t : Int} (h : Snd zs is l t) {k : Nat} {st : List V3} (hk : k < is.length) (ha : AtPl l k st) : needN is[k] ≤ st.length := by
  obtain ⟨T, h1, h2⟩ := ha
  obtain ⟨T', e1, e2, e3, e4⟩ := h.step k hk
  rw [h1] at e1
  obtain rfl : T = T' := Option.some.inj (Option.some.inj e1)
  rw [h2.len]
  unfold aftP at e3
  split at e3
  · exact absurd e3 (by simp)
  · omega
theorem aft_64 {T : List Int} {i : I5} {zs : List (ByteArray × Int)} (h : (aftP T i zs).2 = 0) : (aftP T i zs).1.length ≤ 64 := by
  unfold aftP at h ⊢
  split at h
  · exact absurd h (by simp)
  rename_i hn
  rw [if_neg hn]
  split at h
  · rename_i h3; exact absurd h h3
  rename_i h3
  rw [if_neg h3]
  split at h
  · exact absurd h (by simp)
  rename_i h4
  rw [if_neg h4]
  simp only [List.length_append, List.length_take]
  omega
theorem StkR.sized {T : List Int} {st : List V3} (h : StkR T st) : ∀ v ∈ st, v.2.2.size ≤ 40 ∧ inB v.2.1 := fun v hv => by
  obtain ⟨_, h2, h3⟩ := h.2 v hv
  have := chk_size h2
  exact ⟨by simpa using this, h3⟩
theorem AtPl.sized {l : List Pl} {k : Nat} {st : List V3} (h : AtPl l k st) : ∀ v ∈ st, v.2.2.size ≤ 40 ∧ inB v.2.1 := by
  obtain ⟨T, _, h⟩ := h
  exact h.sized
/-- One instruction of sound code, done at a place of which it is known what lies there: it may be done; and a number goes over, or it is known what lies at the next place. -/
theorem Snd.next {zs : List (ByteArray × Int)} {rs : List V3} {is : List I5} {l : List Pl} {t : Int} (h : Snd zs is l t) (hrow : RowR zs rs) (hb : ∀ i ∈ is, inB i.2.2.2.1) {k : Nat} {st : List V3} (hk : k < is.length) (ha : AtPl l k st) :
    argE is[k] zs.length ((is.length : Int) - ((k : Int) + 1)) = 0 ∧ ((vmI rs st is[k]).2.2 = 0 ∧ k + 1 + (vmI rs st is[k]).2.1 ≤ is.length ∧ AtPl l (k + 1 + (vmI rs st is[k]).2.1) (vmI rs st is[k]).1 ∧ (vmI rs st is[k]).1.length ≤ 64 ∨ (vmI rs st is[k]).2.2 = 9) := by
  obtain ⟨T, h1, h2⟩ := ha
  obtain ⟨T', e1, e2, e3, e4⟩ := h.step k hk
  rw [h1] at e1
  obtain rfl : T = T' := Option.some.inj (Option.some.inj e1)
  have hl := h.len
  rw [hl] at e2
  have e2' : argE is[k] zs.length ((is.length : Int) - ((k : Int) + 1)) = 0 := by
    rw [← e2]; congr 1; omega
  refine ⟨e2', ?_⟩
  rcases vmI_right hrow (hb _ (List.getElem_mem hk)) h2 e2' e3 with ⟨r1, r2⟩ | r
  · have hm := vmI_lead (rs := rs) (st := st) (i := is[k]) k
    have hlt := lead_lt (n := is.length + 1) (by omega) e2 _ hm
    exact .inl ⟨r1, by omega, ⟨_, e4 _ hm, r2⟩, by rw [r2.len]; exact aft_64 e3⟩
  · exact .inr r
/-- A run from a place on, place by place. -/
theorem run_at {rs : List V3} {fuel : Int} {is : List I5} {k : Nat} {st : List V3} {d : List Nat} (hk : k < is.length) (hle : (vmI rs st is[k]).2.2 = 0 → k + 1 + (vmI rs st is[k]).2.1 ≤ is.length) :
    runP rs fuel (is.drop k) k 0 st d = if (d.length : Int) = fuel then (0, st, d, 10) else if (vmI rs st is[k]).2.2 ≠ 0 then (0, st, d, (vmI rs st is[k]).2.2) else runP rs fuel (is.drop (k + 1 + (vmI rs st is[k]).2.1)) (k + 1 + (vmI rs st is[k]).2.1) 0 (vmI rs st is[k]).1 (d ++ [k]) := by
  rw [List.drop_eq_getElem_cons hk, runP]
  split
  · rfl
  split
  · rfl
  rename_i h0
  rw [run_drop rs fuel _ _ _ _ _ (by rw [List.length_drop]; have := hle (Classical.not_not.1 h0); omega), List.drop_drop]
theorem Snd.end {zs : List (ByteArray × Int)} {is : List I5} {l : List Pl} {t : Int} (h : Snd zs is l t) {st : List V3} (ha : AtPl l is.length st) : ∃ v, st = [v] ∧ okV t v := by
  obtain ⟨T, h1, h2⟩ := ha
  rw [h.fin] at h1
  obtain rfl : [t] = T := Option.some.inj (Option.some.inj h1)
  obtain ⟨e1, e2⟩ := h2
  match st, e1, e2 with
  | [v], e1, e2 =>
    refine ⟨v, rfl, ?_⟩
    have := e2 v (by simp)
    rw [List.map_singleton] at e1
    have he : v.1 = t := by injection e1
    rw [he] at this
    exact this
  | [], e1, _ => exact absurd e1 (by simp)
  | _ :: _ :: _, e1, _ => exact absurd e1 (by simp)
--END
end Go.Proofs.YtkoejkpjkcejcabDoor
