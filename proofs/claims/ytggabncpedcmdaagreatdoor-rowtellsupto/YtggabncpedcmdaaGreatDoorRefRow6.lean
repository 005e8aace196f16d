/-
  The document's Cut (package sluiceref1), at any text: its pieces.
-/
import Derived.Test.YtggabncpedcmdaaGreatDoorRefRow5
namespace Go.Proofs.YtggabncpedcmdaaGreatDoor
open Go.RowKit
set_option linter.unusedVariables false

def addHead (p : List UInt8) : List (List UInt8) → List (List UInt8)
  | [] => [p]
  | q :: qs => (p ++ q) :: qs
/-- The pieces of a text between the bytes c. -/
def pieces (c : UInt8) : List UInt8 → List (List UInt8)
  | [] => [[]]
  | x :: l => if x = c then [] :: pieces c l else addHead [x] (pieces c l)
theorem addHead_add (p q : List UInt8) : ∀ (l : List (List UInt8)), addHead p (addHead q l) = addHead (p ++ q) l
  | [] => rfl
  | a :: l => by simp [addHead]
theorem addHead_nil : ∀ {l : List (List UInt8)}, l ≠ [] → addHead [] l = l
  | [], h => absurd rfl h
  | a :: l, _ => rfl
theorem pieces_ne (c : UInt8) (l : List UInt8) : pieces c l ≠ [] := by
  cases l with
  | nil => simp [pieces]
  | cons x l =>
    rw [pieces]
    split
    · simp
    · cases pieces c l <;> simp [addHead]
/-- What is known at the head of a round. -/
structure CutInv (s : ByteArray) (c : UInt8) (out : List ByteArray) (frm i : Nat) : Prop where
  le : frm ≤ i
  all : pieces c s.data.toList = out.map (·.data.toList) ++ addHead ((s.data.toList.drop frm).take (i - frm)) (pieces c (s.data.toList.drop i))
  few : out.length ≤ frm
theorem take_more (s : ByteArray) (a i : Nat) (h : a ≤ i) (hi : i < s.size) : (s.data.toList.drop a).take (i + 1 - a) = (s.data.toList.drop a).take (i - a) ++ [s[i]] := by
  have hl : i - a < (s.data.toList.drop a).length := by simp; omega
  rw [show i + 1 - a = i - a + 1 by omega, List.take_succ_eq_append_getElem hl, List.getElem_drop]
  have e : a + (i - a) = i := by omega
  simp only [e]
  rfl
theorem CutInv.plain {s : ByteArray} {c : UInt8} {out : List ByteArray} {frm i : Nat} (h : CutInv s c out frm i) (hi : i < s.size) (hc : s[i] ≠ c) : CutInv s c out frm (i + 1) :=
  ⟨by have := h.le; omega, by rw [h.all, drop_at s i hi, pieces, if_neg hc, addHead_add, take_more s frm i h.le hi], h.few⟩
theorem CutInv.hit {s : ByteArray} {c : UInt8} {out : List ByteArray} {frm i : Nat} (h : CutInv s c out frm i) (hi : i < s.size) (hc : s[i] = c) {X : ByteArray} (hX : X.data.toList = (s.data.toList.drop frm).take (i - frm)) : CutInv s c (out ++ [X]) (i + 1) (i + 1) :=
  ⟨Nat.le_refl _, by
    rw [h.all, drop_at s i hi, pieces, if_pos hc]
    simp only [addHead, List.append_nil, List.map_append, List.map_cons, List.map_nil, hX, Nat.sub_self, List.take_zero]
    rw [show (match pieces c (s.data.toList.drop (i + 1)) with | [] => [[]] | q :: qs => ([] ++ q) :: qs) = addHead [] (pieces c (s.data.toList.drop (i + 1))) by cases pieces c (s.data.toList.drop (i + 1)) <;> rfl, addHead_nil (pieces_ne _ _)]
    simp, by rw [List.length_append, List.length_singleton]; have := h.few; have := h.le; omega⟩
theorem slice_tail (s : ByteArray) (a : Nat) (ha : a ≤ s.size) : ∃ X : ByteArray, (∀ W : World, Sem.run Tryz.prog (Instr.slice 9 (.string s) (some (.int .i64 (a : Int))) none none) W = .ok (.string X) W) ∧ X.data.toList = s.data.toList.drop a ∧ X.size ≤ s.size := by
  refine ⟨s.extract a s.size, fun W => ?_, by rw [Lib.extract_data, List.take_of_length_le (by simp)], ?_⟩
  · have := run_slice_string_l (P := Tryz.prog) W 9 s Tryz.underlying9 .i64 (a : Int) (by omega) (by omega)
    rw [this, show ((a : Int)).toNat = a by omega]
  · rw [Lib.size_eq, Lib.size_eq, Lib.extract_data, List.length_take, List.length_drop]; omega
set_option maxHeartbeats 8000000 in
set_option maxRecDepth 20000 in
theorem refCut_any (s : ByteArray) (c : UInt8) (cz : Int) (hcz : (c.toNat : Int) = cz) (w : World) (hs : s.size ≤ 1099511627776) :
    Calls Tryz.prog 61 #[.string s, .int .u8 cz] w fun e w' => (∃ (v : Value) (out : List ByteArray), e = .returned v ∧ w'.ownsRow w.heap.size 9 1 v out.length (strCells out) ∧ Hid (pieces c s.data.toList = out.map (·.data.toList)) ∧ Hid (∀ x ∈ out, x.size ≤ s.size) ∧ out.length ≤ s.size + 1) ∧ Below w.heap.size w w' := by
  obtain ⟨i0, hi, hz0, hz1, hz2⟩ := info_parts info_str
  have HCZ : Hid ((c.toNat : Int) = cz) := hcz
  clear hcz
  go_enter Tryz.func61, Tryz.ntmps61
  go_wp2
  go_loopg [5, 6, 7] (s.size + 1) (fun gg s5 s6 s7 wr => ∃ (out : List ByteArray) (frm i : Nat), s6 = .int .i64 frm ∧ s7 = .int .i64 i ∧ i ≤ s.size ∧ frm ≤ i ∧ s.size - i ≤ gg ∧ wr.ownsRow w.heap.size 9 1 s5 out.length (strCells out) ∧ Aside (Below w.heap.size w wr) ∧ Hid (CutInv s c out frm i) ∧ Hid (∀ x ∈ out, x.size ≤ s.size))
  case atStart => exact ⟨[], 0, 0, rfl, rfl, by omega, by omega, by omega, World.ownsRow_nil _ _ _ _, Below.refl _ w, (show Hid _ from ⟨Nat.le_refl _, by simp [addHead_nil (pieces_ne _ _)], by simp⟩), (show Hid _ by simp [Hid])⟩
  case round =>
    obtain ⟨out, frm, i, rfl, rfl, hile, hfi, hg, hown, BW, HI, HZ⟩ := hrel
    have hfew := HI.out.few
    by_cases hlt : i < s.size
    · have hltz : (i : Int) < (s.size : Int) := by omega
      by_cases hc : s[i] = c
      · have hcb : ((s[i].toNat : Int) == cz) = true := by rw [hc, HCZ.out]; simp
        obtain ⟨X, hX1, hX2, hX3⟩ := slice_part s frm i hfi (by omega)
        have HI2 : Hid (CutInv s c (out ++ [X]) (i + 1) (i + 1)) := HI.out.hit hlt hc hX2
        have HZ2 : Hid (∀ x ∈ out ++ [X], x.size ≤ s.size) := by
          intro x hx
          rcases List.mem_append.1 hx with h | h
          · exact HZ.out x h
          · obtain rfl := List.mem_singleton.1 h
            exact hX3
        clear HI HZ hc hX2
        go_wp2_with (at_builtin; refine wpList_append_own _ rfl _ _ 88 rfl w.heap.size 9 i0 (.string ⟨#[]⟩) 1 16 Tryz.underlying88 hi hz0 hz1 hz2 rfl (by decide) _ _ _ rfl (hown.alloc _) ⟨wr.heap.size, 0, none⟩ 1 1 [.string X] rfl rfl ?c1 ?c2 ?c3 ?c4 ?c5 ?_)
        case c1 =>
          intro i u hu
          match i, hu with
          | 0, hu => simp at hu; subst hu; simp [Addr.add]
        case c2 => intro u hu; simp at hu; subst hu; rfl
        case c3 => unfold maxLen; omega
        case c4 => omega
        case c5 => have := BW.out.size; simp; omega
        · intro v' w2 hown' hgrow _
          have R := rel_str hown BW.out (by have := BW.out.size; omega) hown' hgrow
          clear hown' hgrow hown
          go_wp2
          go_roundg (s.size - (i + 1))
          case measure => omega
          case rel => exact ⟨out ++ [X], i + 1, i + 1, by go_num, by go_num, by omega, by omega, by omega, R.1, R.2, HI2, HZ2⟩
      · have hcb : ((s[i].toNat : Int) == cz) = false := by
          rw [beq_eq_false_iff_ne, ← HCZ.out]
          exact fun e => hc (UInt8.toNat_inj.1 (by omega))
        have HI2 : Hid (CutInv s c out frm (i + 1)) := HI.out.plain hlt hc
        clear HI hc
        go_wp2
        go_roundg (s.size - (i + 1))
        case measure => omega
        case rel => exact ⟨out, frm, i + 1, rfl, by go_num, by omega, by omega, by omega, hown, BW, HI2, HZ⟩
    · have hltz : ¬ (i : Int) < (s.size : Int) := by omega
      obtain ⟨X, hX1, hX2, hX3⟩ := slice_tail s frm (by omega)
      have HP : Hid (pieces c s.data.toList = (out ++ [X]).map (·.data.toList)) := by
        show _ = _
        rw [HI.out.all, List.drop_eq_nil_of_le (show s.data.toList.length ≤ i by simp; omega), pieces]
        simp only [addHead, List.append_nil, List.map_append, List.map_cons, List.map_nil, hX2]
        rw [List.take_of_length_le (by simp; omega)]
      have HZ2 : Hid (∀ x ∈ out ++ [X], x.size ≤ s.size) := by
        intro x hx
        rcases List.mem_append.1 hx with h | h
        · exact HZ.out x h
        · obtain rfl := List.mem_singleton.1 h
          exact hX3
      clear HI HZ hX2
      go_wp2_with (at_builtin; refine wpList_append_own _ rfl _ _ 88 rfl w.heap.size 9 i0 (.string ⟨#[]⟩) 1 16 Tryz.underlying88 hi hz0 hz1 hz2 rfl (by decide) _ _ _ rfl (hown.alloc _) ⟨wr.heap.size, 0, none⟩ 1 1 [.string X] rfl rfl ?c1 ?c2 ?c3 ?c4 ?c5 ?_)
      case c2 => rfl
      case c3 => unfold maxLen; omega
      case c4 => omega
      case c5 => have := BW.out.size; simp; omega
      · intro v' w2 hown' hgrow _
        have R := rel_str hown BW.out (by have := BW.out.size; omega) hown' hgrow
        clear hown' hgrow hown
        go_wp2
        go_ret
        exact ⟨⟨_, out ++ [X], rfl, R.1, HP, HZ2, by rw [List.length_append, List.length_singleton]; omega⟩, R.2⟩
end Go.Proofs.YtggabncpedcmdaaGreatDoor
