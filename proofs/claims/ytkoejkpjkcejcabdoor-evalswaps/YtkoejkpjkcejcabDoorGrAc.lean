/-
  CdLn, Bld, Ref1, NumFacts, Ref2, in one text.
-/
import Derived.Test.YtkoejkpjkcejcabDoorGrAb
import Derived.Lib.LaidTab
import Derived.Lib.AppendIntMem
import Derived.Test.YtkoejkpjkcejcabDoorGrAa
import Derived.Lib.Builder
import Derived.Lib.AppendStr
import Derived.Lib.OthersKept
import Derived.Lib.ItoaLen
namespace Go.Proofs.YtkoejkpjkcejcabDoor
open Go.RowKit
set_option linter.unusedVariables false

theorem wordB (a b : ByteArray) (l m : List UInt8) (h1 : a.data.toList = l) (h2 : b.data.toList = m) : a ++ ⟨#[32]⟩ ++ b = ⟨(wordL l m).toArray⟩ := by
  apply ByteArray.ext
  apply Array.toList_inj.1
  simp [wordL, h1, h2]
theorem catB (a b : ByteArray) (l : List UInt8) (h : a.data.toList ++ b.data.toList = l) : a ++ b = ⟨l.toArray⟩ := by
  apply ByteArray.ext
  apply Array.toList_inj.1
  simp [h]
theorem sizeL (l : List UInt8) : (⟨l.toArray⟩ : ByteArray).size = l.length := by simp [ByteArray.size]
def insV (i : I5) : Value := .agg #[.int .i64 i.1, .int .i64 i.2.1, .int .i64 i.2.2.1, .int .i64 i.2.2.2.1, .string i.2.2.2.2]
set_option maxHeartbeats 4000000 in
theorem line_any (i : I5) (w : World) (hi : okI i) (henv : Env w) (hr : REnv w) :
    Calls Tryd.prog 37 #[insV i] w fun e w' => e = .returned (.string ⟨(lineP i).toArray⟩) ∧ Below w.heap.size w w' := by
  obtain ⟨a, g, t, n, s⟩ := i
  obtain ⟨h1, h2, h3⟩ := hi
  simp only at h1 h2 h3
  show Calls Tryd.prog _ #[Value.agg #[.int .i64 a, .int .i64 g, .int .i64 t, .int .i64 n, .string s]] w _
  obtain ⟨R, hR⟩ : ∃ R : ByteArray, ⟨(lineP (a, g, t, n, s)).toArray⟩ = R := ⟨_, rfl⟩
  rw [hR]
  have HR : Hid (⟨(lineP (a, g, t, n, s)).toArray⟩ = R) := hR
  clear hR
  have hB : ∀ o, Below w.heap.size w (w.alloc o) := fun o => (Below.refl _ _).alloc (Nat.le_refl _) o
  have hit := itoa_len90 h1
  by_cases a1 : a = 1
  · subst a1
    by_cases hc : chk t n s.data.toList = 0
    · have HR2 : Hid ((⟨(wordL [112, 117, 115, 104] (shown t n s.data.toList)).toArray⟩ : ByteArray) = R) := by
        show _ = _
        rw [← HR.out, lineP, if_pos rfl, if_neg (by simpa using hc)]
      have hps : prS t n s.data.toList = shown t n s.data.toList := by rw [prS, if_pos hc]
      have hsl := shown_len h2 hc
      have HC : Hid (chk t n s.data.toList = 0) := hc
      have hP := fun W hW => print_any t n s W h3 h2 hW
      rw [hps, hc] at hP
      generalize shown t n s.data.toList = X at *
      clear hc hps HR
      go_enter Tryd.func37, Tryd.ntmps37
      go_wp2_with fail
      refine (hP _ (henv.alloc _)).mono ?_
      rintro e w1 ⟨rfl, b1⟩
      go_wp2_with fail
      refine (worded_any _ _ _ _ (by decide) (by rw [sizeL]; omega)).mono ?_
      rintro e w2 ⟨rfl, rfl⟩
      go_wp2
      go_ret
      exact ⟨by rw [← HR2.out]; rfl, (hB _).trans (b1.mono (by simp))⟩
    · have HR2 : Hid ((⟨#[63]⟩ : ByteArray) = R) := by
        show _ = _
        rw [← HR.out, lineP, if_pos rfl, if_pos (by simpa using hc)]
      have hps : prS t n s.data.toList = [] := by rw [prS, if_neg hc]
      have hP := fun W hW => print_any t n s W h3 h2 hW
      rw [hps] at hP
      generalize chk t n s.data.toList = X at *
      clear hps HR
      go_enter Tryd.func37, Tryd.ntmps37
      go_wp2_with fail
      refine (hP _ (henv.alloc _)).mono ?_
      rintro e w1 ⟨rfl, b1⟩
      go_wp2_with fail
      refine (worded_any _ _ _ _ (by decide) (by rw [sizeL]; simp)).mono ?_
      rintro e w2 ⟨rfl, rfl⟩
      go_wp2
      go_ret
      exact ⟨by rw [← HR2.out]; rfl, (hB _).trans (b1.mono (by simp))⟩
  by_cases a3 : a = 3
  · subst a3
    have ho := opN_len g
    have hP := fun W hW => codeOp_any g W hW
    by_cases hc : opE g = 0
    · have HR2 : Hid ((⟨(wordL [100, 111] (opN g)).toArray⟩ : ByteArray) = R) := by
        show _ = _
        rw [← HR.out, lineP, if_neg a1, if_neg (show ¬ (3 : Int) = 2 by decide), if_pos rfl, if_neg (by simpa using hc)]
      rw [hc] at hP
      generalize opN g = X at *
      clear HR a1
      go_enter Tryd.func37, Tryd.ntmps37
      go_wp2_with fail
      refine (hP _ (hr.on (hB _))).mono ?_
      rintro e w1 ⟨rfl, b1⟩
      go_wp2_with fail
      refine (worded_any _ _ _ _ (by decide) (by rw [sizeL]; omega)).mono ?_
      rintro e w2 ⟨rfl, rfl⟩
      go_wp2
      go_ret
      exact ⟨by rw [← HR2.out]; rfl, (hB _).trans (b1.mono (by simp))⟩
    · have HR2 : Hid ((⟨#[63]⟩ : ByteArray) = R) := by
        show _ = _
        rw [← HR.out, lineP, if_neg a1, if_neg (show ¬ (3 : Int) = 2 by decide), if_pos rfl, if_pos (by simpa using hc)]
      generalize opN g = X at *
      generalize opE g = Y at *
      clear HR a1
      go_enter Tryd.func37, Tryd.ntmps37
      go_wp2_with fail
      refine (hP _ (hr.on (hB _))).mono ?_
      rintro e w1 ⟨rfl, b1⟩
      go_wp2_with fail
      refine (worded_any _ _ _ _ (by decide) (by rw [sizeL]; omega)).mono ?_
      rintro e w2 ⟨rfl, rfl⟩
      go_wp2
      go_ret
      exact ⟨by rw [← HR2.out]; rfl, (hB _).trans (b1.mono (by simp))⟩
  by_cases aj : a = 2 ∨ a = 4 ∨ a = 5
  · have hS := sizeL (Lib.itoa g)
    rcases aj with rfl | rfl | rfl
    · have HR2 : Hid (R.data.toList = wordL [108, 111, 97, 100] (Lib.itoa g)) := by
        show _ = _
        rw [← HR.out, lineP, if_neg a1, if_pos rfl]
      have hI := fun W hW => Tryd.strconv_Itoa g h1.1 h1.2 W hW
      have hsz : (⟨(Lib.itoa g).toArray⟩ : ByteArray).size ≤ 90 := by rw [hS]; omega
      have hsd : (⟨(Lib.itoa g).toArray⟩ : ByteArray).data.toList = Lib.itoa g := rfl
      generalize Lib.itoa g = X at *
      generalize (⟨X.toArray⟩ : ByteArray) = Y at *
      have HD : Hid (Y.data.toList = X) := hsd
      clear HR a1 a3 hS hsd
      go_enter Tryd.func37, Tryd.ntmps37
      go_wp2_with fail
      refine (hI _ (henv.alloc _).tab).mono ?_
      rintro e w1 ⟨rfl, hg1⟩
      have b1 := grow_below hg1
      clear hg1
      go_wp2
      go_ret
      have hF : (⟨#[108, 111, 97, 100, 32]⟩ : ByteArray) ++ Y = R := by
        apply ByteArray.ext
        apply Array.toList_inj.1
        rw [HR2.out]
        simp [wordL, HD.out]
      exact ⟨by rw [← hF]; rfl, (hB _).trans (b1.mono (by simp))⟩
    · have HR2 : Hid (R.data.toList = wordL [106, 117, 109, 112] (Lib.itoa g)) := by
        show _ = _
        rw [← HR.out, lineP, if_neg a1, if_neg (show ¬ (4 : Int) = 2 by decide), if_neg a3, if_pos rfl]
      have hI := fun W hW => Tryd.strconv_Itoa g h1.1 h1.2 W hW
      have hsz : (⟨(Lib.itoa g).toArray⟩ : ByteArray).size ≤ 90 := by rw [hS]; omega
      have hsd : (⟨(Lib.itoa g).toArray⟩ : ByteArray).data.toList = Lib.itoa g := rfl
      generalize Lib.itoa g = X at *
      generalize (⟨X.toArray⟩ : ByteArray) = Y at *
      have HD : Hid (Y.data.toList = X) := hsd
      clear HR a1 a3 hS hsd
      go_enter Tryd.func37, Tryd.ntmps37
      go_wp2_with fail
      refine (hI _ (henv.alloc _).tab).mono ?_
      rintro e w1 ⟨rfl, hg1⟩
      have b1 := grow_below hg1
      clear hg1
      go_wp2
      go_ret
      have hF : (⟨#[106, 117, 109, 112, 32]⟩ : ByteArray) ++ Y = R := by
        apply ByteArray.ext
        apply Array.toList_inj.1
        rw [HR2.out]
        simp [wordL, HD.out]
      exact ⟨by rw [← hF]; rfl, (hB _).trans (b1.mono (by simp))⟩
    · have HR2 : Hid (R.data.toList = wordL [101, 108, 115, 101] (Lib.itoa g)) := by
        show _ = _
        rw [← HR.out, lineP, if_neg a1, if_neg (show ¬ (5 : Int) = 2 by decide), if_neg a3, if_neg (show ¬ (5 : Int) = 4 by decide), if_pos rfl]
      have hI := fun W hW => Tryd.strconv_Itoa g h1.1 h1.2 W hW
      have hsz : (⟨(Lib.itoa g).toArray⟩ : ByteArray).size ≤ 90 := by rw [hS]; omega
      have hsd : (⟨(Lib.itoa g).toArray⟩ : ByteArray).data.toList = Lib.itoa g := rfl
      generalize Lib.itoa g = X at *
      generalize (⟨X.toArray⟩ : ByteArray) = Y at *
      have HD : Hid (Y.data.toList = X) := hsd
      clear HR a1 a3 hS hsd
      go_enter Tryd.func37, Tryd.ntmps37
      go_wp2_with fail
      refine (hI _ (henv.alloc _).tab).mono ?_
      rintro e w1 ⟨rfl, hg1⟩
      have b1 := grow_below hg1
      clear hg1
      go_wp2
      go_ret
      have hF : (⟨#[101, 108, 115, 101, 32]⟩ : ByteArray) ++ Y = R := by
        apply ByteArray.ext
        apply Array.toList_inj.1
        rw [HR2.out]
        simp [wordL, HD.out]
      exact ⟨by rw [← hF]; rfl, (hB _).trans (b1.mono (by simp))⟩
  have a2 : a ≠ 2 := by omega
  have a4 : a ≠ 4 := by omega
  have a5 : a ≠ 5 := by omega
  have HR2 : Hid ((⟨(if a = 6 then [107, 101, 101, 112] else if a = 7 then [100, 114, 111, 112] else [63] : List UInt8).toArray⟩ : ByteArray) = R) := by
    show _ = _
    rw [← HR.out]
    simp only [lineP, if_neg a1, if_neg a2, if_neg a3, if_neg a4, if_neg a5]
  clear HR aj
  by_cases a6 : a = 6
  · subst a6
    go_enter Tryd.func37, Tryd.ntmps37
    go_wp2
    go_ret
    exact ⟨by rw [← HR2.out]; rfl, hB _⟩
  by_cases a7 : a = 7
  · subst a7
    go_enter Tryd.func37, Tryd.ntmps37
    go_wp2
    go_ret
    exact ⟨by rw [← HR2.out]; rfl, hB _⟩
  · rw [if_neg a6, if_neg a7] at HR2
    go_enter Tryd.func37, Tryd.ntmps37
    go_wp2
    go_ret
    exact ⟨by rw [← HR2.out]; rfl, hB _⟩
end Go.Proofs.YtkoejkpjkcejcabDoor
namespace Go.Proofs.YtkoejkpjkcejcabDoor
open Go.RowKit
set_option linter.unusedVariables false

namespace Bld
theorem size : (Tryd.prog.info? 78).map (·.size) = some 2 := by kernel_rfl
theorem lies : liesAt Tryd.prog Tryd.prog.depth 78 (2 / Tryd.prog.cellsOf 78) 0 78 1 = true := by kernel_rfl
theorem byte : (Tryd.prog.info? 5).map (fun i => (i.zero, i.size, i.bytes)) = some (some (.int .u8 0), 1, 1) := by kernel_rfl
set_option maxHeartbeats 1000000 in
set_option maxRecDepth 100000 in
theorem used (b : Nat) (w : World) (h0 : w.cell? ⟨b, 0, none⟩ = some (.pointer (some ⟨b, 0, none⟩))) :
    Calls Tryd.prog 71 #[.pointer (some ⟨b, 0, none⟩)] w fun e w' => e = .returned (.tuple #[]) ∧ w' = w := by
  obtain ⟨j, hj, _⟩ := Option.map_eq_some_iff.1 size
  go_enter Tryd.func71, Tryd.ntmps71
  go_wp2
  rw [Lib.run_neq_ptr_same w _ Tryd.underlying75 hj]
  go_wp2
  go_end0
  exact ⟨rfl, rfl⟩
set_option maxHeartbeats 1000000 in
set_option maxRecDepth 100000 in
theorem fresh (b : Nat) (w : World) (h0 : w.cell? ⟨b, 0, none⟩ = some (.pointer none)) (hsh : w.shape? b = some (78, 2)) (hfz : w.frozen? ⟨b, 0, none⟩ = false) :
    Calls Tryd.prog 71 #[.pointer (some ⟨b, 0, none⟩)] w fun e w' => e = .returned (.tuple #[]) ∧ w' = w.setCell ⟨b, 0, none⟩ (.pointer (some ⟨b, 0, none⟩)) := by
  obtain ⟨j, hj, hjs⟩ := Option.map_eq_some_iff.1 size
  go_enter Tryd.func71, Tryd.ntmps71
  go_wp2
  rw [Lib.run_to_unsafe w ⟨b, 0, none⟩ Tryd.underlying75 Tryd.underlying130 hj (by rw [hjs]; decide) hsh (Nat.zero_lt_succ 1)]
  simp only [Result.andThen]
  rw [Oper.upon_value]
  go_wp2
  rw [run_callFunc_extern Tryd.func93 (by kernel_rfl) (by kernel_rfl) (by kernel_rfl) (e := Extern.AbiNoEscape.same) (by kernel_rfl)]
  rw [Lib.run_noEscape]
  simp only [Result.andThen]
  rw [Oper.upon_value]
  go_wp2
  rw [Lib.run_from_unsafe w ⟨b, 0, none⟩ Tryd.underlying130 Tryd.underlying75 hj hsh lies]
  simp only [Result.andThen]
  rw [Oper.upon_value]
  go_wp2
  go_end0
  exact ⟨rfl, rfl⟩
theorem check (B b : Nat) (bs : List Value) (w : World) (h : Lib.IsBuilder 78 5 B b bs w) :
    Calls Tryd.prog 71 #[.pointer (some ⟨b, 0, none⟩)] w fun e w' => e = .returned (.tuple #[]) ∧ (Lib.BuilderAt 78 5 B b (.pointer (some ⟨b, 0, none⟩)) bs w' ∧ Below B w w' ∧ Lib.OthersKept 5 (some b) w w') := by
  rcases h with h | h
  · exact (fresh b w h.cell0 h.shape h.frozen0).mono fun e w' hh => ⟨hh.1, by rw [hh.2]; exact ⟨h.used _, (Below.refl B w).setCell (p := ⟨b, 0, none⟩) h.1 _, (Lib.OthersKept.refl _ _ w).setCell ⟨b, 0, none⟩ rfl _⟩⟩
  · exact (used b w h.cell0).mono fun e w' hh => ⟨hh.1, by rw [hh.2]; exact ⟨h, Below.refl B _, Lib.OthersKept.refl _ _ w⟩⟩
theorem kind {W : World} {B : Nat} {e : TypeId} {v : Value} {n : Nat} {xs : List Value} (h : W.ownsRow B e 1 v n xs) : ∀ g, v.ownBlock = some g → ∃ c fz, W.heap[g]? = some (.cells c e fz) := by
  intro g hg
  rcases h.2 with ⟨rfl, _⟩ | ⟨g', cap, cur, rfl, _, hgg, _⟩
  · simp [Value.ownBlock] at hg
  · simp [Value.ownBlock] at hg
    subst hg
    exact ⟨cur, _, hgg⟩
theorem blk_lt {W : World} {b : Nat} {o : Obj} (h : W.heap[b]? = some o) : b < W.heap.size := by
  rcases Nat.lt_or_ge b W.heap.size with h' | h'
  · exact h'
  · simp [Array.getElem?_eq_none h'] at h
set_option maxHeartbeats 2000000 in
set_option maxRecDepth 100000 in
theorem writeByte (B b : Nat) (bs : List Value) (c : Int) (w : World) (h : Lib.IsBuilder 78 5 B b bs w) (hlen : bs.length + 1 ≤ 1000000) (hBw : B ≤ w.heap.size) :
    Calls Tryd.prog 38 #[.pointer (some ⟨b, 0, none⟩), .int .u8 c] w fun e w' => e = .returned .nilIface ∧ (Lib.BuilderAt 78 5 B b (.pointer (some ⟨b, 0, none⟩)) (bs ++ [.int .u8 c]) w' ∧ Below B w w' ∧ Lib.OthersKept 5 (some b) w w') := by
  obtain ⟨i0, hi, hz0, hz1, hz2⟩ := info_parts byte
  go_enter Tryd.func38, Tryd.ntmps38
  go_wp2_with fail
  refine (check B b bs _ h).mono ?_
  rintro e w1 ⟨rfl, ⟨hB, v, hbk, hown, hne⟩, hb1, hk1⟩
  have c0 : w1.cell? ⟨b, 0, none⟩ = some (.pointer (some ⟨b, 0, none⟩)) := by rw [Lib.cell_of_heap hbk]; rfl
  have c1 : w1.cell? ⟨b, 1, none⟩ = some v := by rw [Lib.cell_of_heap hbk]; rfl
  have hlt := blk_lt hbk
  go_wp2_with (at_builtin; refine wpList_append_own _ rfl _ _ 76 rfl B 5 i0 (.int .u8 0) 1 1 Tryd.underlying76 hi hz0 hz1 hz2 rfl (by decide) _ _ _ rfl (hown.alloc _) ⟨w1.heap.size, 0, none⟩ 1 1 [.int .u8 c] rfl rfl ?c1 ?c2 ?c3 ?c4 ?c5 ?_)
  case c1 =>
    intro j u hj
    match j, hj with
    | 0, hj => simp at hj; subst hj; simp [Addr.add]
  case c2 => intro u hu; simp at hu; subst hu; rfl
  case c3 => unfold maxLen; omega
  case c4 => omega
  case c5 => have := hb1.size; simp; omega
  intro v' w2 hown' hgrow _
  have hb2 : w2.heap[b]? = some (.cells #[.pointer (some ⟨b, 0, none⟩), v] 78 (0, 0)) := by
    rw [hgrow.block b (by simp; omega) (fun e => hne e.symm), Lib.alloc_old w1 _ b hlt]
    exact hbk
  have d0 : w2.cell? ⟨b, 0, none⟩ = some (.pointer (some ⟨b, 0, none⟩)) := by rw [Lib.cell_of_heap hb2]; rfl
  have d1 : w2.cell? ⟨b, 1, none⟩ = some v := by rw [Lib.cell_of_heap hb2]; rfl
  have f1 : w2.frozen? ⟨b, 1, none⟩ = false := Lib.frozen_of_heap hb2 1
  obtain ⟨p', c', rfl⟩ := lown_slice hown'
  go_wp2
  go_ret
  refine ⟨rfl, ?_, ?_, ((hk1.alloc _).grown hgrow (kind (hown.alloc _))).setCell ⟨b, 1, none⟩ rfl _⟩
  · exact Lib.BuilderAt.put (T := 78) (e := 5) hB hb2 (bs' := bs ++ [.int .u8 c]) (by simpa using hown') (by decide)
  · exact ((hb1.alloc (by have := hb1.size; omega) _).grown hgrow (by have := hb1.size; simp; omega) (fun k hk => (hown.lt k hk).1)).setCell (p := ⟨b, 1, none⟩) hB _
set_option maxHeartbeats 2000000 in
set_option maxRecDepth 100000 in
theorem writeStringK (B b : Nat) (bs : List Value) (s : ByteArray) (w : World) (h : Lib.IsBuilder 78 5 B b bs w) (hlen : bs.length + s.size ≤ 1000000) (hBw : B ≤ w.heap.size) :
    Calls Tryd.prog 36 #[.pointer (some ⟨b, 0, none⟩), .string s] w fun e w' => e = .returned (.tuple #[.int .i64 s.size, .nilIface]) ∧ (Lib.BuilderAt 78 5 B b (.pointer (some ⟨b, 0, none⟩)) (bs ++ Lib.strCells s) w' ∧ Below B w w' ∧ Lib.OthersKept 5 (some b) w w') := by
  obtain ⟨i0, hi, hz0, hz1, hz2⟩ := info_parts byte
  go_enter Tryd.func36, Tryd.ntmps36
  go_wp2_with fail
  refine (check B b bs _ h).mono ?_
  rintro e w1 ⟨rfl, ⟨hB, v, hbk, hown, hne⟩, hb1, hk1⟩
  have c0 : w1.cell? ⟨b, 0, none⟩ = some (.pointer (some ⟨b, 0, none⟩)) := by rw [Lib.cell_of_heap hbk]; rfl
  have c1 : w1.cell? ⟨b, 1, none⟩ = some v := by rw [Lib.cell_of_heap hbk]; rfl
  have hlt := blk_lt hbk
  go_wp2_with (at_builtin; refine Lib.wpList_append_own_string _ rfl _ _ 76 9 rfl B 5 i0 Tryd.underlying76 Tryd.underlying9 hi hz0 hz1 hz2 _ _ _ rfl hown s rfl ?c3 ?c4 ?c5 ?_)
  case c3 => unfold maxLen; omega
  case c4 => omega
  case c5 => have := hb1.size; omega
  intro v' w2 hown' hgrow _
  have hb2 : w2.heap[b]? = some (.cells #[.pointer (some ⟨b, 0, none⟩), v] 78 (0, 0)) := by
    rw [hgrow.block b hlt (fun e => hne e.symm)]
    exact hbk
  have d0 : w2.cell? ⟨b, 0, none⟩ = some (.pointer (some ⟨b, 0, none⟩)) := by rw [Lib.cell_of_heap hb2]; rfl
  have d1 : w2.cell? ⟨b, 1, none⟩ = some v := by rw [Lib.cell_of_heap hb2]; rfl
  have f1 : w2.frozen? ⟨b, 1, none⟩ = false := Lib.frozen_of_heap hb2 1
  obtain ⟨p', c', rfl⟩ := lown_slice hown'
  go_wp2
  go_ret2
  refine ⟨rfl, ?_, ?_, (hk1.grown hgrow (kind hown)).setCell ⟨b, 1, none⟩ rfl _⟩
  · exact Lib.BuilderAt.put (T := 78) (e := 5) hB hb2 (bs' := bs ++ Lib.strCells s) (by simpa [Lib.strCells_length] using hown') (by decide)
  · exact (hb1.grown hgrow (by have := hb1.size; omega) (fun k hk => (hown.lt k hk).1)).setCell (p := ⟨b, 1, none⟩) hB _
theorem writeString (B b : Nat) (bs : List Value) (s : ByteArray) (w : World) (h : Lib.IsBuilder 78 5 B b bs w) (hlen : bs.length + s.size ≤ 1000000) (hBw : B ≤ w.heap.size) :
    Calls Tryd.prog 36 #[.pointer (some ⟨b, 0, none⟩), .string s] w fun e w' => e = .returned (.tuple #[.int .i64 s.size, .nilIface]) ∧ (Lib.BuilderAt 78 5 B b (.pointer (some ⟨b, 0, none⟩)) (bs ++ Lib.strCells s) w' ∧ Below B w w') :=
  (writeStringK B b bs s w h hlen hBw).mono fun e w' hh => ⟨hh.1, hh.2.1, hh.2.2.1⟩
theorem alloc {T e : TypeId} {B b : Nat} {p : Value} {bs : List Value} {w : World} (h : Lib.BuilderAt T e B b p bs w) (o : Obj) : Lib.BuilderAt T e B b p bs (w.alloc o) := by
  have hlt := h.lt
  obtain ⟨hB, v, hb, hown, hne⟩ := h
  exact ⟨hB, v, by rw [Lib.alloc_old w o b hlt]; exact hb, hown.alloc o, hne⟩
theorem is_alloc {T e : TypeId} {B b : Nat} {bs : List Value} {w : World} (h : Lib.IsBuilder T e B b bs w) (o : Obj) : Lib.IsBuilder T e B b bs (w.alloc o) := by
  rcases h with h | h
  · exact .inl (alloc h o)
  · exact .inr (alloc h o)
theorem cells_app (l : List UInt8) (s : ByteArray) : Lib.byteCells l ++ Lib.strCells s = Lib.byteCells (l ++ s.data.toList) := by
  simp [Lib.byteCells, Lib.strCells]
theorem cells_one (l : List UInt8) : Lib.byteCells l ++ [.int .u8 32] = Lib.byteCells (l ++ [32]) := by
  simp [Lib.byteCells]
end Bld
end Go.Proofs.YtkoejkpjkcejcabDoor
namespace Go.Proofs.YtkoejkpjkcejcabDoor
open Go.RowKit
set_option linter.unusedVariables false

set_option maxHeartbeats 400000 in
theorem refPlain_any (s : ByteArray) (w : World) (hs : s.size ≤ maxLen) :
    Calls Tryd.prog 70 #[.string s] w fun e w' => e = .returned (.bool (plainB s.data.toList)) ∧ w' = w := by
  unfold maxLen at hs
  go_enter Tryd.func70, Tryd.ntmps70
  go_wp2
  go_loop [3] (fun i => ∃ k : Nat, k ≤ s.size ∧ i = .int .i64 k ∧ plainB (s.data.toList.take k) = true) (fun i => s.size - (intOf i).toNat)
  case atStart => exact ⟨0, Nat.zero_le _, rfl, rfl⟩
  case round =>
    obtain ⟨k, hk, rfl, hp⟩ := hrel
    have HP : Hid (plainB (s.data.toList.take k) = true) := hp
    clear hp
    by_cases hlt : k < s.size
    · have HN : Hid (∀ _ : (s[k].toNat : Int) < 32 ∨ 126 < (s[k].toNat : Int), plainB s.data.toList = false) := plain_not s k hlt
      have HT : Hid (plainB (s.data.toList.take (k + 1)) = (plainB (s.data.toList.take k) && (decide (32 ≤ (s[k].toNat : Int)) && decide ((s[k].toNat : Int) ≤ 126)))) := plain_take s k hlt
      go_wp2
      · go_ret
        exact ⟨ret_bool (HN.out (by omega)).symm, rfl⟩
      · go_round
        case rel =>
          refine ⟨k + 1, by omega, by go_num, ?_⟩
          rw [HT.out, HP.out]
          simp only [Bool.true_and, Bool.and_eq_true, decide_eq_true_eq]
          assumption
        case measure => simp [intOf]; omega
      · go_ret
        exact ⟨ret_bool (HN.out (by omega)).symm, rfl⟩
    · have HO := plain_of s k (by omega) HP.out
      go_wp2
      go_ret
      exact ⟨rfl, rfl⟩

set_option maxHeartbeats 1000000 in
theorem refVal_any (t n : Int) (s : ByteArray) (w : World) (hs : s.size ≤ maxLen) :
    Calls Tryd.prog 34 #[.agg #[.int .i64 t, .int .i64 n, .string s]] w fun e w' => e = .returned (.int .i64 (chk t n s.data.toList)) ∧ Below w.heap.size w w' := by
  have hs2 := hs
  unfold maxLen at hs2
  generalize hc : chk t n s.data.toList = c
  have HC : Hid (chk t n s.data.toList = c) := hc
  clear hc
  go_enter Tryd.func34, Tryd.ntmps34
  go_wp2_with (first | (go_at_call 70; refine (refPlain_any _ _ hs).mono ?_; rintro e w' ⟨rfl, rfl⟩))
  all_goals
    go_ret
    refine ⟨?_, by repeat (first | exact Below.refl _ _ | (refine Below.alloc ?_ (by simp) _))⟩
    have hd : s.data.toList.length = s.size := by simp
    have hc := HC.out
    clear HC hs
    rw [chk] at hc
    simp only [Lib.toList_data, bne_iff_ne, bne_eq_false_iff_eq, Bool.not_eq_true', Bool.not_eq_false'] at *
  all_goals
    repeat' split at hc
  all_goals subst hc
  all_goals first | rfl | (exfalso; omega) | (exfalso; simp_all; done) | (exfalso; simp_all; omega)

theorem ret_bi {b : Bool} {k : IntKind} {a c : Int} (h : a = c) : Ending.returned (.tuple #[.bool b, .int k a]) = .returned (.tuple #[.bool b, .int k c]) := by rw [h]
theorem ret_ib {b : Bool} {k : IntKind} {a c : Int} (h : a = c) : Ending.returned (.tuple #[.int k a, .bool b]) = .returned (.tuple #[.int k c, .bool b]) := by rw [h]
theorem dig_len (u : Nat) (h : u < 18446744073709551616) : (Lib.decDigits u).length ≤ 20 := by rw [Lib.decDigits_length]; exact Lib.nDigits_le20 u h
theorem ret_str {a c : ByteArray} (h : a = c) : Ending.returned (.string a) = .returned (.string c) := by rw [h]
theorem dig_snoc (u : Nat) (d : Nat) (c : UInt8) (h : ¬ u < 10) (hd : u % 10 = d) (hc : UInt8.ofNat (48 + d) = c) : (⟨(Lib.decDigits (u / 10)).toArray⟩ : ByteArray) ++ ⟨#[c]⟩ = ⟨(Lib.decDigits u).toArray⟩ := by
  rw [Lib.decDigits.eq_1 u, dif_neg h, hd, hc]
  rfl
set_option maxHeartbeats 1000000 in
theorem digits_small (u : Int) (w : World) (h0 : 0 ≤ u) (h : u < 10) :
    Calls Tryd.prog 69 #[.int .u64 u] w fun e w' => e = .returned (.string ⟨(Lib.decDigits u.toNat).toArray⟩) ∧ w' = w := by
  have hd : Lib.decDigits u.toNat = [UInt8.ofNat (48 + u.toNat)] := Lib.decDigits_one (by omega)
  rw [hd]
  have hc : u = 0 ∨ u = 1 ∨ u = 2 ∨ u = 3 ∨ u = 4 ∨ u = 5 ∨ u = 6 ∨ u = 7 ∨ u = 8 ∨ u = 9 := by omega
  clear hd h0 h
  rcases hc with rfl | rfl | rfl | rfl | rfl | rfl | rfl | rfl | rfl | rfl
  all_goals
    go_enter Tryd.func69, Tryd.ntmps69
    go_wp2
    go_ret
    exact ⟨rfl, rfl⟩
set_option maxHeartbeats 1000000 in
theorem digits_step (u : Int) (w : World) (D : List UInt8) (h1 : u ≤ 18446744073709551615) (h : ¬ u < 10) (hl : D.length ≤ 20)
    (IH : Hid (∀ (W : World), Calls Tryd.prog 69 #[.int .u64 (u / 10)] W fun e w' => e = .returned (.string ⟨D.toArray⟩) ∧ w' = W))
    (HD : Hid (∀ (d : Nat) (c : UInt8), u.toNat % 10 = d → UInt8.ofNat (48 + d) = c → (⟨D.toArray⟩ : ByteArray) ++ ⟨#[c]⟩ = ⟨(Lib.decDigits u.toNat).toArray⟩)) :
    Calls Tryd.prog 69 #[.int .u64 u] w fun e w' => e = .returned (.string ⟨(Lib.decDigits u.toNat).toArray⟩) ∧ w' = w := by
  generalize (⟨(Lib.decDigits u.toNat).toArray⟩ : ByteArray) = R at HD ⊢
  have hm : u % 10 = 0 ∨ u % 10 = 1 ∨ u % 10 = 2 ∨ u % 10 = 3 ∨ u % 10 = 4 ∨ u % 10 = 5 ∨ u % 10 = 6 ∨ u % 10 = 7 ∨ u % 10 = 8 ∨ u % 10 = 9 := by omega
  rcases hm with hm | hm | hm | hm | hm | hm | hm | hm | hm | hm
  all_goals
    go_enter Tryd.func69, Tryd.ntmps69
    go_wp2_with fail
    refine (IH.out _).mono ?_
    rintro e w1 ⟨rfl, rfl⟩
    go_wp2
    go_ret
    refine ⟨ret_str (HD.out (u % 10).toNat _ (by omega) ?_), rfl⟩
    rw [hm]; rfl
theorem digits_any (k : Nat) : ∀ (u : Int) (w : World), 0 ≤ u → u ≤ 18446744073709551615 → u.toNat ≤ k →
    Calls Tryd.prog 69 #[.int .u64 u] w fun e w' => e = .returned (.string ⟨(Lib.decDigits u.toNat).toArray⟩) ∧ w' = w := by
  induction k with
  | zero => exact fun u w h0 h1 hk => digits_small u w h0 (by omega)
  | succ k ih =>
    intro u w h0 h1 hk
    by_cases h : u < 10
    · exact digits_small u w h0 h
    · have hdiv : (u / 10).toNat = u.toNat / 10 := by omega
      exact digits_step u w (Lib.decDigits (u / 10).toNat) h1 h (dig_len _ (by omega)) (fun W => ih (u / 10) W (by omega) (by omega) (by omega))
        (fun d c hd hc => by rw [hdiv]; exact dig_snoc u.toNat d c (by omega) hd hc)
theorem Digits_any (n : Int) (w : World) (hn : -9223372036854775808 ≤ n ∧ n ≤ 9223372036854775807) :
    Calls Tryd.prog 33 #[.int .i64 n] w fun e w' => e = .returned (.string ⟨(Lib.itoa n).toArray⟩) ∧ w' = w := by
  by_cases h : n < 0
  · have hi : Lib.itoa n = 45 :: Lib.decDigits n.natAbs := by rw [Lib.itoa, if_pos h]
    have hl : (Lib.decDigits n.natAbs).length ≤ 20 := dig_len _ (by omega)
    have hq : ∀ W, Calls Tryd.prog 69 #[.int .u64 (-(n + 1) + 1)] W fun e w' => e = .returned (.string ⟨(Lib.decDigits n.natAbs).toArray⟩) ∧ w' = W := fun W => by
      have := digits_any n.natAbs (-n) W (by omega) (by omega) (by omega)
      rw [show (-n).toNat = n.natAbs from by omega] at this
      rw [show -(n + 1) + 1 = -n from by omega]
      exact this
    have HQ : Hid (∀ W, Calls Tryd.prog 69 #[.int .u64 (-(n + 1) + 1)] W fun e w' => e = .returned (.string ⟨(Lib.decDigits n.natAbs).toArray⟩) ∧ w' = W) := hq
    have HE : Hid ((⟨#[45]⟩ : ByteArray) ++ ⟨(Lib.decDigits n.natAbs).toArray⟩ = ⟨(Lib.itoa n).toArray⟩) := by rw [hi]; rfl
    generalize Lib.decDigits n.natAbs = D at *
    generalize Lib.itoa n = I at *
    clear hq hi
    go_enter Tryd.func33, Tryd.ntmps33
    go_wp2_with fail
    refine (HQ.out _).mono ?_
    rintro e w1 ⟨rfl, rfl⟩
    go_wp2
    go_ret
    exact ⟨ret_str HE.out, rfl⟩
  · have hi : Lib.itoa n = Lib.decDigits n.toNat := by rw [Lib.itoa, if_neg h]
    rw [hi]
    have HQ : Hid (∀ W, Calls Tryd.prog 69 #[.int .u64 n] W fun e w' => e = .returned (.string ⟨(Lib.decDigits n.toNat).toArray⟩) ∧ w' = W) := fun W => digits_any n.toNat n W (by omega) (by omega) (Nat.le_refl _)
    clear hi
    go_enter Tryd.func33, Tryd.ntmps33
    go_wp2_with fail
    refine (HQ.out _).mono ?_
    rintro e w1 ⟨rfl, rfl⟩
    go_wp2
    go_ret
    exact ⟨rfl, rfl⟩
end Go.Proofs.YtkoejkpjkcejcabDoor
namespace Go.Proofs.YtkoejkpjkcejcabDoor

def digB (c : UInt8) : Bool := decide (48 ≤ (c.toNat : Int)) && decide ((c.toNat : Int) ≤ 57)
def val10 (l : List UInt8) : Nat := l.foldl (fun a c => a * 10 + (c.toNat - 48)) 0
theorem val10_snoc (l : List UInt8) (c : UInt8) : val10 (l ++ [c]) = val10 l * 10 + (c.toNat - 48) := by simp [val10, List.foldl_append]
theorem digB_iff (c : UInt8) : digB c = true ↔ 48 ≤ c.toNat ∧ c.toNat ≤ 57 := by simp [digB]; omega
theorem val10_lt (k : Nat) : ∀ l : List UInt8, l.length = k → l.all digB = true → val10 l < 10 ^ k := by
  induction k with
  | zero => intro l hl _; rw [List.length_eq_zero_iff.1 hl]; decide
  | succ k ih =>
    intro l hl ha
    have hne : l ≠ [] := by intro e; rw [e] at hl; simp at hl
    rw [← List.dropLast_concat_getLast hne] at ha ⊢
    rw [List.all_append, Bool.and_eq_true] at ha
    have h1 := ih l.dropLast (by simp; omega) ha.1
    have h2 := (digB_iff (l.getLast hne)).1 (by simpa using ha.2)
    rw [val10_snoc, Nat.pow_succ]
    omega
theorem dec_val (k : Nat) : ∀ l : List UInt8, l.length = k + 1 → l.all digB = true → (∀ r, l = 48 :: r → r = []) → Lib.decDigits (val10 l) = l := by
  induction k with
  | zero =>
    intro l hl ha _
    obtain ⟨c, rfl⟩ := List.length_eq_one_iff.1 hl
    have h2 := (digB_iff c).1 (by simpa using ha)
    rw [show val10 [c] = c.toNat - 48 from by simp [val10], Lib.decDigits_one (by omega), show 48 + (c.toNat - 48) = c.toNat from by omega]
    simp
  | succ k ih =>
    intro l hl ha hz
    have hne : l ≠ [] := by intro e; rw [e] at hl; simp at hl
    obtain ⟨r, c, rfl⟩ : ∃ r c, l = r ++ [c] := ⟨l.dropLast, l.getLast hne, (List.dropLast_concat_getLast hne).symm⟩
    rw [List.all_append, Bool.and_eq_true] at ha
    have hrl : r.length = k + 1 := by simp at hl; omega
    have hz2 : ∀ q, r ≠ 48 :: q := fun q e => by
      have := hz (q ++ [c]) (by rw [e]; rfl)
      simp at this
    have h1 := ih r hrl ha.1 (fun q e => absurd e (hz2 q))
    have h2 := (digB_iff c).1 (by simpa using ha.2)
    have h3 : 1 ≤ val10 r := by
      rcases Nat.eq_zero_or_pos (val10 r) with h | h
      · rw [h, Lib.decDigits_one (by omega)] at h1
        exact absurd h1.symm (hz2 [])
      · exact h
    rw [val10_snoc, Lib.decDigits.eq_1, dif_neg (by omega), show (val10 r * 10 + (c.toNat - 48)) / 10 = val10 r from by omega, h1, show 48 + (val10 r * 10 + (c.toNat - 48)) % 10 = c.toNat from by omega]
    simp
theorem dec_digits (k : Nat) : ∀ u : Nat, u ≤ k → (Lib.decDigits u).all digB = true ∧ val10 (Lib.decDigits u) = u ∧ (∀ r, Lib.decDigits u = 48 :: r → r = []) := by
  induction k with
  | zero =>
    intro u hu
    obtain rfl : u = 0 := by omega
    rw [Lib.decDigits_one (by omega)]
    exact ⟨by decide, by decide, fun r e => by simpa using e.symm⟩
  | succ k ih =>
    intro u hu
    by_cases h : u < 10
    · rw [Lib.decDigits_one h]
      have e : (UInt8.ofNat (48 + u)).toNat = 48 + u := by simp; omega
      refine ⟨?_, ?_, fun r e => by simpa using (List.cons.inj e).2.symm⟩
      · rw [List.all_cons, List.all_nil, Bool.and_true, digB_iff, e]; omega
      · rw [show val10 [UInt8.ofNat (48 + u)] = (UInt8.ofNat (48 + u)).toNat - 48 from by simp [val10], e]; omega
    · obtain ⟨a1, a2, a3⟩ := ih (u / 10) (by omega)
      have e : (UInt8.ofNat (48 + u % 10)).toNat = 48 + u % 10 := by simp; omega
      rw [Lib.decDigits.eq_1, dif_neg h]
      refine ⟨?_, ?_, ?_⟩
      · rw [List.all_append, a1, List.all_cons, List.all_nil, Bool.and_true, Bool.true_and, digB_iff, e]; omega
      · rw [val10_snoc, a2, e]; omega
      · intro r hr
        exfalso
        cases hd : Lib.decDigits (u / 10) with
        | nil =>
          obtain ⟨c, q, hq, _⟩ := digits_head (u / 10) (u / 10) (Nat.le_refl _)
          rw [hd] at hq; cases hq
        | cons c q =>
          rw [hd, List.cons_append] at hr
          injection hr with hc _
          rw [hd, hc] at a3 a2
          have := a3 q rfl
          rw [this] at a2
          have : val10 [48] = 0 := by decide
          omega
theorem nd_le (k : Nat) : ∀ u : Nat, u < 10 ^ (k + 1) → Lib.nDigits u ≤ k + 1 := by
  induction k with
  | zero => intro u hu; rw [Lib.nDigits_small (by omega)]; omega
  | succ k ih =>
    intro u hu
    by_cases h : u < 10
    · rw [Lib.nDigits_small h]; omega
    · rw [Lib.nDigits_big h]
      have := ih (u / 10) (by rw [Nat.pow_succ] at hu; omega)
      omega
/-- A text of digits as a number; none: it is none. -/
def numL (l : List UInt8) : Option Nat :=
  if l = [] ∨ (l.head? = some 48 ∧ 1 < l.length) ∨ 19 < l.length then none
  else if l.all digB = true then (if 9223372036854775807 < val10 l then none else some (val10 l)) else none
theorem numL_some {l : List UInt8} {n : Nat} (h : numL l = some n) : l = Lib.decDigits n ∧ n ≤ 9223372036854775807 := by
  rw [numL] at h
  split at h
  · cases h
  · rename_i h1
    split at h
    · rename_i h2
      split at h
      · cases h
      · rename_i h3
        cases h
        have hl : l.length ≠ 0 := fun e => h1 (Or.inl (List.length_eq_zero_iff.1 e))
        exact ⟨(dec_val (l.length - 1) l (by omega) h2 (fun r e => Classical.byContradiction fun hr => h1 (Or.inr (Or.inl ⟨by rw [e]; rfl, by rw [e]; cases r with | nil => exact absurd rfl hr | cons _ _ => simp⟩)))).symm, by omega⟩
    · cases h
theorem numL_dec (n : Nat) (h : n ≤ 9223372036854775807) : numL (Lib.decDigits n) = some n := by
  obtain ⟨a1, a2, a3⟩ := dec_digits n n (Nat.le_refl _)
  have hl : (Lib.decDigits n).length ≤ 19 := by
    rw [Lib.decDigits_length]
    exact nd_le 18 n (by omega)
  rw [numL, if_neg, if_pos a1, a2, if_neg (by omega)]
  rintro (e | ⟨e, hr⟩ | e)
  · obtain ⟨c, q, hq, _⟩ := digits_head n n (Nat.le_refl _)
    rw [e] at hq; cases hq
  · cases hd : Lib.decDigits n with
    | nil => rw [hd] at hr; simp at hr
    | cons c q =>
      rw [hd] at e
      obtain rfl : c = 48 := by simpa using e
      rw [a3 q hd] at hd
      rw [hd] at hr; simp at hr
  · omega
end Go.Proofs.YtkoejkpjkcejcabDoor
namespace Go.Proofs.YtkoejkpjkcejcabDoor
open Go.RowKit
set_option linter.unusedVariables false

theorem head_iff (s : ByteArray) (h : 0 < s.size) : s.data.toList.head? = some 48 ↔ (s[0].toNat : Int) = 48 := by
  have hl : 0 < s.data.toList.length := by simpa using h
  have e : s.data.toList.head? = some s[0] := by
    rw [List.head?_eq_getElem?, List.getElem?_eq_getElem hl]; rfl
  rw [e]
  constructor
  · intro h; rw [Option.some.inj h]; rfl
  · intro h
    have : s[0] = 48 := UInt8.toNat_inj.1 (by rw [show (48 : UInt8).toNat = 48 from rfl]; omega)
    rw [this]
theorem all_takeR (s : ByteArray) (k : Nat) (h : k < s.size) : (s.data.toList.take (k + 1)).all digB = ((s.data.toList.take k).all digB && digB s[k]) ∧ val10 (s.data.toList.take (k + 1)) = val10 (s.data.toList.take k) * 10 + (s[k].toNat - 48) := by
  have e : s.data.toList.take (k + 1) = s.data.toList.take k ++ [s[k]] := by
    rw [List.take_succ_eq_append_getElem (by simpa using h)]; rfl
  rw [e]
  exact ⟨by simp [List.all_append], val10_snoc _ _⟩
theorem all_not (s : ByteArray) (k : Nat) (h : k < s.size) (hc : digB s[k] = false) : s.data.toList.all digB = false := by
  rw [List.all_eq_false]
  exact ⟨s[k], by rw [show s[k] = s.data.toList[k]'(by simpa using h) from rfl]; exact List.getElem_mem _, by simp [hc]⟩
theorem dig_false (c : UInt8) (h : (c.toNat : Int) < 48 ∨ 57 < (c.toNat : Int)) : digB c = false := by
  cases hd : digB c with
  | false => rfl
  | true => have := (digB_iff c).1 hd; omega
theorem dig_true (c : UInt8) (h : 48 ≤ (c.toNat : Int) ∧ (c.toNat : Int) ≤ 57) : digB c = true := (digB_iff c).2 (by omega)

def numV (o : Option Nat) : Value := match o with
  | some n => .tuple #[.int .i64 (n : Int), .bool true]
  | none => .tuple #[.int .i64 0, .bool false]
end Go.Proofs.YtkoejkpjkcejcabDoor
