/-
  What Join of package lex says of any words, the Builder under it walked through; and what sluicesame's Tokens says of two lists that are the same.
-/
import Derived.Test.YtacfgibmdobnpabDoorLex5
import Derived.Lib.Builder
import Derived.Lib.AppendStr
import Derived.Lib.OthersKept
namespace Go.Proofs.YtacfgibmdobnpabDoor
open Go.RowKit
set_option linter.unusedVariables false

namespace Bld
theorem size : (Tryd.prog.info? 60).map (·.size) = some 2 := by kernel_rfl
theorem lies : liesAt Tryd.prog Tryd.prog.depth 60 (2 / Tryd.prog.cellsOf 60) 0 60 1 = true := by kernel_rfl
theorem byte : (Tryd.prog.info? 5).map (fun i => (i.zero, i.size, i.bytes)) = some (some (.int .u8 0), 1, 1) := by kernel_rfl
set_option maxHeartbeats 1000000 in
set_option maxRecDepth 100000 in
theorem used (b : Nat) (w : World) (h0 : w.cell? ⟨b, 0, none⟩ = some (.pointer (some ⟨b, 0, none⟩))) :
    Calls Tryd.prog 38 #[.pointer (some ⟨b, 0, none⟩)] w fun e w' => e = .returned (.tuple #[]) ∧ w' = w := by
  obtain ⟨j, hj, _⟩ := Option.map_eq_some_iff.1 size
  go_enter Tryd.func38, Tryd.ntmps38
  go_wp2
  rw [Lib.run_neq_ptr_same w _ Tryd.underlying57 hj]
  go_wp2
  go_end0
  exact ⟨rfl, rfl⟩
set_option maxHeartbeats 1000000 in
set_option maxRecDepth 100000 in
theorem fresh (b : Nat) (w : World) (h0 : w.cell? ⟨b, 0, none⟩ = some (.pointer none)) (hsh : w.shape? b = some (60, 2)) (hfz : w.frozen? ⟨b, 0, none⟩ = false) :
    Calls Tryd.prog 38 #[.pointer (some ⟨b, 0, none⟩)] w fun e w' => e = .returned (.tuple #[]) ∧ w' = w.setCell ⟨b, 0, none⟩ (.pointer (some ⟨b, 0, none⟩)) := by
  obtain ⟨j, hj, hjs⟩ := Option.map_eq_some_iff.1 size
  go_enter Tryd.func38, Tryd.ntmps38
  go_wp2
  rw [Lib.run_to_unsafe w ⟨b, 0, none⟩ Tryd.underlying57 Tryd.underlying83 hj (by rw [hjs]; decide) hsh (Nat.zero_lt_succ 1)]
  simp only [Result.andThen]
  rw [Oper.upon_value]
  go_wp2
  rw [run_callFunc_extern Tryd.func48 (by kernel_rfl) (by kernel_rfl) (by kernel_rfl) (e := Extern.AbiNoEscape.same) (by kernel_rfl)]
  rw [Lib.run_noEscape]
  simp only [Result.andThen]
  rw [Oper.upon_value]
  go_wp2
  rw [Lib.run_from_unsafe w ⟨b, 0, none⟩ Tryd.underlying83 Tryd.underlying57 hj hsh lies]
  simp only [Result.andThen]
  rw [Oper.upon_value]
  go_wp2
  go_end0
  exact ⟨rfl, rfl⟩
theorem check (B b : Nat) (bs : List Value) (w : World) (h : Lib.IsBuilder 60 5 B b bs w) :
    Calls Tryd.prog 38 #[.pointer (some ⟨b, 0, none⟩)] w fun e w' => e = .returned (.tuple #[]) ∧ (Lib.BuilderAt 60 5 B b (.pointer (some ⟨b, 0, none⟩)) bs w' ∧ Below B w w' ∧ Lib.OthersKept 5 (some b) w w') := by
  rcases h with h | h
  · exact (fresh b w h.cell0 h.shape h.frozen0).mono fun e w' hh => ⟨hh.1, by rw [hh.2]; exact ⟨h.used _, (Below.refl B w).setCell (p := ⟨b, 0, none⟩) h.1 _, (Lib.OthersKept.refl _ _ w).setCell ⟨b, 0, none⟩ rfl _⟩⟩
  · exact (used b w h.cell0).mono fun e w' hh => ⟨hh.1, by rw [hh.2]; exact ⟨h, Below.refl B _, Lib.OthersKept.refl _ _ w⟩⟩
theorem kind {W : World} {B : Nat} {e : TypeId} {v : Value} {n : Nat} {xs : List Value} (h : W.ownsRow B e 1 v n xs) : ∀ g, v.ownBlock = some g → ∃ c fz, W.heap[g]? = some (.cells c e fz) := by
  intro g hg
  rcases h.2 with ⟨rfl, _⟩ | ⟨g', cap, cur, rfl, _, hgg, _⟩
  · simp [Value.ownBlock] at hg
  · simp [Value.ownBlock] at hg
    subst hg
    exact ⟨cur, _, hgg⟩
theorem blk_lt {W : World} {b : Nat} {o : Obj} (h : W.heap[b]? = some o) : b < W.heap.size := by
  rcases Nat.lt_or_ge b W.heap.size with h' | h'
  · exact h'
  · simp [Array.getElem?_eq_none h'] at h
set_option maxHeartbeats 2000000 in
set_option maxRecDepth 100000 in
theorem writeByte (B b : Nat) (bs : List Value) (c : Int) (w : World) (h : Lib.IsBuilder 60 5 B b bs w) (hlen : bs.length + 1 ≤ 1000000) (hBw : B ≤ w.heap.size) :
    Calls Tryd.prog 23 #[.pointer (some ⟨b, 0, none⟩), .int .u8 c] w fun e w' => e = .returned .nilIface ∧ (Lib.BuilderAt 60 5 B b (.pointer (some ⟨b, 0, none⟩)) (bs ++ [.int .u8 c]) w' ∧ Below B w w' ∧ Lib.OthersKept 5 (some b) w w') := by
  obtain ⟨i0, hi, hz0, hz1, hz2⟩ := info_parts byte
  go_enter Tryd.func23, Tryd.ntmps23
  go_wp2_with fail
  refine (check B b bs _ h).mono ?_
  rintro e w1 ⟨rfl, ⟨hB, v, hbk, hown, hne⟩, hb1, hk1⟩
  have c0 : w1.cell? ⟨b, 0, none⟩ = some (.pointer (some ⟨b, 0, none⟩)) := by rw [Lib.cell_of_heap hbk]; rfl
  have c1 : w1.cell? ⟨b, 1, none⟩ = some v := by rw [Lib.cell_of_heap hbk]; rfl
  have hlt := blk_lt hbk
  go_wp2_with (at_builtin; refine wpList_append_own _ rfl _ _ 58 rfl B 5 i0 (.int .u8 0) 1 1 Tryd.underlying58 hi hz0 hz1 hz2 rfl (by decide) _ _ _ rfl (hown.alloc _) ⟨w1.heap.size, 0, none⟩ 1 1 [.int .u8 c] rfl rfl ?c1 ?c2 ?c3 ?c4 ?c5 ?_)
  case c1 =>
    intro j u hj
    match j, hj with
    | 0, hj => simp at hj; subst hj; simp [Addr.add]
  case c2 => intro u hu; simp at hu; subst hu; rfl
  case c3 => unfold maxLen; omega
  case c4 => omega
  case c5 => have := hb1.size; simp; omega
  intro v' w2 hown' hgrow _
  have hb2 : w2.heap[b]? = some (.cells #[.pointer (some ⟨b, 0, none⟩), v] 60 (0, 0)) := by
    rw [hgrow.block b (by simp; omega) (fun e => hne e.symm), Lib.alloc_old w1 _ b hlt]
    exact hbk
  have d0 : w2.cell? ⟨b, 0, none⟩ = some (.pointer (some ⟨b, 0, none⟩)) := by rw [Lib.cell_of_heap hb2]; rfl
  have d1 : w2.cell? ⟨b, 1, none⟩ = some v := by rw [Lib.cell_of_heap hb2]; rfl
  have f1 : w2.frozen? ⟨b, 1, none⟩ = false := Lib.frozen_of_heap hb2 1
  obtain ⟨p', c', rfl⟩ := lown_slice hown'
  go_wp2
  go_ret
  refine ⟨rfl, ?_, ?_, ((hk1.alloc _).grown hgrow (kind (hown.alloc _))).setCell ⟨b, 1, none⟩ rfl _⟩
  · exact Lib.BuilderAt.put (T := 60) (e := 5) hB hb2 (bs' := bs ++ [.int .u8 c]) (by simpa using hown') (by decide)
  · exact ((hb1.alloc (by have := hb1.size; omega) _).grown hgrow (by have := hb1.size; simp; omega) (fun k hk => (hown.lt k hk).1)).setCell (p := ⟨b, 1, none⟩) hB _
set_option maxHeartbeats 2000000 in
set_option maxRecDepth 100000 in
theorem writeString (B b : Nat) (bs : List Value) (s : ByteArray) (w : World) (h : Lib.IsBuilder 60 5 B b bs w) (hlen : bs.length + s.size ≤ 1000000) (hBw : B ≤ w.heap.size) :
    Calls Tryd.prog 24 #[.pointer (some ⟨b, 0, none⟩), .string s] w fun e w' => e = .returned (.tuple #[.int .i64 s.size, .nilIface]) ∧ (Lib.BuilderAt 60 5 B b (.pointer (some ⟨b, 0, none⟩)) (bs ++ Lib.strCells s) w' ∧ Below B w w') := by
  obtain ⟨i0, hi, hz0, hz1, hz2⟩ := info_parts byte
  go_enter Tryd.func24, Tryd.ntmps24
  go_wp2_with fail
  refine (check B b bs _ h).mono ?_
  rintro e w1 ⟨rfl, ⟨hB, v, hbk, hown, hne⟩, hb1, _⟩
  have c0 : w1.cell? ⟨b, 0, none⟩ = some (.pointer (some ⟨b, 0, none⟩)) := by rw [Lib.cell_of_heap hbk]; rfl
  have c1 : w1.cell? ⟨b, 1, none⟩ = some v := by rw [Lib.cell_of_heap hbk]; rfl
  have hlt := blk_lt hbk
  go_wp2_with (at_builtin; refine Lib.wpList_append_own_string _ rfl _ _ 58 9 rfl B 5 i0 Tryd.underlying58 Tryd.underlying9 hi hz0 hz1 hz2 _ _ _ rfl hown s rfl ?c3 ?c4 ?c5 ?_)
  case c3 => unfold maxLen; omega
  case c4 => omega
  case c5 => have := hb1.size; omega
  intro v' w2 hown' hgrow _
  have hb2 : w2.heap[b]? = some (.cells #[.pointer (some ⟨b, 0, none⟩), v] 60 (0, 0)) := by
    rw [hgrow.block b hlt (fun e => hne e.symm)]
    exact hbk
  have d0 : w2.cell? ⟨b, 0, none⟩ = some (.pointer (some ⟨b, 0, none⟩)) := by rw [Lib.cell_of_heap hb2]; rfl
  have d1 : w2.cell? ⟨b, 1, none⟩ = some v := by rw [Lib.cell_of_heap hb2]; rfl
  have f1 : w2.frozen? ⟨b, 1, none⟩ = false := Lib.frozen_of_heap hb2 1
  obtain ⟨p', c', rfl⟩ := lown_slice hown'
  go_wp2
  go_ret2
  refine ⟨rfl, ?_, ?_⟩
  · exact Lib.BuilderAt.put (T := 60) (e := 5) hB hb2 (bs' := bs ++ Lib.strCells s) (by simpa [Lib.strCells_length] using hown') (by decide)
  · exact (hb1.grown hgrow (by have := hb1.size; omega) (fun k hk => (hown.lt k hk).1)).setCell (p := ⟨b, 1, none⟩) hB _
theorem alloc {T e : TypeId} {B b : Nat} {p : Value} {bs : List Value} {w : World} (h : Lib.BuilderAt T e B b p bs w) (o : Obj) : Lib.BuilderAt T e B b p bs (w.alloc o) := by
  have hlt := h.lt
  obtain ⟨hB, v, hb, hown, hne⟩ := h
  exact ⟨hB, v, by rw [Lib.alloc_old w o b hlt]; exact hb, hown.alloc o, hne⟩
theorem is_alloc {T e : TypeId} {B b : Nat} {bs : List Value} {w : World} (h : Lib.IsBuilder T e B b bs w) (o : Obj) : Lib.IsBuilder T e B b bs (w.alloc o) := by
  rcases h with h | h
  · exact .inl (alloc h o)
  · exact .inr (alloc h o)
theorem cells_app (l : List UInt8) (s : ByteArray) : Lib.byteCells l ++ Lib.strCells s = Lib.byteCells (l ++ s.data.toList) := by
  simp [Lib.byteCells, Lib.strCells]
theorem cells_one (l : List UInt8) : Lib.byteCells l ++ [.int .u8 32] = Lib.byteCells (l ++ [32]) := by
  simp [Lib.byteCells]
end Bld
theorem join_none (p : Option Addr) (c : Nat) (w : World) :
    Calls Tryd.prog 12 #[.slice p 0 c] w fun e w' => e = .returned (.string ⟨#[]⟩) ∧ Below w.heap.size w w' := by
  have hb := Lib.fresh_isBuilder 60 5 w
  go_enter Tryd.func12, Tryd.ntmps12
  go_wp2
  refine wp_loop_rounds 1 ?_
  rw [rounds_succ]
  go_wp2_with fail
  refine (Tryd.Builder_String_any w.heap.size w.heap.size [] _ hb (by simp)).mono ?_
  rintro e w1 ⟨rfl, b1⟩
  go_wp2
  go_ret
  exact ⟨rfl, ((Below.refl _ _).alloc (Nat.le_refl _) _).trans b1⟩
theorem join_step {ts : List Tok} {k : Nat} (h : k < ts.length) : joinL (ts.take (k + 1)) = (if k = 0 then [] else joinL (ts.take k) ++ [32]) ++ ts[k].2.1.data.toList := by
  rw [List.take_succ_eq_append_getElem h, joinL_snoc]
  by_cases h0 : k = 0
  · subst h0; simp
  · rw [if_neg h0, if_neg]
    intro e
    have : (ts.take k).length = 0 := by rw [e]; rfl
    rw [List.length_take] at this; omega
set_option maxHeartbeats 4000000 in
set_option maxRecDepth 20000 in
theorem join_some (b off c : Nat) (ts : List Tok) (w : World) (hc : ToksIn w b off ts) (hn : ts.length ≤ 400) (hz : ∀ t ∈ ts, t.2.1.size ≤ 400) :
    Calls Tryd.prog 12 #[.slice (some ⟨b, off, none⟩) ts.length c] w fun e w' => e = .returned (.string ⟨(joinL ts).toArray⟩) ∧ Below w.heap.size w w' := by
  obtain ⟨J, hJ⟩ : ∃ J : ByteArray, ⟨(joinL ts).toArray⟩ = J := ⟨_, rfl⟩
  rw [hJ]
  have HJ : Hid (⟨(joinL ts).toArray⟩ = J) := hJ
  clear hJ
  have HZ : Hid (∀ t ∈ ts, t.2.1.size ≤ 400) := hz
  clear hz
  go_enter Tryd.func12, Tryd.ntmps12
  go_wp2
  go_loopg [4, 5, 8] ts.length (fun gg _ _ s8 wr => ∃ (kk : Nat) (acc : List UInt8), kk ≤ ts.length ∧ ts.length - kk ≤ gg ∧ s8 = .int .i64 kk ∧ Aside (Below w.heap.size w wr) ∧ Lib.IsBuilder 60 5 w.heap.size w.heap.size (Lib.byteCells acc) wr ∧ Hid (acc = joinL (ts.take kk)) ∧ acc.length ≤ kk * 401)
  case atStart => exact ⟨0, [], Nat.zero_le _, by omega, rfl, (show Aside _ from (Below.refl _ w).alloc (Nat.le_refl _) _), Lib.fresh_isBuilder _ _ w, rfl, Nat.zero_le _⟩
  case round =>
    obtain ⟨kk, acc, hkk, hg, rfl, BW, hB, HA, hlen⟩ := hrel
    by_cases hlt : kk < ts.length
    · have hltz : (kk : Int) < (ts.length : Int) := by omega
      have k0 : (0 : Int) ≤ (kk : Int) := by omega
      obtain ⟨c0, c1, c2⟩ := (hc.on BW.out).2 kk hlt
      have HS : Hid (joinL (ts.take (kk + 1)) = (if kk = 0 then [] else joinL (ts.take kk) ++ [32]) ++ ts[kk].2.1.data.toList) := join_step hlt
      have hys := HZ.out _ (List.getElem_mem hlt)
      generalize ts[kk] = y at c0 c1 c2 HS hys
      obtain ⟨yk, yx, ya⟩ := y
      simp only at c0 c1 c2 HS hys
      have hB2 := Bld.is_alloc hB (.cells #[.int .i64 yk, .string yx, .int .i64 (ya : Int)] 41)
      have B2 := BW.out.alloc BW.out.size (.cells #[.int .i64 yk, .string yx, .int .i64 (ya : Int)] 41)
      have t1 : (wr.alloc (.cells #[.int .i64 yk, .string yx, .int .i64 (ya : Int)] 41)).cell? ⟨wr.heap.size, 1, none⟩ = some (.string yx) := by rw [World.cell?_alloc_at _ _ _ _ rfl]; rfl
      have hbl : w.heap.size < wr.heap.size := by
        rcases hB with h | h
        · exact h.lt
        · exact h.lt
      have hcl : (Lib.byteCells acc).length = acc.length := Lib.byteCells_length _
      clear hB
      by_cases h0 : kk = 0
      · have HS2 : Hid (joinL (ts.take (kk + 1)) = acc ++ yx.data.toList) := by
          show _ = _
          rw [HS.out, if_pos h0, HA.out, h0]; rfl
        have hz0 : ¬ (0 : Int) < (kk : Int) := by omega
        clear HS HA h0
        go_wp2_with fail
        refine (Bld.writeString w.heap.size w.heap.size _ yx _ hB2 (by omega) (by simp; omega)).mono ?_
        rintro e w3 ⟨rfl, hB3, b3⟩
        have B3 := B2.trans b3
        rw [Bld.cells_app] at hB3
        clear b3 B2 hB2
        go_wp2
        have hyl : yx.data.toList.length = yx.size := by simp
        go_roundg (ts.length - (kk + 1))
        case measure => omega
        case rel => exact ⟨kk + 1, acc ++ yx.data.toList, by omega, by omega, by go_num, B3, .inr hB3, HS2.out.symm, by rw [List.length_append]; omega⟩
      · have HS2 : Hid (joinL (ts.take (kk + 1)) = acc ++ [32] ++ yx.data.toList) := by
          show _ = _
          rw [HS.out, if_neg h0, HA.out]
        have hz0 : (0 : Int) < (kk : Int) := by omega
        clear HS HA
        go_wp2_with fail
        refine (Bld.writeByte w.heap.size w.heap.size _ 32 _ hB2 (by omega) (by simp; omega)).mono ?_
        rintro e w2 ⟨rfl, hB3, b3, hk3⟩
        have B3 := B2.trans b3
        rw [Bld.cells_one] at hB3
        have t2 : w2.cell? ⟨wr.heap.size, 1, none⟩ = some (.string yx) := by
          have := hk3 wr.heap.size _ (heap_alloc_new wr _) (by simp; omega) (fun c fz e => by simp at e)
          rw [Lib.cell_of_heap this]; rfl
        have hl2 : wr.heap.size < w2.heap.size := cell_lt4 t2
        clear b3 B2 hB2
        go_wp2_with fail
        refine (Bld.writeString w.heap.size w.heap.size _ yx _ (.inr hB3) (by rw [Lib.byteCells_length, List.length_append]; simp; omega) B3.size).mono ?_
        rintro e w3 ⟨rfl, hB4, b4⟩
        have B4 := B3.trans b4
        rw [Bld.cells_app] at hB4
        clear b4 B3 hB3
        go_wp2
        have hyl : yx.data.toList.length = yx.size := by simp
        go_roundg (ts.length - (kk + 1))
        case measure => omega
        case rel => exact ⟨kk + 1, acc ++ [32] ++ yx.data.toList, by omega, by omega, by go_num, B4, .inr hB4, HS2.out.symm, by rw [List.length_append, List.length_append, List.length_singleton]; omega⟩
    · have hltz : ¬ (kk : Int) < (ts.length : Int) := by omega
      have HF : Hid ((⟨acc.toArray⟩ : ByteArray) = J) := by
        show _ = _
        rw [← HJ.out, HA.out, List.take_of_length_le (by omega)]
      clear HJ HA
      go_wp2_with fail
      refine (Tryd.Builder_String_any w.heap.size w.heap.size acc _ hB BW.out.size).mono ?_
      rintro e w1 ⟨rfl, b1⟩
      rw [HF.out]
      go_wp2
      go_ret
      exact ⟨rfl, BW.out.trans b1⟩
end Go.Proofs.YtacfgibmdobnpabDoor
