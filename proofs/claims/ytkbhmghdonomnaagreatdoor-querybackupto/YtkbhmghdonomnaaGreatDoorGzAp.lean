/-
  QbA, QbB, TreeWs, KdPf, TreeSg, in one text.
-/
import Derived.Test.YtkbhmghdonomnaaGreatDoorGzAo
import Derived.Lib.FrozenHead
import Derived.Test.YtkbhmghdonomnaaGreatDoorGzAl
import Derived.Test.YtkbhmghdonomnaaGreatDoorGzAm
import Derived.Lib.ItoaLen
import Derived.Test.YtkbhmghdonomnaaGreatDoorGzAd
import Derived.WalkSmall
namespace Go.Proofs.YtkbhmghdonomnaaGreatDoor
open Go.RowKit Go.BigFrame
set_option linter.unusedVariables false
set_option linter.unusedSimpArgs false

/-- The writer in block b: the Builder's two cells, and whether it is full. -/
def WbAt (B b : Nat) (p : Value) (acc : List UInt8) (fl : Bool) (w : World) : Prop := B ≤ b ∧ ∃ v, w.heap[b]? = some (.cells #[p, v, .bool fl] 93 (0, 0)) ∧ w.ownsRow B 5 1 v (Lib.byteCells acc).length (Lib.byteCells acc) ∧ v.ownBlock ≠ some b
def WbIs (B b : Nat) (acc : List UInt8) (fl : Bool) (w : World) : Prop := WbAt B b (.pointer none) acc fl w ∨ WbAt B b (.pointer (some ⟨b, 0, none⟩)) acc fl w
theorem WbAt.lt {B b : Nat} {p : Value} {acc : List UInt8} {fl : Bool} {w : World} (h : WbAt B b p acc fl w) : b < w.heap.size := by
  obtain ⟨_, v, hb, _⟩ := h
  exact (Array.getElem?_eq_some_iff.1 hb).1
theorem WbIs.at {B b : Nat} {acc : List UInt8} {fl : Bool} {w : World} (h : WbIs B b acc fl w) : ∃ p, WbAt B b p acc fl w := by
  rcases h with h | h
  · exact ⟨_, h⟩
  · exact ⟨_, h⟩
theorem WbIs.lt {B b : Nat} {acc : List UInt8} {fl : Bool} {w : World} (h : WbIs B b acc fl w) : b < w.heap.size ∧ B ≤ b := by
  obtain ⟨p, h⟩ := h.at
  exact ⟨h.lt, h.1⟩
theorem WbAt.on {B b : Nat} {p : Value} {acc : List UInt8} {fl : Bool} {w w' : World} (h : WbAt B b p acc fl w) (hb : Below w.heap.size w w') : WbAt B b p acc fl w' := by
  have hlt := h.lt
  obtain ⟨hB, v, hbk, hown, hne⟩ := h
  exact ⟨hB, v, by rw [hb.block b hlt]; exact hbk, lown_below hown hb, hne⟩
theorem WbIs.on {B b : Nat} {acc : List UInt8} {fl : Bool} {w w' : World} (h : WbIs B b acc fl w) (hb : Below w.heap.size w w') : WbIs B b acc fl w' := by
  rcases h with h | h
  · exact .inl (h.on hb)
  · exact .inr (h.on hb)
theorem wb_fresh' (B : Nat) (w : World) (hB : B ≤ w.heap.size) : WbIs B w.heap.size [] false (w.alloc (.cells #[.pointer none, .slice none 0 0, .bool false] 93)) :=
  .inl ⟨hB, .slice none 0 0, heap_alloc_new w _, World.ownsRow_nil _ _ _ _, by simp [Value.ownBlock]⟩
/-- The flag is set. -/
theorem WbIs.flag {B b : Nat} {acc : List UInt8} {fl : Bool} {w : World} (h : WbIs B b acc fl w) (g : Bool) : WbIs B b acc g (w.setCell ⟨b, 2, none⟩ (.bool g)) := by
  have go : ∀ p, WbAt B b p acc fl w → WbAt B b p acc g (w.setCell ⟨b, 2, none⟩ (.bool g)) := fun p h => by
    obtain ⟨hB, v, hbk, hown, hne⟩ := h
    have h1 := heap_setCell_same w b 2 _ _ (.bool g) hbk
    refine ⟨hB, v, by rw [h1]; simp, ?_, hne⟩
    exact ⟨hown.1, by
      rcases hown.2 with hn | ⟨gg, cap, cur, rfl, hb1, hgg, rest⟩
      · exact .inl hn
      · refine .inr ⟨gg, cap, cur, rfl, hb1, ?_, rest⟩
        rw [heap_setCell_other _ _ _ _ (fun e => hne (by simp [Value.ownBlock]; exact e))]
        exact hgg⟩
  rcases h with h | h
  · exact .inl (go _ h)
  · exact .inr (go _ h)
namespace Wbl
theorem size : (Tryz.prog.info? 91).map (·.size) = some 2 := by kernel_rfl
theorem lies : liesAt Tryz.prog Tryz.prog.depth 93 (3 / Tryz.prog.cellsOf 93) 0 91 1 = true := by kernel_rfl
set_option maxHeartbeats 1000000 in
set_option maxRecDepth 100000 in
theorem fresh (b : Nat) (w : World) (h0 : w.cell? ⟨b, 0, none⟩ = some (.pointer none)) (hsh : w.shape? b = some (93, 3)) (hfz : w.frozen? ⟨b, 0, none⟩ = false) :
    Calls Tryz.prog 116 #[.pointer (some ⟨b, 0, none⟩)] w fun e w' => e = .returned (.tuple #[]) ∧ w' = w.setCell ⟨b, 0, none⟩ (.pointer (some ⟨b, 0, none⟩)) := by
  obtain ⟨j, hj, hjs⟩ := Option.map_eq_some_iff.1 size
  go_enter Tryz.func116, Tryz.ntmps116
  go_wp2
  rw [Lib.run_to_unsafe w ⟨b, 0, none⟩ Tryz.underlying88 Tryz.underlying192 hj (by rw [hjs]; decide) hsh (Nat.zero_lt_succ 2)]
  simp only [Result.andThen]
  rw [Oper.upon_value]
  go_wp2
  rw [run_callFunc_extern Tryz.func134 (by kernel_rfl) (by kernel_rfl) (by kernel_rfl) (e := Extern.AbiNoEscape.same) (by kernel_rfl)]
  rw [Lib.run_noEscape]
  simp only [Result.andThen]
  rw [Oper.upon_value]
  go_wp2
  rw [Lib.run_from_unsafe w ⟨b, 0, none⟩ Tryz.underlying192 Tryz.underlying88 hj hsh lies]
  simp only [Result.andThen]
  rw [Oper.upon_value]
  go_wp2
  go_end0
  exact ⟨rfl, rfl⟩
theorem check (B b : Nat) (acc : List UInt8) (fl : Bool) (w : World) (h : WbIs B b acc fl w) :
    Calls Tryz.prog 116 #[.pointer (some ⟨b, 0, none⟩)] w fun e w' => e = .returned (.tuple #[]) ∧ WbAt B b (.pointer (some ⟨b, 0, none⟩)) acc fl w' ∧ Keeps B b w w' := by
  rcases h with h | h
  · obtain ⟨hB, v, hbk, hown, hne⟩ := h
    refine (fresh b w (by rw [Lib.cell_of_heap hbk]; rfl) (by simp [World.shape?, hbk]) (Lib.frozen_of_heap hbk 0)).mono fun e w' hh => ⟨hh.1, ?_⟩
    rw [hh.2]
    refine ⟨⟨hB, v, ?_, ?_, hne⟩, (Below.refl B w).setCell (p := ⟨b, 0, none⟩) hB _, (Lib.OthersKept.refl _ _ w).setCell ⟨b, 0, none⟩ rfl _⟩
    · rw [heap_setCell_same w b 0 _ _ _ hbk]; simp
    · exact ⟨hown.1, by
        rcases hown.2 with hn | ⟨gg, cap, cur, rfl, hb1, hgg, rest⟩
        · exact .inl hn
        · refine .inr ⟨gg, cap, cur, rfl, hb1, ?_, rest⟩
          rw [heap_setCell_other _ _ _ _ (fun e => hne (by simp [Value.ownBlock]; exact e))]
          exact hgg⟩
  · obtain ⟨hB, v, hbk, hown, hne⟩ := id h
    exact (Bld.used b w (by rw [Lib.cell_of_heap hbk]; rfl)).mono fun e w' hh => ⟨hh.1, by rw [hh.2]; exact ⟨h, Below.refl B _, Lib.OthersKept.refl _ _ w⟩⟩
set_option maxHeartbeats 2000000 in
set_option maxRecDepth 100000 in
theorem writeString (B b : Nat) (acc : List UInt8) (fl : Bool) (s : ByteArray) (w : World) (h : WbIs B b acc fl w) (hlen : acc.length + s.size ≤ 900000) (hBw : B ≤ w.heap.size) :
    Calls Tryz.prog 84 #[.pointer (some ⟨b, 0, none⟩), .string s] w fun e w' => e = .returned (.tuple #[.int .i64 s.size, .nilIface]) ∧ WbIs B b (acc ++ s.data.toList) fl w' ∧ Keeps B b w w' := by
  obtain ⟨i0, hi, hz0, hz1, hz2⟩ := info_parts Bld.byte
  go_enter Tryz.func84, Tryz.ntmps84
  go_wp2_with fail
  refine (check B b acc fl _ h).mono ?_
  rintro e w1 ⟨rfl, ⟨hB, v, hbk, hown, hne⟩, hb1, hk1⟩
  have c0 : w1.cell? ⟨b, 0, none⟩ = some (.pointer (some ⟨b, 0, none⟩)) := by rw [Lib.cell_of_heap hbk]; rfl
  have c1 : w1.cell? ⟨b, 1, none⟩ = some v := by rw [Lib.cell_of_heap hbk]; rfl
  have hlt : b < w1.heap.size := (Array.getElem?_eq_some_iff.1 hbk).1
  have hl8 : (Lib.byteCells acc).length = acc.length := Lib.byteCells_length acc
  go_wp2_with (at_builtin; refine Lib.wpList_append_own_string _ rfl _ _ 89 9 rfl B 5 i0 Tryz.underlying89 Tryz.underlying9 hi hz0 hz1 hz2 _ _ _ rfl hown s rfl ?c3 ?c4 ?c5 ?_)
  case c3 => unfold maxLen; omega
  case c4 => omega
  case c5 => have := hb1.size; omega
  intro v' w2 hown' hgrow _
  have hb2 : w2.heap[b]? = some (.cells #[.pointer (some ⟨b, 0, none⟩), v, .bool fl] 93 (0, 0)) := by
    rw [hgrow.block b hlt (fun e => hne e.symm)]
    exact hbk
  have d0 : w2.cell? ⟨b, 0, none⟩ = some (.pointer (some ⟨b, 0, none⟩)) := by rw [Lib.cell_of_heap hb2]; rfl
  have d1 : w2.cell? ⟨b, 1, none⟩ = some v := by rw [Lib.cell_of_heap hb2]; rfl
  have f1 : w2.frozen? ⟨b, 1, none⟩ = false := Lib.frozen_of_heap hb2 1
  obtain ⟨p', c', rfl⟩ := lown_slice hown'
  go_wp2
  go_ret2
  have hne2 : (Value.slice p' (acc.length + s.size) c').ownBlock ≠ some b := fun e => by
    obtain ⟨cc, fz, hcc⟩ := Bld.kind hown' b e
    rw [hb2] at hcc
    simp at hcc
  refine ⟨rfl, .inr ⟨hB, _, ?_, ?_, hne2⟩, ?_, (hk1.grown hgrow (Bld.kind hown)).setCell ⟨b, 1, none⟩ rfl _⟩
  · rw [heap_setCell_same w2 b 1 _ _ _ hb2]; simp
  · have e1 : Lib.byteCells acc ++ Lib.strCells s = Lib.byteCells (acc ++ s.data.toList) := Bld.cells_app acc s
    have e2 : acc.length + s.size = (Lib.byteCells (acc ++ s.data.toList)).length := by rw [← e1, List.length_append, Lib.strCells_length, hl8]
    rw [← e1] at e2 ⊢
    rw [← e2]
    exact ⟨hown'.1, by
      rcases hown'.2 with hn | ⟨gg, cap, cur, hv, hbg, hgg, rest⟩
      · exact .inl hn
      · refine .inr ⟨gg, cap, cur, hv, hbg, ?_, rest⟩
        rw [heap_setCell_other _ _ _ _ (fun e => hne2 (by rw [hv]; simp [Value.ownBlock]; exact e))]
        exact hgg⟩
  · exact (hb1.grown hgrow (by have := hb1.size; omega) (fun k hk => (hown.lt k hk).1)).setCell (p := ⟨b, 1, none⟩) hB _
set_option maxHeartbeats 1000000 in
set_option maxRecDepth 20000 in
theorem len (B b : Nat) (acc : List UInt8) (fl : Bool) (w : World) (h : WbIs B b acc fl w) :
    Calls Tryz.prog 83 #[.pointer (some ⟨b, 0, none⟩)] w fun e w' => e = .returned (.int .i64 (acc.length : Nat)) ∧ w' = w := by
  obtain ⟨p, hB, v, hbk, hown, hne⟩ := h.at
  have hl8 : (Lib.byteCells acc).length = acc.length := Lib.byteCells_length acc
  obtain ⟨vp, vc, rfl⟩ := lown_slice hown
  rw [hl8] at hbk
  have c1 : w.cell? ⟨b, 1, none⟩ = some (.slice vp acc.length vc) := by rw [Lib.cell_of_heap hbk]; rfl
  have hlt : b < w.heap.size := (Array.getElem?_eq_some_iff.1 hbk).1
  clear hown hne hbk h hl8
  go_enter Tryz.func83, Tryz.ntmps83
  go_wp2
  go_ret
  exact ⟨rfl, rfl⟩
theorem cellsByte : Tryz.prog.cellsOf 5 = 1 := by kernel_rfl
set_option maxHeartbeats 2000000 in
set_option maxRecDepth 100000 in
theorem string (B b : Nat) (l : List UInt8) (fl : Bool) (w : World) (h : WbIs B b l fl w) (h0 : l ≠ []) :
    Calls Tryz.prog 49 #[.pointer (some ⟨b, 0, none⟩)] w fun e w' => e = .returned (.string ⟨l.toArray⟩) ∧ Below B w w' := by
  obtain ⟨p, hB, v, hbk, hown, hne⟩ := h.at
  have hl0 : l.length ≠ 0 := by simpa using h0
  rw [Lib.byteCells_length] at hown
  obtain ⟨g, cap, cur, rfl, hbg, hg, hnc, hcm, hcs, htake⟩ : ∃ g cap cur, v = .slice (some ⟨g, 0, none⟩) l.length cap ∧ B ≤ g ∧ w.heap[g]? = some (.cells cur 5 (0, 0)) ∧ l.length ≤ cap ∧ cap ≤ maxLen ∧ cur.size = cap * 1 ∧ cur.toList.take (l.length * 1) = Lib.byteCells l := by
    rcases hown.2 with ⟨_, hz⟩ | ⟨g, cap, cur, hv, r⟩
    · exact absurd hz hl0
    · exact ⟨g, cap, cur, hv, r⟩
  have c1 : w.drew.cell? ⟨b, 1, none⟩ = some (.slice (some ⟨g, 0, none⟩) l.length cap) := by
    have : w.drew.heap[b]? = some (.cells #[p, .slice (some ⟨g, 0, none⟩) l.length cap, .bool fl] 93 (0, 0)) := hbk
    rw [Lib.cell_of_heap this]; rfl
  have c0 : w.cell? ⟨b, 1, none⟩ = some (.slice (some ⟨g, 0, none⟩) l.length cap) := c1
  have hSD : (Builtin.unsafeSliceData_ #[89] 151 #[.slice (some ⟨g, 0, none⟩) l.length cap]).run Tryz.prog w.drew = .ok (.pointer (some ⟨g, 0, none⟩)) w.drew :=
    Lib.run_unsafeSliceData_row _ _ _ _ _ _ (by omega)
  have hUS : (Builtin.unsafeString_ #[151, 3] 9 #[.pointer (some ⟨g, 0, none⟩), .int .i64 l.length]).run Tryz.prog w.drew = .ok (.string ⟨l.toArray⟩) (w.drew.freeze ⟨g, 0, none⟩ l.length) := by
    refine Lib.run_unsafeString_row w.drew 151 3 9 5 Tryz.underlying151 cellsByte g cur.size (by have hg' : w.drew.heap[g]? = some (.cells cur 5 (0, 0)) := hg; simp [World.shape?, hg']) l h0 (by omega) (by unfold maxLen at hcm; omega) ?_
    intro j x hx
    have := hown.cells (g := g) rfl j (.int .u8 x.toNat) (by simp [Lib.byteCells, hx])
    exact this
  have hlt : b < w.heap.size := (Array.getElem?_eq_some_iff.1 hbk).1
  clear hown hne hbk h h0 htake hcs hnc
  go_enter Tryz.func49, Tryz.ntmps49
  go_wp2
  go_region
  all_goals (go_wp2; go_ret; exact ⟨rfl, Lib.below_freeze (Below.drew (Below.refl B w)) (p := ⟨g, 0, none⟩) hbg _⟩)
end Wbl
end Go.Proofs.YtkbhmghdonomnaaGreatDoor
namespace Go.Proofs.YtkbhmghdonomnaaGreatDoor
open Go.RowKit Go.BigFrame
set_option linter.unusedVariables false
set_option linter.unusedSimpArgs false

/-- The writer has so much to write: it has written it, or it is full. -/
def WI (B b : Nat) (I : List UInt8) (w : World) : Prop := ∃ acc fl, WbIs B b acc fl w ∧ acc.length ≤ 400 ∧ ((fl = false ∧ acc = I) ∨ (fl = true ∧ 400 < I.length))
theorem WI.lt {B b : Nat} {I : List UInt8} {w : World} (h : WI B b I w) : b < w.heap.size ∧ B ≤ b := by
  obtain ⟨acc, fl, h, _⟩ := h
  exact h.lt
theorem WI.on {B b : Nat} {I : List UInt8} {w w' : World} (h : WI B b I w) (hb : Below w.heap.size w w') : WI B b I w' := by
  obtain ⟨acc, fl, h1, h2⟩ := h
  exact ⟨acc, fl, h1.on hb, h2⟩
theorem Keeps.refl (B b : Nat) (w : World) : Keeps B b w w := ⟨Below.refl _ _, Lib.OthersKept.refl _ _ _⟩
theorem Keeps.set {B b : Nat} {w w1 : World} (h : Keeps B b w w1) (hB : B ≤ b) (o : Nat) (v : Value) : Keeps B b w (w1.setCell ⟨b, o, none⟩ v) := ⟨h.1.setCell (p := ⟨b, o, none⟩) hB v, h.2.setCell ⟨b, o, none⟩ rfl v⟩
theorem Blk.keeps {B b k : Nat} {w w' : World} {cs : Array Value} {t : TypeId} (h : Blk w k cs t) (hk : Keeps B b w w') (hne : k ≠ b) (ht : t ≠ 5) : Blk w' k cs t :=
  hk.2 k _ h (by simpa using hne) (fun c fz e => ht (by injection e))
theorem WbIs.cells {B b : Nat} {acc : List UInt8} {fl : Bool} {w : World} (h : WbIs B b acc fl w) : w.cell? ⟨b, 2, none⟩ = some (.bool fl) ∧ w.frozen? ⟨b, 2, none⟩ = false ∧ b < w.heap.size := by
  obtain ⟨p, hB, v, hbk, _⟩ := h.at
  exact ⟨by rw [Lib.cell_of_heap hbk]; rfl, Lib.frozen_of_heap hbk 2, (Array.getElem?_eq_some_iff.1 hbk).1⟩
def catT (ts : List ByteArray) : List UInt8 := ts.flatMap fun s => s.data.toList
theorem catT_take {ts : List ByteArray} {k : Nat} (h : k < ts.length) : catT (ts.take (k + 1)) = catT (ts.take k) ++ ts[k].data.toList := by
  rw [List.take_succ_eq_append_getElem h, catT, catT, List.flatMap_append]
  simp
set_option maxHeartbeats 4000000 in
set_option maxRecDepth 20000 in
theorem put_q (ts : List ByteArray) (B b tb n : Nat) (I : List UInt8) (w : World) (hn : ts.length = n) (hn2 : n ≤ 10) (hT : Blk w tb (ts.map Value.string).toArray 9) (hne : tb ≠ b) (hI : WI B b I w) (hB : B ≤ w.heap.size) (hsz : ∀ s ∈ ts, s.size ≤ 1048576) :
    Calls Tryz.prog 40 #[.pointer (some ⟨b, 0, none⟩), .slice (some ⟨tb, 0, none⟩) n n] w fun e w' => e = .returned (.tuple #[]) ∧ Aside (WI B b (I ++ catT ts) w') ∧ Aside (Keeps B b w w') := by
  have HN : Hid (ts.length = n) := hn
  have HT : Aside (Blk w tb (ts.map Value.string).toArray 9) := hT
  have HI : Aside (WI B b I w) := hI
  have HZ := (show Aside _ from hsz)
  clear hn hT hI hsz
  go_enter Tryz.func40, Tryz.ntmps40
  go_wp2
  go_loopg [5, 8] n (fun gg _ s8 wr => ∃ kk : Nat, kk ≤ n ∧ n - kk ≤ gg ∧ s8 = .int .i64 kk ∧ Aside (WI B b (I ++ catT (ts.take kk)) wr) ∧ Aside (Keeps B b w wr))
  case atStart => exact ⟨0, Nat.zero_le _, by omega, rfl, (show Aside _ from (by simpa [catT] using HI.out : WI B b (I ++ catT (ts.take 0)) w)), (show Aside _ from Keeps.refl _ _ _)⟩
  case round =>
    obtain ⟨kk, hkk, hg, rfl, WJ, KJ⟩ := hrel
    clear HI
    by_cases hlt : kk < n
    · have hltz : (kk : Int) < (n : Int) := by omega
      have h0z : (0 : Int) ≤ (kk : Int) := by omega
      have hk2 : kk < ts.length := by rw [HN.out]; exact hlt
      have hcs : wr.cell? ⟨tb, kk, none⟩ = some (.string ts[kk]) := by
        rw [(HT.out.keeps KJ.out hne (by decide)).cell]
        simp [hk2]
      have htl : tb < wr.heap.size := (HT.out.keeps KJ.out hne (by decide)).lt
      have hS := HZ.out ts[kk] (List.getElem_mem hk2)
      have HC := (show Hid _ from catT_take hk2)
      obtain ⟨acc, fl, hwb, ha, hcase⟩ := WJ.out
      obtain ⟨c2, f2, l2⟩ := hwb.cells
      have HWB : Aside (WbIs B b acc fl wr) := hwb
      have hBr : B ≤ wr.heap.size := Nat.le_trans hB KJ.out.1.size
      have hBb : B ≤ b := hwb.lt.2
      generalize ts[kk] = S at hcs hS HC
      generalize hI2 : catT (ts.take (kk + 1)) = C1 at HC
      generalize catT (ts.take kk) = C0 at HC hcase
      have hSl : S.data.toList.length = S.size := by rw [Lib.size_eq]
      have HSl : Hid (S.data.toList.length = S.size) := hSl
      have HI2 : Hid (catT (ts.take (kk + 1)) = C1) := hI2
      clear hI2 WJ hwb hSl
      rcases hcase with ⟨rfl, hacc⟩ | ⟨rfl, hbig⟩
      · have HA : Hid (acc = I ++ C0) := hacc
        have cL := Wbl.len B b acc false wr HWB.out
        have hal : (acc.length : Int) ≤ 400 := by omega
        obtain ⟨L, hL⟩ : ∃ L, acc.length = L := ⟨_, rfl⟩
        have HL : Hid (acc.length = L) := hL
        rw [hL] at cL hal
        clear hacc hL ha
        by_cases hc : 400 - (L : Int) < (S.size : Int)
        · have hcd : decide (400 - (L : Int) < (S.size : Int)) = true := by simpa using hc
          have W2 : WbIs B b acc true (wr.setCell ⟨b, 2, none⟩ (.bool true)) := HWB.out.flag true
          have K2 : Aside (Keeps B b w (wr.setCell ⟨b, 2, none⟩ (.bool true))) := KJ.out.set hBb _ _
          have W3 : Aside (WI B b (I ++ C1) (wr.setCell ⟨b, 2, none⟩ (.bool true))) := ⟨acc, true, W2, by have := HL.out; omega, .inr ⟨rfl, by
            rw [HC.out, ← List.append_assoc, ← HA.out, List.length_append, HSl.out, HL.out]; omega⟩⟩
          clear W2
          go_wp2_with fail
          refine cL.mono ?_
          rintro e w1 ⟨rfl, hw1⟩
          obtain rfl : wr = w1 := hw1.symm
          clear cL hw1
          go_wp2
          go_roundg (n - (kk + 1))
          case measure => omega
          case rel => exact ⟨kk + 1, by omega, by omega, by go_num, by rw [HI2.out]; exact W3, K2⟩
        · have hcd : decide (400 - (L : Int) < (S.size : Int)) = false := by simpa using hc
          have W2 : WbIs B b acc false (wr.setCell ⟨b, 2, none⟩ (.bool false)) := HWB.out.flag false
          have K2 : Keeps B b w (wr.setCell ⟨b, 2, none⟩ (.bool false)) := KJ.out.set hBb _ _
          have cW := Wbl.writeString B b acc false S (wr.setCell ⟨b, 2, none⟩ (.bool false)) W2 (by have := HL.out; omega) (by simpa [World.setCell] using hBr)
          clear W2
          go_wp2_with fail
          refine cL.mono ?_
          rintro e w1 ⟨rfl, hw1⟩
          obtain rfl : wr = w1 := hw1.symm
          clear cL hw1
          go_wp2_with fail
          refine cW.mono ?_
          rintro e w3 ⟨rfl, wb3, k3⟩
          have K3 : Aside (Keeps B b w w3) := K2.trans k3
          have W3 : Aside (WI B b (I ++ C1) w3) := ⟨acc ++ S.data.toList, false, wb3, by rw [List.length_append, HSl.out, HL.out]; omega, .inl ⟨rfl, by rw [HC.out, HA.out, List.append_assoc]⟩⟩
          clear cW wb3 k3 K2
          go_wp2
          go_roundg (n - (kk + 1))
          case measure => omega
          case rel => exact ⟨kk + 1, by omega, by omega, by go_num, by rw [HI2.out]; exact W3, K3⟩
      · have K2 : Aside (Keeps B b w (wr.setCell ⟨b, 2, none⟩ (.bool true))) := KJ.out.set hBb _ _
        have W3 : Aside (WI B b (I ++ C1) (wr.setCell ⟨b, 2, none⟩ (.bool true))) := ⟨acc, true, HWB.out.flag true, ha, .inr ⟨rfl, by
          rw [HC.out, ← List.append_assoc, List.length_append]; omega⟩⟩
        clear ha hbig
        go_wp2
        go_roundg (n - (kk + 1))
        case measure => omega
        case rel => exact ⟨kk + 1, by omega, by omega, by go_num, by rw [HI2.out]; exact W3, K2⟩
    · have hltz : ¬ (kk : Int) < (n : Int) := by omega
      obtain rfl : kk = n := by omega
      have W3 : Aside (WI B b (I ++ catT ts) wr) := by have := WJ.out; rw [List.take_of_length_le (by rw [HN.out]; exact Nat.le_refl _)] at this; exact this
      go_wp2
      go_end0
      exact ⟨rfl, W3, KJ⟩
end Go.Proofs.YtkbhmghdonomnaaGreatDoor
namespace Go.Proofs.YtkbhmghdonomnaaGreatDoor
open Go.RowKit Go.BigFrame
set_option linter.unusedVariables false

def inI (n : Int) : Prop := -9223372036854775808 ≤ n ∧ n ≤ 9223372036854775807
theorem apL_len (x : List UInt8) : (apL x opsL).2 = true → x.length ≤ 3 := by
  have h : ∀ l : List (List UInt8 × Int), (∀ o ∈ l, o.1.length ≤ 3) → (apL x l).2 = true → x.length ≤ 3 := fun l => by
    induction l with
    | nil => intro _ h; simp [apL] at h
    | cons o os ih =>
      intro ho h
      rw [apL] at h
      split at h
      · rename_i e
        rw [← e]; exact ho o (by simp)
      · exact ih (fun o h => ho o (by simp [h])) h
  exact h opsL (by decide)
theorem head_of {l : List Ex} (h : l.length = 1) : ∃ y, l = [y] := by
  match l, h with
  | [y], _ => exact ⟨y, rfl⟩
theorem nameT_len {l : List UInt8} (h : nameT l = true) : l.length ≤ 8 := by
  simp only [nameT, lettersB, Bool.and_eq_true, decide_eq_true_eq] at h
  omega
theorem name_len {op nm vs : ByteArray} {vt vn pos : Int} {l : List Ex} (h : nodeE (.node op nm vt vn vs pos l) = 0) (hc : op.data.toList = [99, 111, 108]) : nm.data.toList.length ≤ 90 := by
  have h1 : nodeE (.node op nm vt vn vs pos l) = nodeB (apL op.data.toList opsL).2 (op.toList == [99, 111, 108]) (nameT nm.data.toList) ((l.length : Int) != (apL op.data.toList opsL).1) (!(nm.toList == [])) (op.toList == [118, 97, 108]) (!((vt == 0) && ((vn == 0) && (vs.toList == [])))) (ckV vt vn vs.data.toList) := rfl
  rw [h1, nodeB] at h
  have hb : (op.toList == [99, 111, 108]) = true := by rw [Lib.toList_data]; simpa using hc
  rw [hb] at h
  cases hn : nameT nm.data.toList
  · rw [hn, if_pos (by simp)] at h
    exact absurd h (by decide)
  · have := nameT_len hn
    omega
theorem inter_len (bt : List UInt8) : ∀ ts : List (List UInt8), (inter bt ts).length ≤ (ts.map List.length).sum + bt.length * ts.length
  | [] => by simp [inter]
  | [t] => by simp [inter]
  | t :: u :: ts => by
    have ih := inter_len bt (u :: ts)
    simp only [inter, List.length_append, List.map_cons, List.sum_cons, List.length_cons, Nat.mul_add, Nat.mul_one] at ih ⊢
    omega
theorem pres_sum (d : Nat) : ∀ l : List Ex, (Ex.pres d l).length = (l.map fun y => (y.pre d).length).sum
  | [] => by rw [Ex.pres]; rfl
  | x :: xs => by rw [Ex.pres, List.length_append, pres_sum d xs]; rfl
theorem sum_le {l : List Ex} {f g : Ex → Nat} (h : ∀ y ∈ l, f y ≤ 100 * g y) : (l.map f).sum ≤ 100 * (l.map g).sum := by
  induction l with
  | nil => simp
  | cons x xs ih =>
    have h1 := h x (by simp)
    have h2 := ih (fun y hy => h y (by simp [hy]))
    simp only [List.map_cons, List.sum_cons]
    omega
theorem prS_len {t n : Int} {l : List UInt8} (hn : inI n) : (prS t n l).length ≤ 90 := by
  rw [prS]
  split
  · rename_i h
    rcases chk_type h with ⟨rfl, _⟩ | ⟨rfl, _, hb⟩ | ⟨rfl, rfl, hl, _⟩
    · rw [shown, if_pos rfl]
      have := Lib.itoa_length_le n hn.1 hn.2
      omega
    · rw [shown, if_neg (by decide), if_pos rfl]
      split <;> decide
    · rw [shown, if_neg (by decide), if_neg (by decide)]
      have := esc_len l
      simp
      omega
  · simp
theorem tx_len : ∀ (x : Ex) (d : Nat), (∀ q ∈ x.pre d, nodeE q.1 = 0) → (∀ q ∈ x.pre d, inI q.1.vn) → (txP x).length ≤ 100 * (x.pre d).length := by
  refine Ex.ind fun op nm vt vn vs pos l ih d hpre hin => ?_
  have hself := hpre (.node op nm vt vn vs pos l, d) (by rw [Ex.pre]; exact List.mem_cons_self ..)
  have hvn : inI vn := hin (.node op nm vt vn vs pos l, d) (by rw [Ex.pre]; exact List.mem_cons_self ..)
  have hsub : ∀ y ∈ l, ∀ q ∈ y.pre (d + 1), q ∈ (Ex.node op nm vt vn vs pos l).pre d := fun y hy q hq => by
    rw [Ex.pre]; exact List.mem_cons_of_mem _ (pres_mem hy q hq)
  have hI : ∀ y ∈ l, (txP y).length ≤ 100 * (y.pre (d + 1)).length := fun y hy => ih y hy (d + 1) (fun q hq => hpre q (hsub y hy q hq)) (fun q hq => hin q (hsub y hy q hq))
  obtain ⟨ha1, ha2, _⟩ := node_ok hself
  have ha2' : (l.length : Int) = (apL op.data.toList opsL).1 := ha2
  have ha1' : (apL op.data.toList opsL).2 = true := ha1
  have hol := apL_len _ ha1'
  have hl3 : l.length ≤ 3 := by have := (apL_le _ ha1').1; omega
  have hsum := sum_le hI
  have hp : ((Ex.node op nm vt vn vs pos l).pre d).length = 1 + (Ex.pres (d + 1) l).length := by rw [Ex.pre, List.length_cons]; omega
  rw [pres_sum] at hp
  rw [hp]
  have hinter : ∀ bt : List UInt8, bt.length ≤ 5 → (inter bt (l.map txP)).length ≤ 15 + 100 * (l.map fun y => (y.pre (d + 1)).length).sum := fun bt hb => by
    have h := inter_len bt (l.map txP)
    rw [List.map_map, List.length_map] at h
    have h2 : (List.map (List.length ∘ txP) l).sum ≤ 100 * (l.map fun y => (y.pre (d + 1)).length).sum := hsum
    have h3 : bt.length * l.length ≤ 15 := Nat.le_trans (Nat.mul_le_mul hb hl3) (by decide)
    omega
  have hhead : ((l.map txP).headD []).length ≤ 100 * (l.map fun y => (y.pre (d + 1)).length).sum := by
    cases l with
    | nil => simp
    | cons y ys =>
      have := hI y (by simp)
      simp only [List.map_cons, List.headD_cons, List.sum_cons]
      omega
  rw [txP, txsP_map]
  split
  · have := prS_len (t := vt) (l := vs.data.toList) hvn; omega
  split
  · rename_i h2
    have hnm : nm.data.toList.length ≤ 90 := name_len hself h2
    omega
  split
  · have := hinter [44, 32] (by decide)
    simp only [argsT, List.length_append, List.length_cons, List.length_nil]
    omega
  split
  · simp only [aheadT, List.length_append, List.length_cons, List.length_nil]
    omega
  split
  · simp only [aheadT, List.length_append, List.length_cons, List.length_nil]
    omega
  · have := hinter (32 :: (op.data.toList ++ [32])) (by rw [List.length_cons, List.length_append, List.length_singleton]; omega)
    simp only [argsT, List.length_append, List.length_cons, List.length_nil]
    omega
set_option maxHeartbeats 8000000 in
set_option maxRecDepth 20000 in
theorem write_any : ∀ (x : Ex) (d : Nat), (∀ q ∈ x.pre d, nodeE q.1 = 0) → (∀ q ∈ x.pre d, inI q.1.vn) → WrAt x := by
  refine Ex.ind fun op nm vt vn vs pos l ih d hpre hin => ?_
  intro B b lo v acc w henv hlo hx hb hlen
  have hself := hpre (.node op nm vt vn vs pos l, d) (by rw [Ex.pre]; exact List.mem_cons_self ..)
  have hvn : inI vn := hin (.node op nm vt vn vs pos l, d) (by rw [Ex.pre]; exact List.mem_cons_self ..)
  have hsub : ∀ y ∈ l, ∀ q ∈ y.pre (d + 1), q ∈ (Ex.node op nm vt vn vs pos l).pre d := fun y hy q hq => by
    rw [Ex.pre]; exact List.mem_cons_of_mem _ (pres_mem hy q hq)
  have hI : ∀ y ∈ l, WrAt y := fun y hy => ih y hy (d + 1) (fun q hq => hpre q (hsub y hy q hq)) (fun q hq => hin q (hsub y hy q hq))
  obtain ⟨ha1, ha2, _⟩ := node_ok hself
  have ha2' : (l.length : Int) = (apL op.data.toList opsL).1 := ha2
  have ha1' : (apL op.data.toList opsL).2 = true := ha1
  have hol : op.size ≤ 3 := by have := apL_len _ ha1'; simpa using this
  rw [ExIn] at hx
  obtain ⟨p, ca, rfl, ⟨hm, hmc⟩, ho, hnm, hvs, hparts⟩ := hx
  have hlt := hb.lt
  have KW : Keeps B b w (w.alloc (.cells #[.string op, .string nm, .int .i64 vt, .int .i64 vn, .string vs, .slice p l.length ca, .int .i64 pos] 26)) := Keeps.alloc ⟨Below.refl _ _, Lib.OthersKept.refl _ _ _⟩ (by omega) _
  have K0 : Keeps B b (w.alloc (.cells #[.string op, .string nm, .int .i64 vt, .int .i64 vn, .string vs, .slice p l.length ca, .int .i64 pos] 26)) (w.alloc (.cells #[.string op, .string nm, .int .i64 vt, .int .i64 vn, .string vs, .slice p l.length ca, .int .i64 pos] 26)) := ⟨Below.refl _ _, Lib.OthersKept.refl _ _ _⟩
  have hb0 : IsB B b acc (w.alloc (.cells #[.string op, .string nm, .int .i64 vt, .int .i64 vn, .string vs, .slice p l.length ca, .int .i64 pos] 26)) := hb.on ((Below.refl _ w).alloc (Nat.le_refl _) _)
  have hz0 : B ≤ (w.alloc (.cells #[.string op, .string nm, .int .i64 vt, .int .i64 vn, .string vs, .slice p l.length ca, .int .i64 pos] 26)).heap.size := by simp; omega
  rw [txP] at hlen ⊢
  clear hpre hin hself hsub ih ha1 ha2
  by_cases h1 : op.data.toList = [118, 97, 108]
  · have q1 : (op.toList == [118, 97, 108]) = true := by rw [Lib.toList_data]; simpa using h1
    rw [if_pos h1] at hlen ⊢
    have cP := fun W hW => print_any vt vn vs W hvs hvn hW
    have hPl : (⟨(prS vt vn vs.data.toList).toArray⟩ : ByteArray).size = (prS vt vn vs.data.toList).length := by simp [ByteArray.size]
    have HP : Hid ((⟨(prS vt vn vs.data.toList).toArray⟩ : ByteArray).data.toList = prS vt vn vs.data.toList) := rfl
    generalize prS vt vn vs.data.toList = X at *
    generalize chk vt vn vs.data.toList = Y at *
    generalize (⟨X.toArray⟩ : ByteArray) = Z at *
    clear hparts hI h1
    go_enter Tryz.func117, Tryz.ntmps117
    go_wp2_with fail
    refine (cP _ (henv _ KW.1)).mono ?_
    rintro e w1 ⟨rfl, b1⟩
    have hb1 := hb0.on b1
    have K1 := KW.trans (keeps_below b1 hz0)
    clear b1 cP
    go_wp2_with fail
    refine (ws B b acc Z _ hb1 (by omega) (by have := hb1.lt; omega)).mono ?_
    rintro e w2 ⟨rfl, hb2, k2w⟩
    rw [HP.out] at hb2
    have K2 := K1.trans k2w
    clear k2w
    go_wp2
    go_end0
    exact ⟨rfl, hb2, K2⟩
  have q1 : (op.toList == [118, 97, 108]) = false := by rw [Lib.toList_data]; simpa using h1
  rw [if_neg h1] at hlen ⊢
  by_cases h2 : op.data.toList = [99, 111, 108]
  · have q2 : (op.toList == [99, 111, 108]) = true := by rw [Lib.toList_data]; simpa using h2
    rw [if_pos h2] at hlen ⊢
    have hnl : nm.data.toList.length = nm.size := by simp
    clear hparts hI h1 h2
    go_enter Tryz.func117, Tryz.ntmps117
    go_wp2_with fail
    refine (ws B b acc nm _ hb0 (by omega) hz0).mono ?_
    rintro e w2 ⟨rfl, hb2, k2w⟩
    have K2 := KW.trans k2w
    clear k2w
    go_wp2
    go_end0
    exact ⟨rfl, hb2, K2⟩
  have q2 : (op.toList == [99, 111, 108]) = false := by rw [Lib.toList_data]; simpa using h2
  rw [if_neg h2] at hlen ⊢
  rw [txsP_map] at hlen ⊢
  by_cases h34 : op.data.toList = [108, 101, 110] ∨ op.data.toList = [105, 102]
  · rw [if_pos h34] at hlen ⊢
    have hol2 : op.data.toList.length = op.size := by simp
    rw [List.length_append] at hlen
    have h34b : ((op.toList == [108, 101, 110]) = true) ∨ ((op.toList == [108, 101, 110]) = false ∧ (op.toList == [105, 102]) = true) := by
      rw [Lib.toList_data]
      rcases h34 with h | h
      · left; simpa using h
      · right; rw [h]; decide
    have HA : Hid (acc ++ op.data.toList ++ argsT [44, 32] (l.map txP) = acc ++ (op.data.toList ++ argsT [44, 32] (l.map txP))) := List.append_assoc ..
    have cA := fun W (hK : Keeps B b w W) (hbW : IsB B b (acc ++ op.data.toList) W) => writeArgs_any ⟨#[44, 32]⟩ (by decide) l hI hm B b lo p ca (acc ++ op.data.toList) W (fun W' hW' => henv W' (hK.1.trans hW')) hlo (by
      rcases hparts with h | ⟨ba, oa, e, hbl, hlb, hE⟩
      · exact .inl h
      · exact .inr ⟨ba, oa, e, by have := hK.1.size; omega, hlb, exsIn_mk W lo ba l oa fun j hj => by
          obtain ⟨v0, v1, v2, v3, v4, v5, v6, e0, e1, e2, e3, e4, e5, e6, hy⟩ := exsIn_at w lo ba l oa hE j hj
          have key : ∀ o : Nat, W.cell? ⟨ba, o, none⟩ = w.cell? ⟨ba, o, none⟩ := fun o => hK.1.cell (p := ⟨ba, o, none⟩) (hlo ba hlb)
          exact ⟨v0, v1, v2, v3, v4, v5, v6, by rw [key]; exact e0, by rw [key]; exact e1, by rw [key]; exact e2, by rw [key]; exact e3, by rw [key]; exact e4, by rw [key]; exact e5, by rw [key]; exact e6, hy.keeps hK hlo⟩⟩) hbW (by simp only [List.length_append]; exact (by omega))
    clear hI h34 h1 h2 hparts
    rcases h34b with q3 | ⟨q3, q4⟩
    all_goals
      go_enter Tryz.func117, Tryz.ntmps117
      go_wp2_with fail
      refine (ws B b acc op _ hb0 (by omega) hz0).mono ?_
      rintro e w2 ⟨rfl, hb2, k2w⟩
      have K2 := K0.trans k2w
      have KK2 := KW.trans k2w
      obtain ⟨hB, hl2⟩ := K2.box hlt.1
      have g5 : w2.cell? ⟨w.heap.size, 5, none⟩ = some (.slice p l.length ca) := hB 5
      have cA2 := cA w2 KK2 hb2
      clear k2w hB K2
      go_wp2_with fail
      refine cA2.mono ?_
      rintro e w3 ⟨rfl, hb3, k3w⟩
      have K3 := KK2.trans k3w
      rw [HA.out] at hb3
      clear k3w cA2 g5
      go_wp2
      go_end0
      exact ⟨rfl, hb3, K3⟩
  rw [if_neg h34] at hlen ⊢
  have h3 : op.data.toList ≠ [108, 101, 110] := fun h => h34 (.inl h)
  have h4 : op.data.toList ≠ [105, 102] := fun h => h34 (.inr h)
  have q3 : (op.toList == [108, 101, 110]) = false := by rw [Lib.toList_data]; simpa using h3
  have q4 : (op.toList == [105, 102]) = false := by rw [Lib.toList_data]; simpa using h4
  by_cases h56 : op.data.toList = [110, 111, 116] ∨ op.data.toList = [110, 101, 103]
  · have hl1 : l.length = 1 := by
      have h1z : (l.length : Int) = 1 := by
        rcases h56 with h | h <;> rw [h] at ha2' <;> simpa [apL, opsL] using ha2'
      omega
    obtain ⟨y, rfl⟩ := head_of hl1
    rcases hparts with h | ⟨ba, oa, rfl, hbl, hlb, hE⟩
    · exact absurd h (by simp)
    obtain ⟨v0, v1, v2, v3, v4, v5, v6, e0, e1, e2, e3, e4, e5, e6, hy⟩ := exsIn_at w lo ba [y] oa hE 0 (by simp)
    obtain ⟨o1, n1, t1, k1, s1, p1, m1, c1, a1, huu⟩ := hy.agg
    injection huu with huu
    simp only [Array.mk.injEq, List.cons.injEq, and_true] at huu
    obtain ⟨rfl, rfl, rfl, rfl, rfl, rfl, rfl⟩ := huu
    simp only [Nat.zero_mul, Nat.add_zero, List.getElem_cons_zero] at e0 e1 e2 e3 e4 e5 e6 hy
    have hlen1 : [y].length = 1 := rfl
    simp only [List.map_cons, List.map_nil, List.headD_cons] at hlen ⊢
    have hyw := hI y (by simp)
    have h5or : (op.data.toList = [110, 111, 116]) ∨ (op.data.toList ≠ [110, 111, 116] ∧ op.data.toList = [110, 101, 103]) := by
      rcases h56 with h | h
      · exact .inl h
      · exact .inr ⟨by rw [h]; decide, h⟩
    clear hI hE h56
    rcases h5or with h5 | ⟨h5, h6⟩
    · have q5 : (op.toList == [110, 111, 116]) = true := by rw [Lib.toList_data]; simpa using h5
      rw [if_pos h5] at hlen ⊢
      have cY := writeAhead_any ⟨#[110, 111, 116]⟩ (by decide) y hyw B b lo _ acc _ (fun W hW => henv W (KW.1.trans hW)) hlo (hy.keeps KW hlo) hb0 hlen
      clear h1 h2 h3 h4 h34 h5 ha1' ha2'
      go_enter Tryz.func117, Tryz.ntmps117
      go_wp2_with fail
      refine cY.mono ?_
      rintro e w3 ⟨rfl, hb3, k3w⟩
      have K3 := KW.trans k3w
      clear k3w cY
      go_wp2
      go_end0
      exact ⟨rfl, hb3, K3⟩
    · have q5 : (op.toList == [110, 111, 116]) = false := by rw [Lib.toList_data]; simpa using h5
      have q6 : (op.toList == [110, 101, 103]) = true := by rw [Lib.toList_data]; simpa using h6
      rw [if_neg h5, if_pos h6] at hlen ⊢
      have cY := writeAhead_any ⟨#[45]⟩ (by decide) y hyw B b lo _ acc _ (fun W hW => henv W (KW.1.trans hW)) hlo (hy.keeps KW hlo) hb0 hlen
      clear h1 h2 h3 h4 h34 h5 h6 ha1' ha2'
      go_enter Tryz.func117, Tryz.ntmps117
      go_wp2_with fail
      refine cY.mono ?_
      rintro e w3 ⟨rfl, hb3, k3w⟩
      have K3 := KW.trans k3w
      clear k3w cY
      go_wp2
      go_end0
      exact ⟨rfl, hb3, K3⟩
  have h5 : op.data.toList ≠ [110, 111, 116] := fun h => h56 (.inl h)
  have h6 : op.data.toList ≠ [110, 101, 103] := fun h => h56 (.inr h)
  have q5 : (op.toList == [110, 111, 116]) = false := by rw [Lib.toList_data]; simpa using h5
  have q6 : (op.toList == [110, 101, 103]) = false := by rw [Lib.toList_data]; simpa using h6
  rw [if_neg h5, if_neg h6] at hlen ⊢
  have hSd : ((⟨#[32]⟩ : ByteArray) ++ op ++ ⟨#[32]⟩).data.toList = 32 :: (op.data.toList ++ [32]) := by simp
  have hSs : ((⟨#[32]⟩ : ByteArray) ++ op ++ ⟨#[32]⟩).size ≤ 30 := by
    rw [ByteArray.size_append, ByteArray.size_append]
    have : (⟨#[32]⟩ : ByteArray).size = 1 := rfl
    omega
  have cA := writeArgs_any ((⟨#[32]⟩ : ByteArray) ++ op ++ ⟨#[32]⟩) hSs l hI hm B b lo p ca acc (w.alloc (.cells #[.string op, .string nm, .int .i64 vt, .int .i64 vn, .string vs, .slice p l.length ca, .int .i64 pos] 26)) (fun W' hW' => henv W' (KW.1.trans hW')) hlo (by
      rcases hparts with h | ⟨ba, oa, e, hbl, hlb, hE⟩
      · exact .inl h
      · exact .inr ⟨ba, oa, e, by simp; omega, hlb, exsIn_mk _ lo ba l oa fun j hj => by
          obtain ⟨v0, v1, v2, v3, v4, v5, v6, e0, e1, e2, e3, e4, e5, e6, hy⟩ := exsIn_at w lo ba l oa hE j hj
          have key : ∀ o : Nat, (w.alloc (.cells #[.string op, .string nm, .int .i64 vt, .int .i64 vn, .string vs, .slice p l.length ca, .int .i64 pos] 26)).cell? ⟨ba, o, none⟩ = w.cell? ⟨ba, o, none⟩ := fun o => KW.1.cell (p := ⟨ba, o, none⟩) (hlo ba hlb)
          exact ⟨v0, v1, v2, v3, v4, v5, v6, by rw [key]; exact e0, by rw [key]; exact e1, by rw [key]; exact e2, by rw [key]; exact e3, by rw [key]; exact e4, by rw [key]; exact e5, by rw [key]; exact e6, hy.keeps KW hlo⟩⟩) hb0 (by rw [hSd]; exact hlen)
  rw [hSd] at cA
  clear h1 h2 h3 h4 h34 h5 h6 h56 ha1' ha2' hparts hI hSd
  go_enter Tryz.func117, Tryz.ntmps117
  go_wp2_with fail
  refine cA.mono ?_
  rintro e w3 ⟨rfl, hb3, k3w⟩
  have K3 := KW.trans k3w
  clear k3w cA
  go_wp2
  go_end0
  exact ⟨rfl, hb3, K3⟩
end Go.Proofs.YtkbhmghdonomnaaGreatDoor
namespace Go.Proofs.YtkbhmghdonomnaaGreatDoor
open Go.RowKit Go.BigFrame
set_option linter.unusedVariables false

end Go.Proofs.YtkbhmghdonomnaaGreatDoor
namespace Go.Proofs.YtkbhmghdonomnaaGreatDoor
open Go.RowKit
set_option linter.unusedVariables false

end Go.Proofs.YtkbhmghdonomnaaGreatDoor
