/-
  Bld, TreeWr, ArO, QyB0, QbA, QbB, in one text.
-/
import Derived.Test.YtkbhmghdonomnaaGreatDoorGzAd
import Derived.Test.YtkbhmghdonomnaaGreatDoorGzAa
import Derived.Lib.Builder
import Derived.Lib.AppendStr
import Derived.Lib.OthersKept
import Derived.Test.YtkbhmghdonomnaaGreatDoorGzAl
import Derived.Deep.LoopGhost
import Derived.Test.YtkbhmghdonomnaaGreatDoorGzAg
import Derived.OneCell
import Derived.Lib.FrozenHead
namespace Go.Proofs.YtkbhmghdonomnaaGreatDoor
open Go.RowKit
set_option linter.unusedVariables false
namespace Bld
theorem size : (Tryz.prog.info? 91).map (·.size) = some 2 := by kernel_rfl
theorem lies : liesAt Tryz.prog Tryz.prog.depth 91 (2 / Tryz.prog.cellsOf 91) 0 91 1 = true := by kernel_rfl
theorem byte : (Tryz.prog.info? 5).map (fun i => (i.zero, i.size, i.bytes)) = some (some (.int .u8 0), 1, 1) := by kernel_rfl
set_option maxHeartbeats 1000000 in
set_option maxRecDepth 100000 in
theorem used (b : Nat) (w : World) (h0 : w.cell? ⟨b, 0, none⟩ = some (.pointer (some ⟨b, 0, none⟩))) :
  Calls Tryz.prog 116 #[.pointer (some ⟨b, 0, none⟩)] w fun e w' => e = .returned (.tuple #[]) ∧ w' = w := by
 obtain ⟨j, hj, _⟩ := Option.map_eq_some_iff.1 size
 go_enter Tryz.func116, Tryz.ntmps116
 go_wp2
 rw [Lib.run_neq_ptr_same w _ Tryz.underlying88 hj]
 go_wp2
 go_end0
 exact ⟨rfl, rfl⟩
set_option maxHeartbeats 1000000 in
set_option maxRecDepth 100000 in
theorem fresh (b : Nat) (w : World) (h0 : w.cell? ⟨b, 0, none⟩ = some (.pointer none)) (hsh : w.shape? b = some (91, 2)) (hfz : w.frozen? ⟨b, 0, none⟩ = false) :
  Calls Tryz.prog 116 #[.pointer (some ⟨b, 0, none⟩)] w fun e w' => e = .returned (.tuple #[]) ∧ w' = w.setCell ⟨b, 0, none⟩ (.pointer (some ⟨b, 0, none⟩)) := by
 obtain ⟨j, hj, hjs⟩ := Option.map_eq_some_iff.1 size
 go_enter Tryz.func116, Tryz.ntmps116
 go_wp2
 rw [Lib.run_to_unsafe w ⟨b, 0, none⟩ Tryz.underlying88 Tryz.underlying192 hj (by rw [hjs]; decide) hsh (Nat.zero_lt_succ 1)]
 simp only [Result.andThen]
 rw [Oper.upon_value]
 go_wp2
 rw [run_callFunc_extern Tryz.func134 (by kernel_rfl) (by kernel_rfl) (by kernel_rfl) (e := Extern.AbiNoEscape.same) (by kernel_rfl)]
 rw [Lib.run_noEscape]
 simp only [Result.andThen]
 rw [Oper.upon_value]
 go_wp2
 rw [Lib.run_from_unsafe w ⟨b, 0, none⟩ Tryz.underlying192 Tryz.underlying88 hj hsh lies]
 simp only [Result.andThen]
 rw [Oper.upon_value]
 go_wp2
 go_end0
 exact ⟨rfl, rfl⟩
theorem check (B b : Nat) (bs : List Value) (w : World) (h : Lib.IsBuilder 91 5 B b bs w) :
  Calls Tryz.prog 116 #[.pointer (some ⟨b, 0, none⟩)] w fun e w' => e = .returned (.tuple #[]) ∧ (Lib.BuilderAt 91 5 B b (.pointer (some ⟨b, 0, none⟩)) bs w' ∧ Below B w w' ∧ Lib.OthersKept 5 (some b) w w') := by
 rcases h with h | h
 ·exact (fresh b w h.cell0 h.shape h.frozen0).mono fun e w' hh => ⟨hh.1, by rw [hh.2]; exact ⟨h.used _, (Below.refl B w).setCell (p := ⟨b, 0, none⟩) h.1 _, (Lib.OthersKept.refl _ _ w).setCell ⟨b, 0, none⟩ rfl _⟩⟩
 ·exact (used b w h.cell0).mono fun e w' hh => ⟨hh.1, by rw [hh.2]; exact ⟨h, Below.refl B _, Lib.OthersKept.refl _ _ w⟩⟩
theorem kind {W : World} {B : Nat} {e : TypeId} {v : Value} {n : Nat} {xs : List Value} (h : W.ownsRow B e 1 v n xs) : ∀ g, v.ownBlock = some g → ∃ c fz, W.heap[g]? = some (.cells c e fz) := by
 intro g hg
 rcases h.2 with ⟨rfl, _⟩ | ⟨g', cap, cur, rfl, _, hgg, _⟩
 ·simp [Value.ownBlock] at hg
 ·simp [Value.ownBlock] at hg
  subst hg
  exact ⟨cur, _, hgg⟩
theorem blk_lt {W : World} {b : Nat} {o : Obj} (h : W.heap[b]? = some o) : b < W.heap.size := by
 rcases Nat.lt_or_ge b W.heap.size with h' | h'
 ·exact h'
 ·simp [Array.getElem?_eq_none h'] at h
set_option maxHeartbeats 2000000 in
set_option maxRecDepth 100000 in
theorem writeByte (B b : Nat) (bs : List Value) (c : Int) (w : World) (h : Lib.IsBuilder 91 5 B b bs w) (hlen : bs.length + 1 ≤ 1000000) (hBw : B ≤ w.heap.size) :
  Calls Tryz.prog 156 #[.pointer (some ⟨b, 0, none⟩), .int .u8 c] w fun e w' => e = .returned .nilIface ∧ (Lib.BuilderAt 91 5 B b (.pointer (some ⟨b, 0, none⟩)) (bs ++ [.int .u8 c]) w' ∧ Below B w w' ∧ Lib.OthersKept 5 (some b) w w') := by
 obtain ⟨i0, hi, hz0, hz1, hz2⟩ := info_parts byte
 go_enter Tryz.func156, Tryz.ntmps156
 go_wp2_with fail
 refine (check B b bs _ h).mono ?_
 rintro e w1 ⟨rfl, ⟨hB, v, hbk, hown, hne⟩, hb1, hk1⟩
 have c0 : w1.cell? ⟨b, 0, none⟩ = some (.pointer (some ⟨b, 0, none⟩)) := by rw [Lib.cell_of_heap hbk]; rfl
 have c1 : w1.cell? ⟨b, 1, none⟩ = some v := by rw [Lib.cell_of_heap hbk]; rfl
 have hlt := blk_lt hbk
 go_wp2_with (at_builtin; refine wpList_append_own _ rfl _ _ 89 rfl B 5 i0 (.int .u8 0) 1 1 Tryz.underlying89 hi hz0 hz1 hz2 rfl (by decide) _ _ _ rfl (hown.alloc _) ⟨w1.heap.size, 0, none⟩ 1 1 [.int .u8 c] rfl rfl ?c1 ?c2 ?c3 ?c4 ?c5 ?_)
 case c1 =>
  intro j u hj
  match j, hj with
  | 0, hj => simp at hj; subst hj; simp [Addr.add]
 case c2 => intro u hu; simp at hu; subst hu; rfl
 case c3 => unfold maxLen; omega
 case c4 => omega
 case c5 => have := hb1.size; simp; omega
 intro v' w2 hown' hgrow _
 have hb2 : w2.heap[b]? = some (.cells #[.pointer (some ⟨b, 0, none⟩), v] 91 (0, 0)) := by
  rw [hgrow.block b (by simp; omega) (fun e => hne e.symm), Lib.alloc_old w1 _ b hlt]
  exact hbk
 have d0 : w2.cell? ⟨b, 0, none⟩ = some (.pointer (some ⟨b, 0, none⟩)) := by rw [Lib.cell_of_heap hb2]; rfl
 have d1 : w2.cell? ⟨b, 1, none⟩ = some v := by rw [Lib.cell_of_heap hb2]; rfl
 have f1 : w2.frozen? ⟨b, 1, none⟩ = false := Lib.frozen_of_heap hb2 1
 obtain ⟨p', c', rfl⟩ := lown_slice hown'
 go_wp2
 go_ret
 refine ⟨rfl, ?_, ?_, ((hk1.alloc _).grown hgrow (kind (hown.alloc _))).setCell ⟨b, 1, none⟩ rfl _⟩
 ·exact Lib.BuilderAt.put (T := 91) (e := 5) hB hb2 (bs' := bs ++ [.int .u8 c]) (by simpa using hown') (by decide)
 ·exact ((hb1.alloc (by have := hb1.size; omega) _).grown hgrow (by have := hb1.size; simp; omega) (fun k hk => (hown.lt k hk).1)).setCell (p := ⟨b, 1, none⟩) hB _
set_option maxHeartbeats 2000000 in
set_option maxRecDepth 100000 in
theorem writeStringK (B b : Nat) (bs : List Value) (s : ByteArray) (w : World) (h : Lib.IsBuilder 91 5 B b bs w) (hlen : bs.length + s.size ≤ 1000000) (hBw : B ≤ w.heap.size) :
  Calls Tryz.prog 84 #[.pointer (some ⟨b, 0, none⟩), .string s] w fun e w' => e = .returned (.tuple #[.int .i64 s.size, .nilIface]) ∧ (Lib.BuilderAt 91 5 B b (.pointer (some ⟨b, 0, none⟩)) (bs ++ Lib.strCells s) w' ∧ Below B w w' ∧ Lib.OthersKept 5 (some b) w w') := by
 obtain ⟨i0, hi, hz0, hz1, hz2⟩ := info_parts byte
 go_enter Tryz.func84, Tryz.ntmps84
 go_wp2_with fail
 refine (check B b bs _ h).mono ?_
 rintro e w1 ⟨rfl, ⟨hB, v, hbk, hown, hne⟩, hb1, hk1⟩
 have c0 : w1.cell? ⟨b, 0, none⟩ = some (.pointer (some ⟨b, 0, none⟩)) := by rw [Lib.cell_of_heap hbk]; rfl
 have c1 : w1.cell? ⟨b, 1, none⟩ = some v := by rw [Lib.cell_of_heap hbk]; rfl
 have hlt := blk_lt hbk
 go_wp2_with (at_builtin; refine Lib.wpList_append_own_string _ rfl _ _ 89 9 rfl B 5 i0 Tryz.underlying89 Tryz.underlying9 hi hz0 hz1 hz2 _ _ _ rfl hown s rfl ?c3 ?c4 ?c5 ?_)
 case c3 => unfold maxLen; omega
 case c4 => omega
 case c5 => have := hb1.size; omega
 intro v' w2 hown' hgrow _
 have hb2 : w2.heap[b]? = some (.cells #[.pointer (some ⟨b, 0, none⟩), v] 91 (0, 0)) := by
  rw [hgrow.block b hlt (fun e => hne e.symm)]
  exact hbk
 have d0 : w2.cell? ⟨b, 0, none⟩ = some (.pointer (some ⟨b, 0, none⟩)) := by rw [Lib.cell_of_heap hb2]; rfl
 have d1 : w2.cell? ⟨b, 1, none⟩ = some v := by rw [Lib.cell_of_heap hb2]; rfl
 have f1 : w2.frozen? ⟨b, 1, none⟩ = false := Lib.frozen_of_heap hb2 1
 obtain ⟨p', c', rfl⟩ := lown_slice hown'
 go_wp2
 go_ret2
 refine ⟨rfl, ?_, ?_, (hk1.grown hgrow (kind hown)).setCell ⟨b, 1, none⟩ rfl _⟩
 ·exact Lib.BuilderAt.put (T := 91) (e := 5) hB hb2 (bs' := bs ++ Lib.strCells s) (by simpa [Lib.strCells_length] using hown') (by decide)
 ·exact (hb1.grown hgrow (by have := hb1.size; omega) (fun k hk => (hown.lt k hk).1)).setCell (p := ⟨b, 1, none⟩) hB _
theorem writeString (B b : Nat) (bs : List Value) (s : ByteArray) (w : World) (h : Lib.IsBuilder 91 5 B b bs w) (hlen : bs.length + s.size ≤ 1000000) (hBw : B ≤ w.heap.size) :
  Calls Tryz.prog 84 #[.pointer (some ⟨b, 0, none⟩), .string s] w fun e w' => e = .returned (.tuple #[.int .i64 s.size, .nilIface]) ∧ (Lib.BuilderAt 91 5 B b (.pointer (some ⟨b, 0, none⟩)) (bs ++ Lib.strCells s) w' ∧ Below B w w') :=
 (writeStringK B b bs s w h hlen hBw).mono fun e w' hh => ⟨hh.1, hh.2.1, hh.2.2.1⟩
theorem alloc {T e : TypeId} {B b : Nat} {p : Value} {bs : List Value} {w : World} (h : Lib.BuilderAt T e B b p bs w) (o : Obj) : Lib.BuilderAt T e B b p bs (w.alloc o) := by
 have hlt := h.lt
 obtain ⟨hB, v, hb, hown, hne⟩ := h
 exact ⟨hB, v, by rw [Lib.alloc_old w o b hlt]; exact hb, hown.alloc o, hne⟩
theorem cells_app (l : List UInt8) (s : ByteArray) : Lib.byteCells l ++ Lib.strCells s = Lib.byteCells (l ++ s.data.toList) := by
 simp [Lib.byteCells, Lib.strCells]
end Bld
end Go.Proofs.YtkbhmghdonomnaaGreatDoor
namespace Go.Proofs.YtkbhmghdonomnaaGreatDoor
open Go.RowKit Go.BigFrame
set_option linter.unusedVariables false
abbrev IsB (B b : Nat) (acc : List UInt8) (w : World) : Prop := Lib.IsBuilder 91 5 B b (Lib.byteCells acc) w
def Keeps (B b : Nat) (w w' : World) : Prop := Below B w w' ∧ Lib.OthersKept 5 (some b) w w'
theorem Keeps.trans {B b : Nat} {w w1 w2 : World} (h : Keeps B b w w1) (k : Keeps B b w1 w2) : Keeps B b w w2 := ⟨h.1.trans k.1, h.2.trans k.2⟩
theorem Keeps.alloc {B b : Nat} {w w1 : World} (h : Keeps B b w w1) (hB : B ≤ w1.heap.size) (o : Obj) : Keeps B b w (w1.alloc o) := ⟨h.1.alloc hB o, h.2.alloc o⟩
theorem IsB.lt {B b : Nat} {acc : List UInt8} {w : World} (h : IsB B b acc w) : b < w.heap.size ∧ B ≤ b := by
 rcases h with h | h
 ·exact ⟨h.lt, h.1⟩
 ·exact ⟨h.lt, h.1⟩
theorem IsB.on {B b : Nat} {acc : List UInt8} {w w' : World} (h : IsB B b acc w) (hb : Below w.heap.size w w') : IsB B b acc w' := by
 have go : ∀ p, Lib.BuilderAt 91 5 B b p (Lib.byteCells acc) w → Lib.BuilderAt 91 5 B b p (Lib.byteCells acc) w' := fun p h => by
  have hlt := h.lt
  obtain ⟨hB, v, hbk, hown, hne⟩ := h
  exact ⟨hB, v, by rw [hb.block b hlt]; exact hbk, lown_below hown hb, hne⟩
 rcases h with h | h
 ·exact .inl (go _ h)
 ·exact .inr (go _ h)
theorem keeps_below {B b : Nat} {w w' : World} (h : Below w.heap.size w w') (hB : B ≤ w.heap.size) : Keeps B b w w' :=
 ⟨h.mono hB, fun k o hk _ _ => by rw [h.block k (Array.getElem?_eq_some_iff.1 hk).1]; exact hk⟩
theorem Keeps.box {B b : Nat} {w w' : World} {E : Array Value} (h : Keeps B b (w.alloc (.cells E 26)) w') (hb : b < w.heap.size) : (∀ i, w'.cell? ⟨w.heap.size, i, none⟩ = E[i]?) ∧ w.heap.size < w'.heap.size := by
 have h1 := h.2 w.heap.size _ (heap_alloc_new w _) (by simp; omega) (fun c fz e => by simp at e)
 exact ⟨fun i => Lib.cell_of_heap h1 i, (Array.getElem?_eq_some_iff.1 h1).1⟩
theorem ExIn.keeps {B b : Nat} {w w' : World} {lo : Nat → Prop} {v : Value} {x : Ex} (h : ExIn w lo v x) (hk : Keeps B b w w') (hlo : ∀ k, lo k → k < B) : ExIn w' lo v x :=
 ExIn.keep hk.1.size (fun k o hl _ => hk.1.cell (p := ⟨k, o, none⟩) (hlo k hl)) x v h
theorem ws (B b : Nat) (acc : List UInt8) (s : ByteArray) (w : World) (h : IsB B b acc w) (hlen : acc.length + s.size ≤ 900000) (hBw : B ≤ w.heap.size) :
  Calls Tryz.prog 84 #[.pointer (some ⟨b, 0, none⟩), .string s] w fun e w' => e = .returned (.tuple #[.int .i64 s.size, .nilIface]) ∧ IsB B b (acc ++ s.data.toList) w' ∧ Keeps B b w w' :=
 (Bld.writeStringK B b _ s w h (by rw [Lib.byteCells_length]; omega) hBw).mono fun e w' hh => ⟨hh.1, .inr (by rw [← Bld.cells_app]; exact hh.2.1), hh.2.2⟩
theorem cells_byte (l : List UInt8) (c : UInt8) : Lib.byteCells l ++ [.int .u8 (c.toNat : Int)] = Lib.byteCells (l ++ [c]) := by
 simp [Lib.byteCells]
theorem wb (B b : Nat) (acc : List UInt8) (c : UInt8) (k : Int) (hk : (c.toNat : Int) = k) (w : World) (h : IsB B b acc w) (hlen : acc.length ≤ 900000) (hBw : B ≤ w.heap.size) :
  Calls Tryz.prog 156 #[.pointer (some ⟨b, 0, none⟩), .int .u8 k] w fun e w' => e = .returned .nilIface ∧ IsB B b (acc ++ [c]) w' ∧ Keeps B b w w' :=
 (Bld.writeByte B b _ k w h (by rw [Lib.byteCells_length]; omega) hBw).mono fun e w' hh => ⟨hh.1, .inr (by rw [← cells_byte, hk]; exact hh.2.1), hh.2.2⟩
def WrAt (x : Ex) : Prop := ∀ (B b : Nat) (lo : Nat → Prop) (v : Value) (acc : List UInt8) (w : World), (∀ W, Below B w W → Env W) → (∀ k, lo k → k < B) → ExIn w lo v x → IsB B b acc w → acc.length + (txP x).length ≤ 900000 →
  Calls Tryz.prog 117 #[.pointer (some ⟨b, 0, none⟩), v] w fun e w' => e = .returned (.tuple #[]) ∧ IsB B b (acc ++ txP x) w' ∧ Keeps B b w w'
set_option maxHeartbeats 4000000 in
set_option maxRecDepth 20000 in
theorem writeAhead_any (S : ByteArray) (hS : S.size ≤ 10) (y : Ex) (ih : WrAt y) (B b : Nat) (lo : Nat → Prop) (v : Value) (acc : List UInt8) (w : World) (henv : ∀ W, Below B w W → Env W) (hlo : ∀ k, lo k → k < B) (hy : ExIn w lo v y) (hb : IsB B b acc w) (hlen : acc.length + (aheadT S.data.toList (txP y)).length ≤ 900000) :
  Calls Tryz.prog 137 #[.pointer (some ⟨b, 0, none⟩), .string S, v] w fun e w' => e = .returned (.tuple #[]) ∧ IsB B b (acc ++ aheadT S.data.toList (txP y)) w' ∧ Keeps B b w w' := by
 obtain ⟨o1, n1, t1, k1, s1, p1, m1, c1, a1, rfl⟩ := hy.agg
 have hlt := hb.lt
 have hL : (aheadT S.data.toList (txP y)).length = S.size + (txP y).length + 3 := by
  simp [aheadT]; omega
 have hR : Hid (acc ++ [40] ++ S.data.toList ++ [32] ++ txP y ++ [41] = acc ++ aheadT S.data.toList (txP y)) := by
  show _ = _
  simp [aheadT]
 have hSl : S.data.toList.length = S.size := by simp
 generalize acc ++ aheadT S.data.toList (txP y) = R at hR
 have K0 : Keeps B b (w.alloc (.cells #[.string o1, .string n1, .int .i64 t1, .int .i64 k1, .string s1, .slice p1 m1 c1, .int .i64 a1] 26)) (w.alloc (.cells #[.string o1, .string n1, .int .i64 t1, .int .i64 k1, .string s1, .slice p1 m1 c1, .int .i64 a1] 26)) := ⟨Below.refl _ _, Lib.OthersKept.refl _ _ _⟩
 have KW : Keeps B b w (w.alloc (.cells #[.string o1, .string n1, .int .i64 t1, .int .i64 k1, .string s1, .slice p1 m1 c1, .int .i64 a1] 26)) := Keeps.alloc ⟨Below.refl _ _, Lib.OthersKept.refl _ _ _⟩ (by omega) _
 have hb0 : IsB B b acc (w.alloc (.cells #[.string o1, .string n1, .int .i64 t1, .int .i64 k1, .string s1, .slice p1 m1 c1, .int .i64 a1] 26)) := hb.on ((Below.refl _ w).alloc (Nat.le_refl _) _)
 rw [hL] at hlen
 clear hL
 go_enter Tryz.func137, Tryz.ntmps137
 go_wp2_with fail
 refine (wb B b acc 40 40 rfl _ hb0 (by omega) (by simp; omega)).mono ?_
 rintro e w1 ⟨rfl, hb1, k1w⟩
 have K1 := K0.trans k1w
 have hz1 := hb1.lt
 clear k1w
 go_wp2_with fail
 refine (ws B b (acc ++ [40]) S _ hb1 (by simp; omega) (by omega)).mono ?_
 rintro e w2 ⟨rfl, hb2, k2w⟩
 have K2 := K1.trans k2w
 have hz2 := hb2.lt
 clear k2w K1 hb1
 go_wp2_with fail
 refine (wb B b _ 32 32 rfl _ hb2 (by simp; omega) (by omega)).mono ?_
 rintro e w3 ⟨rfl, hb3, k3w⟩
 have K3 := K2.trans k3w
 have hz3 := hb3.lt
 obtain ⟨hB, hl3⟩ := K3.box hlt.1
 have g0 : w3.cell? ⟨w.heap.size, 0, none⟩ = some (.string o1) := hB 0
 have g1 : w3.cell? ⟨w.heap.size, 1, none⟩ = some (.string n1) := hB 1
 have g2 : w3.cell? ⟨w.heap.size, 2, none⟩ = some (.int .i64 t1) := hB 2
 have g3 : w3.cell? ⟨w.heap.size, 3, none⟩ = some (.int .i64 k1) := hB 3
 have g4 : w3.cell? ⟨w.heap.size, 4, none⟩ = some (.string s1) := hB 4
 have g5 : w3.cell? ⟨w.heap.size, 5, none⟩ = some (.slice p1 m1 c1) := hB 5
 have g6 : w3.cell? ⟨w.heap.size, 6, none⟩ = some (.int .i64 a1) := hB 6
 have KK3 := KW.trans K3
 have cY := ih B b lo _ _ w3 (fun W hW => henv W (KK3.1.trans hW)) hlo (hy.keeps KK3 hlo) hb3 (by simp; omega)
 clear k3w K2 hb2 hB
 go_wp2_with fail
 refine cY.mono ?_
 rintro e w4 ⟨rfl, hb4, k4w⟩
 have KK4 := KK3.trans k4w
 have hz4 := hb4.lt
 clear k4w KK3 cY hb3 g0 g1 g2 g3 g4 g5 g6
 go_wp2_with fail
 refine (wb B b _ 41 41 rfl _ hb4 (by simp; omega) (by omega)).mono ?_
 rintro e w5 ⟨rfl, hb5, k5w⟩
 have KK5 := KK4.trans k5w
 rw [hR.out] at hb5
 clear k5w KK4 hb4
 go_wp2
 go_end0
 exact ⟨rfl, hb5, KK5⟩
set_option maxHeartbeats 8000000 in
set_option maxRecDepth 20000 in
theorem writeArgs_any (S : ByteArray) (hS : S.size ≤ 30) (l : List Ex) (ih : ∀ y ∈ l, WrAt y) (hlm : l.length ≤ maxLen) (B b : Nat) (lo : Nat → Prop) (p : Option Addr) (c : Nat) (acc : List UInt8) (w : World) (henv : ∀ W, Below B w W → Env W) (hlo : ∀ k, lo k → k < B) (hp : l.length = 0 ∨ ∃ ba oa, p = some ⟨ba, oa, none⟩ ∧ ba < w.heap.size ∧ lo ba ∧ ExsIn w lo ba oa l) (hb : IsB B b acc w) (hlen : acc.length + (argsT S.data.toList (l.map txP)).length ≤ 900000) :
  Calls Tryz.prog 136 #[.pointer (some ⟨b, 0, none⟩), .slice p l.length c, .string S] w fun e w' => e = .returned (.tuple #[]) ∧ IsB B b (acc ++ argsT S.data.toList (l.map txP)) w' ∧ Keeps B b w w' := by
 have hlt := hb.lt
 have hL : (argsT S.data.toList (l.map txP)).length = (inter S.data.toList (l.map txP)).length + 2 := by simp [argsT]
 have hR : Hid (acc ++ [40] ++ inter S.data.toList (l.map txP) ++ [41] = acc ++ argsT S.data.toList (l.map txP)) := by
  show _ = _
  simp [argsT]
 have hSl : S.data.toList.length = S.size := by simp
 rw [hL] at hlen
 clear hL
 generalize acc ++ argsT S.data.toList (l.map txP) = R at hR
 have HT : Hid (∀ k, k ≤ l.length → (inter S.data.toList ((l.map txP).take k)).length ≤ (inter S.data.toList (l.map txP)).length) := fun k hk => inter_take_len k (by simpa using hk)
 have HI : Aside (∀ y ∈ l, WrAt y) := ih
 have HP : Aside (l.length = 0 ∨ ∃ ba oa, p = some ⟨ba, oa, none⟩ ∧ ba < w.heap.size ∧ lo ba ∧ ExsIn w lo ba oa l) := hp
 unfold maxLen at hlm
 clear ih hp
 go_enter Tryz.func136, Tryz.ntmps136
 go_wp2_with fail
 refine (wb B b acc 40 40 rfl _ hb (by omega) (by omega)).mono ?_
 rintro e w1 ⟨rfl, hb1, k1w⟩
 go_wp2
 go_loopg [6, 7, 12] l.length (fun gg _ _ s12 wr => ∃ (kk : Nat) (ac : List UInt8), kk ≤ l.length ∧ l.length - kk ≤ gg ∧ s12 = .int .i64 kk ∧ Aside (Keeps B b w wr) ∧ Aside (IsB B b ac wr) ∧ Hid (ac = acc ++ [40] ++ inter S.data.toList ((l.map txP).take kk)))
 case atStart => exact ⟨0, acc ++ [40], Nat.zero_le _, by omega, rfl, k1w, hb1, (show Hid _ by show _ = _; simp [inter])⟩
 case round =>
  obtain ⟨kk, ac, hkk, hg, rfl, KW, hbr, HA⟩ := hrel
  have hz := hbr.out.lt
  have hal : ac.length ≤ acc.length + 1 + (inter S.data.toList (l.map txP)).length := by
   rw [HA.out]
   have := HT.out kk hkk
   simp only [List.length_append, List.length_singleton]
   omega
  by_cases hlt2 : kk < l.length
  ·have hltz : (kk : Int) < (l.length : Int) := by omega
   have k0 : (0 : Int) ≤ (kk : Int) := by omega
   rcases HP.out with h | ⟨ba, oa, rfl, hbl, hlb, hE⟩
   ·exact absurd h (by omega)
   obtain ⟨v0, v1, v2, v3, v4, v5, v6, e0, e1, e2, e3, e4, e5, e6, hy⟩ := exsIn_at w lo ba l oa hE kk hlt2
   obtain ⟨o1, n1, t1, k1, s1, p1, m1, c1, a1, huu⟩ := hy.agg
   injection huu with huu
   simp only [Array.mk.injEq, List.cons.injEq, and_true] at huu
   obtain ⟨rfl, rfl, rfl, rfl, rfl, rfl, rfl⟩ := huu
   have kA : ∀ o, wr.cell? ⟨ba, o, none⟩ = w.cell? ⟨ba, o, none⟩ := fun o => KW.out.1.cell (p := ⟨ba, o, none⟩) (hlo ba hlb)
   rw [← kA] at e0 e1 e2 e3 e4 e5 e6
   have hblr : ba < wr.heap.size := by have := KW.out.1.size; omega
   have hW := HI.out _ (List.getElem_mem hlt2)
   have HN : Hid (inter S.data.toList ((l.map txP).take (kk + 1)) = (if kk = 0 then [] else inter S.data.toList ((l.map txP).take kk) ++ S.data.toList) ++ txP l[kk]) := by
    show _ = _
    rw [inter_take (by simpa using hlt2)]
    simp
   have hN2 := HT.out (kk + 1) (by omega)
   rw [HN.out] at hN2
   generalize l[kk] = y at hy hW HN hN2
   clear hE kA
   have KX : Keeps B b w (wr.alloc (.cells #[.string o1, .string n1, .int .i64 t1, .int .i64 k1, .string s1, .slice p1 m1 c1, .int .i64 a1] 26)) := KW.out.alloc (by omega) _
   have hbx : IsB B b ac (wr.alloc (.cells #[.string o1, .string n1, .int .i64 t1, .int .i64 k1, .string s1, .slice p1 m1 c1, .int .i64 a1] 26)) := hbr.out.on ((Below.refl _ _).alloc (Nat.le_refl _) _)
   have K0 : Keeps B b (wr.alloc (.cells #[.string o1, .string n1, .int .i64 t1, .int .i64 k1, .string s1, .slice p1 m1 c1, .int .i64 a1] 26)) (wr.alloc (.cells #[.string o1, .string n1, .int .i64 t1, .int .i64 k1, .string s1, .slice p1 m1 c1, .int .i64 a1] 26)) := ⟨Below.refl _ _, Lib.OthersKept.refl _ _ _⟩
   by_cases h0 : kk = 0
   ·have hz0 : ¬ (0 : Int) < (kk : Int) := by omega
    have HA2 : Hid (ac ++ txP y = acc ++ [40] ++ inter S.data.toList ((l.map txP).take (kk + 1))) := by
     show _ = _
     rw [HN.out, if_pos h0, HA.out, h0]
     simp [inter]
    have hl9 : ac.length + (txP y).length ≤ 900000 := by
     rw [HA.out, h0]
     rw [if_pos h0] at hN2
     simp only [List.take_zero, inter, List.append_nil, List.length_append, List.length_singleton, List.nil_append] at hN2 ⊢
     omega
    have cY := hW B b lo _ ac _ (fun W hW => henv W (KX.1.trans hW)) hlo (hy.keeps KX hlo) hbx hl9
    clear HA HN hN2 h0 hal
    go_wp2_with fail
    refine cY.mono ?_
    rintro e w4 ⟨rfl, hb4, k4w⟩
    have K4 : Aside (Keeps B b w w4) := KX.trans k4w
    clear cY k4w KX hbx K0 e0 e1 e2 e3 e4 e5 e6
    go_wp2
    go_roundg (l.length - (kk + 1))
    case measure => omega
    case rel => exact ⟨kk + 1, ac ++ txP y, by omega, by omega, by go_num, K4, hb4, HA2⟩
   ·have hz0 : (0 : Int) < (kk : Int) := by omega
    have HA2 : Hid (ac ++ S.data.toList ++ txP y = acc ++ [40] ++ inter S.data.toList ((l.map txP).take (kk + 1))) := by
     show _ = _
     rw [HN.out, if_neg h0, HA.out]
     simp
    have hl9 : ac.length + S.size + (txP y).length ≤ 900000 := by
     have := congrArg List.length HA2.out
     rw [if_neg h0] at hN2
     rw [HN.out, if_neg h0] at this
     simp only [List.length_append, List.length_singleton] at this hN2
     omega
    clear HA HN hN2 h0 hal
    go_wp2_with fail
    refine (ws B b ac S _ hbx (by omega) (by simp; omega)).mono ?_
    rintro e w3 ⟨rfl, hb3, k3w⟩
    have K3 := K0.trans k3w
    have KK3 := KX.trans k3w
    obtain ⟨hB, hl3⟩ := K3.box hz.1
    have g0 : w3.cell? ⟨wr.heap.size, 0, none⟩ = some (.string o1) := hB 0
    have g1 : w3.cell? ⟨wr.heap.size, 1, none⟩ = some (.string n1) := hB 1
    have g2 : w3.cell? ⟨wr.heap.size, 2, none⟩ = some (.int .i64 t1) := hB 2
    have g3 : w3.cell? ⟨wr.heap.size, 3, none⟩ = some (.int .i64 k1) := hB 3
    have g4 : w3.cell? ⟨wr.heap.size, 4, none⟩ = some (.string s1) := hB 4
    have g5 : w3.cell? ⟨wr.heap.size, 5, none⟩ = some (.slice p1 m1 c1) := hB 5
    have g6 : w3.cell? ⟨wr.heap.size, 6, none⟩ = some (.int .i64 a1) := hB 6
    have cY := hW B b lo _ _ w3 (fun W hW => henv W (KK3.1.trans hW)) hlo (hy.keeps KK3 hlo) hb3 (by simp only [List.length_append]; omega)
    clear k3w K3 K0 hB KX hbx e0 e1 e2 e3 e4 e5 e6
    go_wp2_with fail
    refine cY.mono ?_
    rintro e w4 ⟨rfl, hb4, k4w⟩
    have K4 : Aside (Keeps B b w w4) := KK3.trans k4w
    clear cY k4w KK3 hb3 g0 g1 g2 g3 g4 g5 g6
    go_wp2
    go_roundg (l.length - (kk + 1))
    case measure => omega
    case rel => exact ⟨kk + 1, ac ++ S.data.toList ++ txP y, by omega, by omega, by go_num, K4, hb4, HA2⟩
  ·have hltz : ¬ (kk : Int) < (l.length : Int) := by omega
   have hF : Hid (ac ++ [41] = R) := by
    show _ = _
    rw [← hR.out, HA.out, List.take_of_length_le (by simp; omega)]
   clear HA
   go_wp2_with fail
   refine (wb B b ac 41 41 rfl _ hbr.out (by omega) (by omega)).mono ?_
   rintro e w5 ⟨rfl, hb5, k5w⟩
   rw [hF.out] at hb5
   have K5 := KW.out.trans k5w
   clear k5w
   go_wp2
   go_end0
   exact ⟨rfl, hb5, K5⟩
end Go.Proofs.YtkbhmghdonomnaaGreatDoor
namespace Go.Proofs.YtkbhmghdonomnaaGreatDoor
open Go.RowKit
set_option linter.unusedVariables false
theorem own_grown {w w' : World} {B B' : Nat} {e e' : TypeId} {size size' n m : Nat} {u v : Value} {xs ys : List Value} (h : w.ownsRow B e size u n xs) (h' : w.ownsRow B' e' size' v m ys) (hne : e ≠ e') (hg : w.grownBy w' v.ownBlock) : w'.ownsRow B e size u n xs := by
 refine ⟨h.1, ?_⟩
 rcases h.2 with hn | ⟨g, cap, cur, rfl, h1, hgg, rest⟩
 ·exact .inl hn
 ·refine .inr ⟨g, cap, cur, rfl, h1, ?_, rest⟩
  rw [hg.block g (Array.getElem?_eq_some_iff.1 hgg).1 (fun hb => ?_)]
  ·exact hgg
  ·rcases h'.2 with ⟨rfl, _⟩ | ⟨g', cap', cur', rfl, _, hgg', _⟩
   ·simp [Value.ownBlock] at hb
   ·have : g = g' := by simpa [Value.ownBlock] using hb
    subst this
    rw [hgg] at hgg'
    injection hgg' with hgg'
    injection hgg' with _ h2 _
    exact hne h2
def ArgsO (w : World) (B : Nat) (v : Value) (u : Option Nat) (xs : List Ex) : Prop := ∃ cs : List Value, w.ownsRow B 26 7 v xs.length cs ∧
 ∀ j (h : j < xs.length), ∃ a0 a1 a2 a3 a4 a5 a6, cs[j * 7]? = some a0 ∧ cs[j * 7 + 1]? = some a1 ∧ cs[j * 7 + 2]? = some a2 ∧ cs[j * 7 + 3]? = some a3 ∧ cs[j * 7 + 4]? = some a4 ∧ cs[j * 7 + 5]? = some a5 ∧ cs[j * 7 + 6]? = some a6 ∧ ExIn w (fun b => B ≤ b ∧ some b ≠ v.ownBlock ∧ some b ≠ u) (.agg #[a0, a1, a2, a3, a4, a5, a6]) xs[j]
theorem argsO_nil (w : World) (B : Nat) (u : Option Nat) : ArgsO w B (.slice none 0 0) u [] := ⟨[], World.ownsRow_nil _ _ _ _, fun j h => absurd h (Nat.not_lt_zero _)⟩
theorem ArgsO.own {w : World} {B : Nat} {v : Value} {u : Option Nat} {xs : List Ex} (h : ArgsO w B v u xs) : ArgsOwn w B v xs := by
 obtain ⟨cs, h1, h2⟩ := h
 refine ⟨cs, h1, fun j hj => ?_⟩
 obtain ⟨a0, a1, a2, a3, a4, a5, a6, e0, e1, e2, e3, e4, e5, e6, hx⟩ := h2 j hj
 exact ⟨a0, a1, a2, a3, a4, a5, a6, e0, e1, e2, e3, e4, e5, e6, ExIn.low (fun b _ hb => ⟨hb.1, hb.2.1⟩) _ _ hx⟩
theorem ArgsO.on {w w' : World} {B : Nat} {v : Value} {u : Option Nat} {xs : List Ex} (h : ArgsO w B v u xs) (hb : Below w.heap.size w w') : ArgsO w' B v u xs := by
 obtain ⟨cs, h1, h2⟩ := h
 refine ⟨cs, lown_below h1 hb, fun j hj => ?_⟩
 obtain ⟨a0, a1, a2, a3, a4, a5, a6, e0, e1, e2, e3, e4, e5, e6, hx⟩ := h2 j hj
 exact ⟨a0, a1, a2, a3, a4, a5, a6, e0, e1, e2, e3, e4, e5, e6, hx.on hb⟩
theorem ArgsO.other {w w' : World} {B B' m size : Nat} {e' : TypeId} {v u u' : Value} {ys : List Value} {xs : List Ex} (h : ArgsO w B v u.ownBlock xs) (hu : w.ownsRow B' e' size u m ys) (hne : 26 ≠ e') (hg : w.grownBy w' u.ownBlock) (hf : u'.ownBlock = u.ownBlock ∨ u'.ownBlock = some w.heap.size) : ArgsO w' B v u'.ownBlock xs := by
 obtain ⟨cs, h1, h2⟩ := h
 refine ⟨cs, own_grown h1 hu hne hg, fun j hj => ?_⟩
 obtain ⟨a0, a1, a2, a3, a4, a5, a6, e0, e1, e2, e3, e4, e5, e6, hx⟩ := h2 j hj
 have h3 := ExIn.low (lo' := fun b => (B ≤ b ∧ some b ≠ v.ownBlock ∧ some b ≠ u.ownBlock) ∧ b < w.heap.size) (fun b hb hb2 => ⟨hb2, hb⟩) _ _ hx
 have h4 := ExIn.keep (w' := w') hg.size (fun b o hb _ => by simp only [World.cell?, hg.block b hb.2 hb.1.2.2]) _ _ h3
 refine ⟨a0, a1, a2, a3, a4, a5, a6, e0, e1, e2, e3, e4, e5, e6, ExIn.low (fun b _ hb => ⟨hb.1.1, hb.1.2.1, ?_⟩) _ _ h4⟩
 rcases hf with hf | hf
 ·rw [hf]; exact hb.1.2.2
 ·rw [hf]; intro e; injection e with e; have := hb.2; omega
theorem ArgsO.push {wr W w9 : World} {B k cp c9 : Nat} {q q9 : Option Addr} {u : Option Nat} {xs : List Ex} {cs : List Value} {b0 b1 b2 b3 b4 b5 b6 : Value} {x : Ex} (h1 : wr.ownsRow B 26 7 (.slice q k cp) k cs) (hlen : xs.length = k)
  (pR : ∀ j (h : j < xs.length), ∃ a0 a1 a2 a3 a4 a5 a6, cs[j * 7]? = some a0 ∧ cs[j * 7 + 1]? = some a1 ∧ cs[j * 7 + 2]? = some a2 ∧ cs[j * 7 + 3]? = some a3 ∧ cs[j * 7 + 4]? = some a4 ∧ cs[j * 7 + 5]? = some a5 ∧ cs[j * 7 + 6]? = some a6 ∧ ExIn wr (fun b => B ≤ b ∧ some b ≠ (Value.slice q k cp).ownBlock ∧ some b ≠ u) (.agg #[a0, a1, a2, a3, a4, a5, a6]) xs[j])
  (bW : Below wr.heap.size wr W) (hB : B ≤ wr.heap.size) (hx : ExIn W (fun b => wr.heap.size ≤ b) (.agg #[b0, b1, b2, b3, b4, b5, b6]) x) (hu : ∀ j, u = some j → j < wr.heap.size) (hown' : w9.ownsRow B 26 7 (.slice q9 (k + 1) c9) (k + 1) (cs ++ [b0, b1, b2, b3, b4, b5, b6])) (hg : W.grownBy w9 (Value.slice q k cp).ownBlock)
  (hf : (Value.slice q9 (k + 1) c9).ownBlock = (Value.slice q k cp).ownBlock ∨ (Value.slice q9 (k + 1) c9).ownBlock = some W.heap.size) : ArgsO w9 B (.slice q9 (k + 1) c9) u (xs ++ [x]) := by
 subst hlen
 have hsW := bW.size
 have hob : ∀ j, (Value.slice q xs.length cp).ownBlock = some j → j < wr.heap.size := fun j hj => (h1.lt j hj).2
 have key : ∀ (y : Ex) (z : Value), ExIn W (fun b => B ≤ b ∧ some b ≠ (Value.slice q xs.length cp).ownBlock ∧ some b ≠ u) z y → ExIn w9 (fun b => B ≤ b ∧ some b ≠ (Value.slice q9 (xs.length + 1) c9).ownBlock ∧ some b ≠ u) z y := fun y z hy => by
  have h3 := ExIn.low (lo' := fun b => (B ≤ b ∧ some b ≠ (Value.slice q xs.length cp).ownBlock ∧ some b ≠ u) ∧ b < W.heap.size) (fun b hb hb2 => ⟨hb2, hb⟩) _ _ hy
  have h4 := ExIn.keep (w' := w9) hg.size (fun b o hb _ => by simp only [World.cell?, hg.block b hb.2 hb.1.2.1]) _ _ h3
  refine ExIn.low (fun b _ hb => ⟨hb.1.1, ?_, hb.1.2.2⟩) _ _ h4
  rcases hf with hf | hf
  ·rw [hf]; exact hb.1.2.1
  ·rw [hf]; intro e; injection e with e; have := hb.2; omega
 have hlen := h1.1
 refine ⟨cs ++ [b0, b1, b2, b3, b4, b5, b6], by rw [List.length_append, List.length_singleton]; exact hown', fun j hj => ?_⟩
 rw [List.length_append, List.length_singleton] at hj
 by_cases hj2 : j < xs.length
 ·obtain ⟨a0, a1, a2, a3, a4, a5, a6, e0, e1, e2, e3, e4, e5, e6, hy⟩ := pR j hj2
  refine ⟨a0, a1, a2, a3, a4, a5, a6, ?_, ?_, ?_, ?_, ?_, ?_, ?_, ?_⟩
  ·rw [List.getElem?_append_left (by omega)]; exact e0
  ·rw [List.getElem?_append_left (by omega)]; exact e1
  ·rw [List.getElem?_append_left (by omega)]; exact e2
  ·rw [List.getElem?_append_left (by omega)]; exact e3
  ·rw [List.getElem?_append_left (by omega)]; exact e4
  ·rw [List.getElem?_append_left (by omega)]; exact e5
  ·rw [List.getElem?_append_left (by omega)]; exact e6
  ·rw [List.getElem_append_left hj2]; exact key _ _ (hy.on bW)
 ·obtain rfl : j = xs.length := by omega
  refine ⟨b0, b1, b2, b3, b4, b5, b6, ?_, ?_, ?_, ?_, ?_, ?_, ?_, ?_⟩
  ·rw [List.getElem?_append_right (by omega), show xs.length * 7 - cs.length = 0 by omega]; rfl
  ·rw [List.getElem?_append_right (by omega), show xs.length * 7 + 1 - cs.length = 1 by omega]; rfl
  ·rw [List.getElem?_append_right (by omega), show xs.length * 7 + 2 - cs.length = 2 by omega]; rfl
  ·rw [List.getElem?_append_right (by omega), show xs.length * 7 + 3 - cs.length = 3 by omega]; rfl
  ·rw [List.getElem?_append_right (by omega), show xs.length * 7 + 4 - cs.length = 4 by omega]; rfl
  ·rw [List.getElem?_append_right (by omega), show xs.length * 7 + 5 - cs.length = 5 by omega]; rfl
  ·rw [List.getElem?_append_right (by omega), show xs.length * 7 + 6 - cs.length = 6 by omega]; rfl
  ·rw [List.getElem_append_right (Nat.le_refl _)]
   simp only [Nat.sub_self, List.getElem_cons_zero]
   exact key _ _ (ExIn.low (fun b _ hb => ⟨by omega, fun e => by have := hob b e.symm; omega, fun e => by have := hu b e.symm; omega⟩) _ _ hx)
def Blk (w : World) (b : Nat) (cs : Array Value) (t : TypeId) : Prop := w.heap[b]? = some (.cells cs t (0, 0))
theorem Blk.lt {w : World} {b : Nat} {cs : Array Value} {t : TypeId} (h : Blk w b cs t) : b < w.heap.size := lt_of_block h
theorem Blk.cell {w : World} {b : Nat} {cs : Array Value} {t : TypeId} (h : Blk w b cs t) (i : Nat) : w.cell? ⟨b, i, none⟩ = cs[i]? := by unfold Blk at h; simp [World.cell?, h]
theorem Blk.frozen {w : World} {b : Nat} {cs : Array Value} {t : TypeId} (h : Blk w b cs t) (i : Nat) : w.frozen? ⟨b, i, none⟩ = false := frozen_of_row w b i cs t h
theorem Blk.keep {w w' : World} {b : Nat} {cs : Array Value} {t : TypeId} (h : Blk w b cs t) (hk : w'.heap[b]? = w.heap[b]?) : Blk w' b cs t := by unfold Blk at *; rw [hk]; exact h
theorem Blk.set {w : World} {b : Nat} {cs : Array Value} {t : TypeId} (h : Blk w b cs t) (i : Nat) (v : Value) : Blk (w.setCell ⟨b, i, none⟩ v) b (cs.setIfInBounds i v) t := heap_setCell_same w b i cs t v h
theorem Blk.far {w : World} {b z : Nat} {cs : Array Value} {t : TypeId} (h : Blk w b cs t) (hz : b ≠ z) (i : Nat) (v : Value) : Blk (w.setCell ⟨z, i, none⟩ v) b cs t := h.keep (heap_setCell_other w _ b v hz)
theorem Blk.but {w w' : World} {r b : Nat} {cs : Array Value} {t : TypeId} (h : Blk w b cs t) (hb : But r w w') (hr : b ≠ r) : Blk w' b cs t := h.keep (hb.kept b h.lt hr)
theorem Blk.on {w w' : World} {b : Nat} {cs : Array Value} {t : TypeId} (h : Blk w b cs t) (hb : Below w.heap.size w w') : Blk w' b cs t := h.keep (hb.block b h.lt)
theorem Blk.grown {w w' : World} {b : Nat} {cs : Array Value} {t : TypeId} {row : Option Nat} (h : Blk w b cs t) (hg : w.grownBy w' row) (hr : some b ≠ row) : Blk w' b cs t := h.keep (hg.block b h.lt hr)
theorem blk_alloc (w : World) (cs : Array Value) (t : TypeId) : Blk (w.alloc (.cells cs t)) w.heap.size cs t := by
 show (w.heap.push _)[_]? = _
 rw [Array.getElem?_push_size]
def KeepB (B : Nat) (w w' : World) : Prop := w.heap.size ≤ w'.heap.size ∧ ∀ b, B ≤ b → b < w.heap.size → w'.heap[b]? = w.heap[b]?
theorem KeepB.refl (B : Nat) (w : World) : KeepB B w w := ⟨Nat.le_refl _, fun _ _ _ => rfl⟩
theorem KeepB.trans {B : Nat} {w w1 w2 : World} (h : KeepB B w w1) (k : KeepB B w1 w2) : KeepB B w w2 := ⟨Nat.le_trans h.1 k.1, fun b h1 h2 => by rw [k.2 b h1 (by have := h.1; omega), h.2 b h1 h2]⟩
theorem KeepB.but {B r : Nat} {w w' : World} (h : But r w w') (hr : r < B) : KeepB B w w' := ⟨h.size, fun b h1 h2 => h.kept b h2 (by omega)⟩
theorem KeepB.on {B : Nat} {w w' : World} (h : Below w.heap.size w w') : KeepB B w w' := ⟨h.size, fun b _ h2 => h.block b h2⟩
theorem KeepB.set {B z : Nat} (w : World) (i : Nat) (v : Value) (hz : z < B) : KeepB B w (w.setCell ⟨z, i, none⟩ v) := ⟨by simp [World.setCell], fun b h1 _ => heap_setCell_other w _ b v (by show b ≠ z; omega)⟩
theorem own_keep {w w' : World} {B B' : Nat} {e : TypeId} {size n : Nat} {v : Value} {xs : List Value} (h : w.ownsRow B e size v n xs) (hk : KeepB B' w w') (hB : B' ≤ B) : w'.ownsRow B e size v n xs := by
 refine ⟨h.1, ?_⟩
 rcases h.2 with hn | ⟨g, cap, cur, rfl, h1, hgg, rest⟩
 ·exact .inl hn
 ·exact .inr ⟨g, cap, cur, rfl, h1, by rw [hk.2 g (by omega) (Array.getElem?_eq_some_iff.1 hgg).1]; exact hgg, rest⟩
theorem exin_keep {w w' : World} {B : Nat} {lo : Nat → Prop} {v : Value} {x : Ex} (h : ExIn w lo v x) (hk : KeepB B w w') (hB : ∀ b, lo b → B ≤ b) : ExIn w' lo v x := by
 have h3 := ExIn.low (lo' := fun b => lo b ∧ b < w.heap.size) (fun b hb hb2 => ⟨hb2, hb⟩) _ _ h
 have h4 := ExIn.keep (w' := w') hk.1 (fun b o hb _ => by simp only [World.cell?, hk.2 b (hB b hb.1) hb.2]) _ _ h3
 exact ExIn.low (fun b _ hb => hb.1) _ _ h4
theorem ArgsO.keepB {w w' : World} {B B' : Nat} {v : Value} {u : Option Nat} {xs : List Ex} (h : ArgsO w B v u xs) (hk : KeepB B' w w') (hB : B' ≤ B) : ArgsO w' B v u xs := by
 obtain ⟨cs, h1, h2⟩ := h
 refine ⟨cs, own_keep h1 hk hB, fun j hj => ?_⟩
 obtain ⟨a0, a1, a2, a3, a4, a5, a6, e0, e1, e2, e3, e4, e5, e6, hx⟩ := h2 j hj
 exact ⟨a0, a1, a2, a3, a4, a5, a6, e0, e1, e2, e3, e4, e5, e6, exin_keep hx hk (fun b hb => by omega)⟩
def AgsOwn (w : World) (B : Nat) (v : Value) (l : List Ag) : Prop := ∃ cs : List Value, w.ownsRow B 49 9 v l.length cs ∧
 ∀ j (h : j < l.length), ∃ ap ac, cs[j * 9]? = some (.string l[j].what) ∧ cs[j * 9 + 1]? = some (.string l[j].arg.op) ∧ cs[j * 9 + 2]? = some (.string l[j].arg.nm) ∧ cs[j * 9 + 3]? = some (.int .i64 l[j].arg.vt) ∧ cs[j * 9 + 4]? = some (.int .i64 l[j].arg.vn) ∧ cs[j * 9 + 5]? = some (.string l[j].arg.vs) ∧ cs[j * 9 + 6]? = some (.slice ap l[j].arg.args.length ac) ∧ cs[j * 9 + 7]? = some (.int .i64 l[j].arg.pos) ∧ cs[j * 9 + 8]? = some (.string l[j].name) ∧ ExIn w (fun b => B ≤ b ∧ some b ≠ v.ownBlock) (exV l[j].arg ap ac) l[j].arg
theorem agsOwn_nil (w : World) (B : Nat) : AgsOwn w B (.slice none 0 0) [] := ⟨[], World.ownsRow_nil _ _ _ _, fun j h => absurd h (Nat.not_lt_zero _)⟩
theorem AgsOwn.keepB {w w' : World} {B B' : Nat} {v : Value} {xs : List Ag} (h : AgsOwn w B v xs) (hk : KeepB B' w w') (hB : B' ≤ B) : AgsOwn w' B v xs := by
 obtain ⟨cs, h1, h2⟩ := h
 refine ⟨cs, own_keep h1 hk hB, fun j hj => ?_⟩
 obtain ⟨ap, ac, e0, e1, e2, e3, e4, e5, e6, e7, e8, hx⟩ := h2 j hj
 exact ⟨ap, ac, e0, e1, e2, e3, e4, e5, e6, e7, e8, exin_keep hx hk (fun b hb => by omega)⟩
theorem AgsOwn.push {w w' : World} {B : Nat} {v v' : Value} {xs : List Ag} {cs : List Value} {a : Ag} {ap : Option Addr} {ac : Nat} (h1 : w.ownsRow B 49 9 v xs.length cs)
  (h2 : ∀ j (h : j < xs.length), ∃ ap ac, cs[j * 9]? = some (.string xs[j].what) ∧ cs[j * 9 + 1]? = some (.string xs[j].arg.op) ∧ cs[j * 9 + 2]? = some (.string xs[j].arg.nm) ∧ cs[j * 9 + 3]? = some (.int .i64 xs[j].arg.vt) ∧ cs[j * 9 + 4]? = some (.int .i64 xs[j].arg.vn) ∧ cs[j * 9 + 5]? = some (.string xs[j].arg.vs) ∧ cs[j * 9 + 6]? = some (.slice ap xs[j].arg.args.length ac) ∧ cs[j * 9 + 7]? = some (.int .i64 xs[j].arg.pos) ∧ cs[j * 9 + 8]? = some (.string xs[j].name) ∧ ExIn w (fun b => B ≤ b ∧ some b ≠ v.ownBlock) (exV xs[j].arg ap ac) xs[j].arg)
  (hx : ExIn w (fun b => B ≤ b ∧ some b ≠ v.ownBlock) (exV a.arg ap ac) a.arg) (hown' : w'.ownsRow B 49 9 v' (xs.length + 1) (cs ++ [.string a.what, .string a.arg.op, .string a.arg.nm, .int .i64 a.arg.vt, .int .i64 a.arg.vn, .string a.arg.vs, .slice ap a.arg.args.length ac, .int .i64 a.arg.pos, .string a.name])) (hg : w.grownBy w' v.ownBlock) (hf : v'.ownBlock = v.ownBlock ∨ v'.ownBlock = some w.heap.size) : AgsOwn w' B v' (xs ++ [a]) := by
 have key : ∀ (y : Ex) (z : Value), ExIn w (fun b => B ≤ b ∧ some b ≠ v.ownBlock) z y → ExIn w' (fun b => B ≤ b ∧ some b ≠ v'.ownBlock) z y := fun y z hy => by
  have h3 := ExIn.low (lo' := fun b => (B ≤ b ∧ some b ≠ v.ownBlock) ∧ b < w.heap.size) (fun b hb hb2 => ⟨hb2, hb⟩) _ _ hy
  have h4 := ExIn.keep (w' := w') hg.size (fun b o hb _ => by simp only [World.cell?, hg.block b hb.2 hb.1.2]) _ _ h3
  refine ExIn.low (fun b _ hb => ⟨hb.1.1, ?_⟩) _ _ h4
  rcases hf with hf | hf
  ·rw [hf]; exact hb.1.2
  ·rw [hf]; intro e; injection e with e; have := hb.2; omega
 have hlen := h1.1
 refine ⟨_, by rw [List.length_append, List.length_singleton]; exact hown', fun j hj => ?_⟩
 rw [List.length_append, List.length_singleton] at hj
 by_cases hj2 : j < xs.length
 ·obtain ⟨ap, ac, e0, e1, e2, e3, e4, e5, e6, e7, e8, hy⟩ := h2 j hj2
  rw [List.getElem_append_left hj2]
  refine ⟨ap, ac, ?_, ?_, ?_, ?_, ?_, ?_, ?_, ?_, ?_, key _ _ hy⟩
  ·rw [List.getElem?_append_left (by omega)]; exact e0
  ·rw [List.getElem?_append_left (by omega)]; exact e1
  ·rw [List.getElem?_append_left (by omega)]; exact e2
  ·rw [List.getElem?_append_left (by omega)]; exact e3
  ·rw [List.getElem?_append_left (by omega)]; exact e4
  ·rw [List.getElem?_append_left (by omega)]; exact e5
  ·rw [List.getElem?_append_left (by omega)]; exact e6
  ·rw [List.getElem?_append_left (by omega)]; exact e7
  ·rw [List.getElem?_append_left (by omega)]; exact e8
 ·obtain rfl : j = xs.length := by omega
  rw [List.getElem_append_right (Nat.le_refl _)]
  simp only [Nat.sub_self, List.getElem_cons_zero]
  refine ⟨ap, ac, ?_, ?_, ?_, ?_, ?_, ?_, ?_, ?_, ?_, key _ _ hx⟩
  ·rw [List.getElem?_append_right (by omega), show xs.length * 9 - cs.length = 0 by omega]; rfl
  ·rw [List.getElem?_append_right (by omega), show xs.length * 9 + 1 - cs.length = 1 by omega]; rfl
  ·rw [List.getElem?_append_right (by omega), show xs.length * 9 + 2 - cs.length = 2 by omega]; rfl
  ·rw [List.getElem?_append_right (by omega), show xs.length * 9 + 3 - cs.length = 3 by omega]; rfl
  ·rw [List.getElem?_append_right (by omega), show xs.length * 9 + 4 - cs.length = 4 by omega]; rfl
  ·rw [List.getElem?_append_right (by omega), show xs.length * 9 + 5 - cs.length = 5 by omega]; rfl
  ·rw [List.getElem?_append_right (by omega), show xs.length * 9 + 6 - cs.length = 6 by omega]; rfl
  ·rw [List.getElem?_append_right (by omega), show xs.length * 9 + 7 - cs.length = 7 by omega]; rfl
  ·rw [List.getElem?_append_right (by omega), show xs.length * 9 + 8 - cs.length = 8 by omega]; rfl
theorem AgsOwn.is {w : World} {B : Nat} {p : Option Addr} {n c : Nat} {xs : List Ag} (h : AgsOwn w B (.slice p n c) xs) (hl : xs.length ≤ 1048576) : AgsIs w (B ≤ ·) p xs := by
 obtain ⟨cs, h1, h2⟩ := h
 refine ⟨hl, ?_⟩
 rcases id h1.2 with ⟨hn, e⟩ | ⟨g, cap, cur, hv, hb, hg, hm, hx, hs, ht⟩
 ·exact .inl e
 ·injection hv with hv1 hv2 hv3
  subst hv1 hv2 hv3
  refine .inr ⟨g, 0, rfl, (Array.getElem?_eq_some_iff.1 hg).1, hb, fun j hj => ?_⟩
  obtain ⟨ap, ac, e0, e1, e2, e3, e4, e5, e6, e7, e8, hy⟩ := h2 j hj
  have k : ∀ o v, cs[o]? = some v → w.cell? ⟨g, 0 + o, none⟩ = some v := fun o v hv => by
   have := h1.cells (g := g) rfl o v hv
   rw [Go.WideShapes.add_plain] at this
   exact this
  refine ⟨ap, ac, k _ _ e0, ?_, ?_, ?_, ?_, ?_, ?_, ?_, ?_, ExIn.low (fun b _ hb => hb.1) _ _ hy⟩
  ·exact k _ _ e1
  ·exact k _ _ e2
  ·exact k _ _ e3
  ·exact k _ _ e4
  ·exact k _ _ e5
  ·exact k _ _ e6
  ·exact k _ _ e7
  ·exact k _ _ e8
end Go.Proofs.YtkbhmghdonomnaaGreatDoor
namespace Go.Proofs.YtkbhmghdonomnaaGreatDoor
open Go.RowKit Go.BigFrame
set_option linter.unusedVariables false
set_option linter.unusedSimpArgs false
def WbAt (B b : Nat) (p : Value) (acc : List UInt8) (fl : Bool) (w : World) : Prop := B ≤ b ∧ ∃ v, w.heap[b]? = some (.cells #[p, v, .bool fl] 93 (0, 0)) ∧ w.ownsRow B 5 1 v (Lib.byteCells acc).length (Lib.byteCells acc) ∧ v.ownBlock ≠ some b
def WbIs (B b : Nat) (acc : List UInt8) (fl : Bool) (w : World) : Prop := WbAt B b (.pointer none) acc fl w ∨ WbAt B b (.pointer (some ⟨b, 0, none⟩)) acc fl w
theorem WbAt.lt {B b : Nat} {p : Value} {acc : List UInt8} {fl : Bool} {w : World} (h : WbAt B b p acc fl w) : b < w.heap.size := by
 obtain ⟨_, v, hb, _⟩ := h
 exact (Array.getElem?_eq_some_iff.1 hb).1
theorem WbIs.at {B b : Nat} {acc : List UInt8} {fl : Bool} {w : World} (h : WbIs B b acc fl w) : ∃ p, WbAt B b p acc fl w := by
 rcases h with h | h
 ·exact ⟨_, h⟩
 ·exact ⟨_, h⟩
theorem WbIs.lt {B b : Nat} {acc : List UInt8} {fl : Bool} {w : World} (h : WbIs B b acc fl w) : b < w.heap.size ∧ B ≤ b := by
 obtain ⟨p, h⟩ := h.at
 exact ⟨h.lt, h.1⟩
theorem WbAt.on {B b : Nat} {p : Value} {acc : List UInt8} {fl : Bool} {w w' : World} (h : WbAt B b p acc fl w) (hb : Below w.heap.size w w') : WbAt B b p acc fl w' := by
 have hlt := h.lt
 obtain ⟨hB, v, hbk, hown, hne⟩ := h
 exact ⟨hB, v, by rw [hb.block b hlt]; exact hbk, lown_below hown hb, hne⟩
theorem WbIs.on {B b : Nat} {acc : List UInt8} {fl : Bool} {w w' : World} (h : WbIs B b acc fl w) (hb : Below w.heap.size w w') : WbIs B b acc fl w' := by
 rcases h with h | h
 ·exact .inl (h.on hb)
 ·exact .inr (h.on hb)
theorem wb_fresh' (B : Nat) (w : World) (hB : B ≤ w.heap.size) : WbIs B w.heap.size [] false (w.alloc (.cells #[.pointer none, .slice none 0 0, .bool false] 93)) :=
 .inl ⟨hB, .slice none 0 0, heap_alloc_new w _, World.ownsRow_nil _ _ _ _, by simp [Value.ownBlock]⟩
theorem WbIs.flag {B b : Nat} {acc : List UInt8} {fl : Bool} {w : World} (h : WbIs B b acc fl w) (g : Bool) : WbIs B b acc g (w.setCell ⟨b, 2, none⟩ (.bool g)) := by
 have go : ∀ p, WbAt B b p acc fl w → WbAt B b p acc g (w.setCell ⟨b, 2, none⟩ (.bool g)) := fun p h => by
  obtain ⟨hB, v, hbk, hown, hne⟩ := h
  have h1 := heap_setCell_same w b 2 _ _ (.bool g) hbk
  refine ⟨hB, v, by rw [h1]; simp, ?_, hne⟩
  exact ⟨hown.1, by
   rcases hown.2 with hn | ⟨gg, cap, cur, rfl, hb1, hgg, rest⟩
   ·exact .inl hn
   ·refine .inr ⟨gg, cap, cur, rfl, hb1, ?_, rest⟩
    rw [heap_setCell_other _ _ _ _ (fun e => hne (by simp [Value.ownBlock]; exact e))]
    exact hgg⟩
 rcases h with h | h
 ·exact .inl (go _ h)
 ·exact .inr (go _ h)
namespace Wbl
theorem size : (Tryz.prog.info? 91).map (·.size) = some 2 := by kernel_rfl
theorem lies : liesAt Tryz.prog Tryz.prog.depth 93 (3 / Tryz.prog.cellsOf 93) 0 91 1 = true := by kernel_rfl
set_option maxHeartbeats 1000000 in
set_option maxRecDepth 100000 in
theorem fresh (b : Nat) (w : World) (h0 : w.cell? ⟨b, 0, none⟩ = some (.pointer none)) (hsh : w.shape? b = some (93, 3)) (hfz : w.frozen? ⟨b, 0, none⟩ = false) :
  Calls Tryz.prog 116 #[.pointer (some ⟨b, 0, none⟩)] w fun e w' => e = .returned (.tuple #[]) ∧ w' = w.setCell ⟨b, 0, none⟩ (.pointer (some ⟨b, 0, none⟩)) := by
 obtain ⟨j, hj, hjs⟩ := Option.map_eq_some_iff.1 size
 go_enter Tryz.func116, Tryz.ntmps116
 go_wp2
 rw [Lib.run_to_unsafe w ⟨b, 0, none⟩ Tryz.underlying88 Tryz.underlying192 hj (by rw [hjs]; decide) hsh (Nat.zero_lt_succ 2)]
 simp only [Result.andThen]
 rw [Oper.upon_value]
 go_wp2
 rw [run_callFunc_extern Tryz.func134 (by kernel_rfl) (by kernel_rfl) (by kernel_rfl) (e := Extern.AbiNoEscape.same) (by kernel_rfl)]
 rw [Lib.run_noEscape]
 simp only [Result.andThen]
 rw [Oper.upon_value]
 go_wp2
 rw [Lib.run_from_unsafe w ⟨b, 0, none⟩ Tryz.underlying192 Tryz.underlying88 hj hsh lies]
 simp only [Result.andThen]
 rw [Oper.upon_value]
 go_wp2
 go_end0
 exact ⟨rfl, rfl⟩
theorem check (B b : Nat) (acc : List UInt8) (fl : Bool) (w : World) (h : WbIs B b acc fl w) :
  Calls Tryz.prog 116 #[.pointer (some ⟨b, 0, none⟩)] w fun e w' => e = .returned (.tuple #[]) ∧ WbAt B b (.pointer (some ⟨b, 0, none⟩)) acc fl w' ∧ Keeps B b w w' := by
 rcases h with h | h
 ·obtain ⟨hB, v, hbk, hown, hne⟩ := h
  refine (fresh b w (by rw [Lib.cell_of_heap hbk]; rfl) (by simp [World.shape?, hbk]) (Lib.frozen_of_heap hbk 0)).mono fun e w' hh => ⟨hh.1, ?_⟩
  rw [hh.2]
  refine ⟨⟨hB, v, ?_, ?_, hne⟩, (Below.refl B w).setCell (p := ⟨b, 0, none⟩) hB _, (Lib.OthersKept.refl _ _ w).setCell ⟨b, 0, none⟩ rfl _⟩
  ·rw [heap_setCell_same w b 0 _ _ _ hbk]; simp
  ·exact ⟨hown.1, by
    rcases hown.2 with hn | ⟨gg, cap, cur, rfl, hb1, hgg, rest⟩
    ·exact .inl hn
    ·refine .inr ⟨gg, cap, cur, rfl, hb1, ?_, rest⟩
     rw [heap_setCell_other _ _ _ _ (fun e => hne (by simp [Value.ownBlock]; exact e))]
     exact hgg⟩
 ·obtain ⟨hB, v, hbk, hown, hne⟩ := id h
  exact (Bld.used b w (by rw [Lib.cell_of_heap hbk]; rfl)).mono fun e w' hh => ⟨hh.1, by rw [hh.2]; exact ⟨h, Below.refl B _, Lib.OthersKept.refl _ _ w⟩⟩
set_option maxHeartbeats 2000000 in
set_option maxRecDepth 100000 in
theorem writeString (B b : Nat) (acc : List UInt8) (fl : Bool) (s : ByteArray) (w : World) (h : WbIs B b acc fl w) (hlen : acc.length + s.size ≤ 900000) (hBw : B ≤ w.heap.size) :
  Calls Tryz.prog 84 #[.pointer (some ⟨b, 0, none⟩), .string s] w fun e w' => e = .returned (.tuple #[.int .i64 s.size, .nilIface]) ∧ WbIs B b (acc ++ s.data.toList) fl w' ∧ Keeps B b w w' := by
 obtain ⟨i0, hi, hz0, hz1, hz2⟩ := info_parts Bld.byte
 go_enter Tryz.func84, Tryz.ntmps84
 go_wp2_with fail
 refine (check B b acc fl _ h).mono ?_
 rintro e w1 ⟨rfl, ⟨hB, v, hbk, hown, hne⟩, hb1, hk1⟩
 have c0 : w1.cell? ⟨b, 0, none⟩ = some (.pointer (some ⟨b, 0, none⟩)) := by rw [Lib.cell_of_heap hbk]; rfl
 have c1 : w1.cell? ⟨b, 1, none⟩ = some v := by rw [Lib.cell_of_heap hbk]; rfl
 have hlt : b < w1.heap.size := (Array.getElem?_eq_some_iff.1 hbk).1
 have hl8 : (Lib.byteCells acc).length = acc.length := Lib.byteCells_length acc
 go_wp2_with (at_builtin; refine Lib.wpList_append_own_string _ rfl _ _ 89 9 rfl B 5 i0 Tryz.underlying89 Tryz.underlying9 hi hz0 hz1 hz2 _ _ _ rfl hown s rfl ?c3 ?c4 ?c5 ?_)
 case c3 => unfold maxLen; omega
 case c4 => omega
 case c5 => have := hb1.size; omega
 intro v' w2 hown' hgrow _
 have hb2 : w2.heap[b]? = some (.cells #[.pointer (some ⟨b, 0, none⟩), v, .bool fl] 93 (0, 0)) := by
  rw [hgrow.block b hlt (fun e => hne e.symm)]
  exact hbk
 have d0 : w2.cell? ⟨b, 0, none⟩ = some (.pointer (some ⟨b, 0, none⟩)) := by rw [Lib.cell_of_heap hb2]; rfl
 have d1 : w2.cell? ⟨b, 1, none⟩ = some v := by rw [Lib.cell_of_heap hb2]; rfl
 have f1 : w2.frozen? ⟨b, 1, none⟩ = false := Lib.frozen_of_heap hb2 1
 obtain ⟨p', c', rfl⟩ := lown_slice hown'
 go_wp2
 go_ret2
 have hne2 : (Value.slice p' (acc.length + s.size) c').ownBlock ≠ some b := fun e => by
  obtain ⟨cc, fz, hcc⟩ := Bld.kind hown' b e
  rw [hb2] at hcc
  simp at hcc
 refine ⟨rfl, .inr ⟨hB, _, ?_, ?_, hne2⟩, ?_, (hk1.grown hgrow (Bld.kind hown)).setCell ⟨b, 1, none⟩ rfl _⟩
 ·rw [heap_setCell_same w2 b 1 _ _ _ hb2]; simp
 ·have e1 : Lib.byteCells acc ++ Lib.strCells s = Lib.byteCells (acc ++ s.data.toList) := Bld.cells_app acc s
  have e2 : acc.length + s.size = (Lib.byteCells (acc ++ s.data.toList)).length := by rw [← e1, List.length_append, Lib.strCells_length, hl8]
  rw [← e1] at e2 ⊢
  rw [← e2]
  exact ⟨hown'.1, by
   rcases hown'.2 with hn | ⟨gg, cap, cur, hv, hbg, hgg, rest⟩
   ·exact .inl hn
   ·refine .inr ⟨gg, cap, cur, hv, hbg, ?_, rest⟩
    rw [heap_setCell_other _ _ _ _ (fun e => hne2 (by rw [hv]; simp [Value.ownBlock]; exact e))]
    exact hgg⟩
 ·exact (hb1.grown hgrow (by have := hb1.size; omega) (fun k hk => (hown.lt k hk).1)).setCell (p := ⟨b, 1, none⟩) hB _
set_option maxHeartbeats 1000000 in
set_option maxRecDepth 20000 in
theorem len (B b : Nat) (acc : List UInt8) (fl : Bool) (w : World) (h : WbIs B b acc fl w) :
  Calls Tryz.prog 83 #[.pointer (some ⟨b, 0, none⟩)] w fun e w' => e = .returned (.int .i64 (acc.length : Nat)) ∧ w' = w := by
 obtain ⟨p, hB, v, hbk, hown, hne⟩ := h.at
 have hl8 : (Lib.byteCells acc).length = acc.length := Lib.byteCells_length acc
 obtain ⟨vp, vc, rfl⟩ := lown_slice hown
 rw [hl8] at hbk
 have c1 : w.cell? ⟨b, 1, none⟩ = some (.slice vp acc.length vc) := by rw [Lib.cell_of_heap hbk]; rfl
 have hlt : b < w.heap.size := (Array.getElem?_eq_some_iff.1 hbk).1
 clear hown hne hbk h hl8
 go_enter Tryz.func83, Tryz.ntmps83
 go_wp2
 go_ret
 exact ⟨rfl, rfl⟩
theorem cellsByte : Tryz.prog.cellsOf 5 = 1 := by kernel_rfl
set_option maxHeartbeats 2000000 in
set_option maxRecDepth 100000 in
theorem string (B b : Nat) (l : List UInt8) (fl : Bool) (w : World) (h : WbIs B b l fl w) (h0 : l ≠ []) :
  Calls Tryz.prog 49 #[.pointer (some ⟨b, 0, none⟩)] w fun e w' => e = .returned (.string ⟨l.toArray⟩) ∧ Below B w w' := by
 obtain ⟨p, hB, v, hbk, hown, hne⟩ := h.at
 have hl0 : l.length ≠ 0 := by simpa using h0
 rw [Lib.byteCells_length] at hown
 obtain ⟨g, cap, cur, rfl, hbg, hg, hnc, hcm, hcs, htake⟩ : ∃ g cap cur, v = .slice (some ⟨g, 0, none⟩) l.length cap ∧ B ≤ g ∧ w.heap[g]? = some (.cells cur 5 (0, 0)) ∧ l.length ≤ cap ∧ cap ≤ maxLen ∧ cur.size = cap * 1 ∧ cur.toList.take (l.length * 1) = Lib.byteCells l := by
  rcases hown.2 with ⟨_, hz⟩ | ⟨g, cap, cur, hv, r⟩
  ·exact absurd hz hl0
  ·exact ⟨g, cap, cur, hv, r⟩
 have c1 : w.drew.cell? ⟨b, 1, none⟩ = some (.slice (some ⟨g, 0, none⟩) l.length cap) := by
  have : w.drew.heap[b]? = some (.cells #[p, .slice (some ⟨g, 0, none⟩) l.length cap, .bool fl] 93 (0, 0)) := hbk
  rw [Lib.cell_of_heap this]; rfl
 have c0 : w.cell? ⟨b, 1, none⟩ = some (.slice (some ⟨g, 0, none⟩) l.length cap) := c1
 have hSD : (Builtin.unsafeSliceData_ #[89] 151 #[.slice (some ⟨g, 0, none⟩) l.length cap]).run Tryz.prog w.drew = .ok (.pointer (some ⟨g, 0, none⟩)) w.drew :=
  Lib.run_unsafeSliceData_row _ _ _ _ _ _ (by omega)
 have hUS : (Builtin.unsafeString_ #[151, 3] 9 #[.pointer (some ⟨g, 0, none⟩), .int .i64 l.length]).run Tryz.prog w.drew = .ok (.string ⟨l.toArray⟩) (w.drew.freeze ⟨g, 0, none⟩ l.length) := by
  refine Lib.run_unsafeString_row w.drew 151 3 9 5 Tryz.underlying151 cellsByte g cur.size (by have hg' : w.drew.heap[g]? = some (.cells cur 5 (0, 0)) := hg; simp [World.shape?, hg']) l h0 (by omega) (by unfold maxLen at hcm; omega) ?_
  intro j x hx
  have := hown.cells (g := g) rfl j (.int .u8 x.toNat) (by simp [Lib.byteCells, hx])
  exact this
 have hlt : b < w.heap.size := (Array.getElem?_eq_some_iff.1 hbk).1
 clear hown hne hbk h h0 htake hcs hnc
 go_enter Tryz.func49, Tryz.ntmps49
 go_wp2
 go_region
 all_goals (go_wp2; go_ret; exact ⟨rfl, Lib.below_freeze (Below.drew (Below.refl B w)) (p := ⟨g, 0, none⟩) hbg _⟩)
end Wbl
def WI (B b : Nat) (I : List UInt8) (w : World) : Prop := ∃ acc fl, WbIs B b acc fl w ∧ acc.length ≤ 400 ∧ ((fl = false ∧ acc = I) ∨ (fl = true ∧ 400 < I.length))
theorem WI.lt {B b : Nat} {I : List UInt8} {w : World} (h : WI B b I w) : b < w.heap.size ∧ B ≤ b := by
 obtain ⟨acc, fl, h, _⟩ := h
 exact h.lt
theorem WI.on {B b : Nat} {I : List UInt8} {w w' : World} (h : WI B b I w) (hb : Below w.heap.size w w') : WI B b I w' := by
 obtain ⟨acc, fl, h1, h2⟩ := h
 exact ⟨acc, fl, h1.on hb, h2⟩
theorem Keeps.refl (B b : Nat) (w : World) : Keeps B b w w := ⟨Below.refl _ _, Lib.OthersKept.refl _ _ _⟩
theorem Keeps.set {B b : Nat} {w w1 : World} (h : Keeps B b w w1) (hB : B ≤ b) (o : Nat) (v : Value) : Keeps B b w (w1.setCell ⟨b, o, none⟩ v) := ⟨h.1.setCell (p := ⟨b, o, none⟩) hB v, h.2.setCell ⟨b, o, none⟩ rfl v⟩
theorem Blk.keeps {B b k : Nat} {w w' : World} {cs : Array Value} {t : TypeId} (h : Blk w k cs t) (hk : Keeps B b w w') (hne : k ≠ b) (ht : t ≠ 5) : Blk w' k cs t :=
 hk.2 k _ h (by simpa using hne) (fun c fz e => ht (by injection e))
theorem WbIs.cells {B b : Nat} {acc : List UInt8} {fl : Bool} {w : World} (h : WbIs B b acc fl w) : w.cell? ⟨b, 2, none⟩ = some (.bool fl) ∧ w.frozen? ⟨b, 2, none⟩ = false ∧ b < w.heap.size := by
 obtain ⟨p, hB, v, hbk, _⟩ := h.at
 exact ⟨by rw [Lib.cell_of_heap hbk]; rfl, Lib.frozen_of_heap hbk 2, (Array.getElem?_eq_some_iff.1 hbk).1⟩
def catT (ts : List ByteArray) : List UInt8 := ts.flatMap fun s => s.data.toList
theorem catT_take {ts : List ByteArray} {k : Nat} (h : k < ts.length) : catT (ts.take (k + 1)) = catT (ts.take k) ++ ts[k].data.toList := by
 rw [List.take_succ_eq_append_getElem h, catT, catT, List.flatMap_append]
 simp
set_option maxHeartbeats 4000000 in
set_option maxRecDepth 20000 in
theorem put_q (ts : List ByteArray) (B b tb n : Nat) (I : List UInt8) (w : World) (hn : ts.length = n) (hn2 : n ≤ 10) (hT : Blk w tb (ts.map Value.string).toArray 9) (hne : tb ≠ b) (hI : WI B b I w) (hB : B ≤ w.heap.size) (hsz : ∀ s ∈ ts, s.size ≤ 1048576) :
  Calls Tryz.prog 40 #[.pointer (some ⟨b, 0, none⟩), .slice (some ⟨tb, 0, none⟩) n n] w fun e w' => e = .returned (.tuple #[]) ∧ Aside (WI B b (I ++ catT ts) w') ∧ Aside (Keeps B b w w') := by
 have HN : Hid (ts.length = n) := hn
 have HT : Aside (Blk w tb (ts.map Value.string).toArray 9) := hT
 have HI : Aside (WI B b I w) := hI
 have HZ := (show Aside _ from hsz)
 clear hn hT hI hsz
 go_enter Tryz.func40, Tryz.ntmps40
 go_wp2
 go_loopg [5, 8] n (fun gg _ s8 wr => ∃ kk : Nat, kk ≤ n ∧ n - kk ≤ gg ∧ s8 = .int .i64 kk ∧ Aside (WI B b (I ++ catT (ts.take kk)) wr) ∧ Aside (Keeps B b w wr))
 case atStart => exact ⟨0, Nat.zero_le _, by omega, rfl, (show Aside _ from (by simpa [catT] using HI.out : WI B b (I ++ catT (ts.take 0)) w)), (show Aside _ from Keeps.refl _ _ _)⟩
 case round =>
  obtain ⟨kk, hkk, hg, rfl, WJ, KJ⟩ := hrel
  clear HI
  by_cases hlt : kk < n
  ·have hltz : (kk : Int) < (n : Int) := by omega
   have h0z : (0 : Int) ≤ (kk : Int) := by omega
   have hk2 : kk < ts.length := by rw [HN.out]; exact hlt
   have hcs : wr.cell? ⟨tb, kk, none⟩ = some (.string ts[kk]) := by
    rw [(HT.out.keeps KJ.out hne (by decide)).cell]
    simp [hk2]
   have htl : tb < wr.heap.size := (HT.out.keeps KJ.out hne (by decide)).lt
   have hS := HZ.out ts[kk] (List.getElem_mem hk2)
   have HC := (show Hid _ from catT_take hk2)
   obtain ⟨acc, fl, hwb, ha, hcase⟩ := WJ.out
   obtain ⟨c2, f2, l2⟩ := hwb.cells
   have HWB : Aside (WbIs B b acc fl wr) := hwb
   have hBr : B ≤ wr.heap.size := Nat.le_trans hB KJ.out.1.size
   have hBb : B ≤ b := hwb.lt.2
   generalize ts[kk] = S at hcs hS HC
   generalize hI2 : catT (ts.take (kk + 1)) = C1 at HC
   generalize catT (ts.take kk) = C0 at HC hcase
   have hSl : S.data.toList.length = S.size := by rw [Lib.size_eq]
   have HSl : Hid (S.data.toList.length = S.size) := hSl
   have HI2 : Hid (catT (ts.take (kk + 1)) = C1) := hI2
   clear hI2 WJ hwb hSl
   rcases hcase with ⟨rfl, hacc⟩ | ⟨rfl, hbig⟩
   ·have HA : Hid (acc = I ++ C0) := hacc
    have cL := Wbl.len B b acc false wr HWB.out
    have hal : (acc.length : Int) ≤ 400 := by omega
    obtain ⟨L, hL⟩ : ∃ L, acc.length = L := ⟨_, rfl⟩
    have HL : Hid (acc.length = L) := hL
    rw [hL] at cL hal
    clear hacc hL ha
    by_cases hc : 400 - (L : Int) < (S.size : Int)
    ·have hcd : decide (400 - (L : Int) < (S.size : Int)) = true := by simpa using hc
     have W2 : WbIs B b acc true (wr.setCell ⟨b, 2, none⟩ (.bool true)) := HWB.out.flag true
     have K2 : Aside (Keeps B b w (wr.setCell ⟨b, 2, none⟩ (.bool true))) := KJ.out.set hBb _ _
     have W3 : Aside (WI B b (I ++ C1) (wr.setCell ⟨b, 2, none⟩ (.bool true))) := ⟨acc, true, W2, by have := HL.out; omega, .inr ⟨rfl, by
      rw [HC.out, ← List.append_assoc, ← HA.out, List.length_append, HSl.out, HL.out]; omega⟩⟩
     clear W2
     go_wp2_with fail
     refine cL.mono ?_
     rintro e w1 ⟨rfl, hw1⟩
     obtain rfl : wr = w1 := hw1.symm
     clear cL hw1
     go_wp2
     go_roundg (n - (kk + 1))
     case measure => omega
     case rel => exact ⟨kk + 1, by omega, by omega, by go_num, by rw [HI2.out]; exact W3, K2⟩
    ·have hcd : decide (400 - (L : Int) < (S.size : Int)) = false := by simpa using hc
     have W2 : WbIs B b acc false (wr.setCell ⟨b, 2, none⟩ (.bool false)) := HWB.out.flag false
     have K2 : Keeps B b w (wr.setCell ⟨b, 2, none⟩ (.bool false)) := KJ.out.set hBb _ _
     have cW := Wbl.writeString B b acc false S (wr.setCell ⟨b, 2, none⟩ (.bool false)) W2 (by have := HL.out; omega) (by simpa [World.setCell] using hBr)
     clear W2
     go_wp2_with fail
     refine cL.mono ?_
     rintro e w1 ⟨rfl, hw1⟩
     obtain rfl : wr = w1 := hw1.symm
     clear cL hw1
     go_wp2_with fail
     refine cW.mono ?_
     rintro e w3 ⟨rfl, wb3, k3⟩
     have K3 : Aside (Keeps B b w w3) := K2.trans k3
     have W3 : Aside (WI B b (I ++ C1) w3) := ⟨acc ++ S.data.toList, false, wb3, by rw [List.length_append, HSl.out, HL.out]; omega, .inl ⟨rfl, by rw [HC.out, HA.out, List.append_assoc]⟩⟩
     clear cW wb3 k3 K2
     go_wp2
     go_roundg (n - (kk + 1))
     case measure => omega
     case rel => exact ⟨kk + 1, by omega, by omega, by go_num, by rw [HI2.out]; exact W3, K3⟩
   ·have K2 : Aside (Keeps B b w (wr.setCell ⟨b, 2, none⟩ (.bool true))) := KJ.out.set hBb _ _
    have W3 : Aside (WI B b (I ++ C1) (wr.setCell ⟨b, 2, none⟩ (.bool true))) := ⟨acc, true, HWB.out.flag true, ha, .inr ⟨rfl, by
     rw [HC.out, ← List.append_assoc, List.length_append]; omega⟩⟩
    clear ha hbig
    go_wp2
    go_roundg (n - (kk + 1))
    case measure => omega
    case rel => exact ⟨kk + 1, by omega, by omega, by go_num, by rw [HI2.out]; exact W3, K2⟩
  ·have hltz : ¬ (kk : Int) < (n : Int) := by omega
   obtain rfl : kk = n := by omega
   have W3 : Aside (WI B b (I ++ catT ts) wr) := by have := WJ.out; rw [List.take_of_length_le (by rw [HN.out]; exact Nat.le_refl _)] at this; exact this
   go_wp2
   go_end0
   exact ⟨rfl, W3, KJ⟩
end Go.Proofs.YtkbhmghdonomnaaGreatDoor
