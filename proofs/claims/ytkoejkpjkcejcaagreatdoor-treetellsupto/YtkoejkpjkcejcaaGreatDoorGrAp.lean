/-
  TreeSi, TreeTx, Bld, TreeWr, TreeWs, in one text.
-/
import Derived.Test.YtkoejkpjkcejcaaGreatDoorGrAi
import Derived.Test.YtkoejkpjkcejcaaGreatDoorQTreeCk
import Derived.Test.YtkoejkpjkcejcaaGreatDoorGrAa
import Derived.Test.YtkoejkpjkcejcaaGreatDoorGrAe
import Derived.Lib.Builder
import Derived.Lib.AppendStr
import Derived.Lib.OthersKept
import Derived.Deep.LoopGhost
import Derived.Test.YtkoejkpjkcejcaaGreatDoorGrAn
import Derived.Test.YtkoejkpjkcejcaaGreatDoorGrAo
import Derived.Lib.ItoaLen
namespace Go.Proofs.YtkoejkpjkcejcaaGreatDoor
open Go.RowKit Go.BigFrame
set_option linter.unusedVariables false

def fsz (s : Nat) (x : Ex) (d : Nat) : Nat × Bool := (s + 1, true)
theorem fold_sz : ∀ (l : List (Ex × Nat)) (s : Nat), foldP fsz s l = (s + l.length, true)
  | [], s => by rw [foldP]; rfl
  | q :: r, s => by
    rw [foldP, if_pos (show (fsz s q.1 q.2).2 = true from rfl), fold_sz r]
    simp [fsz]
    omega
/-- A number that is counted on, and is not over. -/
def SizIn (p : Nat) (W : World) (s : Nat) (m : Nat) : Prop := W.cell? ⟨p, 0, none⟩ = some (.int .i64 (s : Int)) ∧ W.frozen? ⟨p, 0, none⟩ = false ∧ p < W.heap.size ∧ s + m ≤ 1048576
set_option maxHeartbeats 1000000 in
set_option maxRecDepth 20000 in
theorem sz1_any (p : Nat) (W : World) (v : Value) (lo : Nat → Prop) (x : Ex) (d s m : Nat) (hx : ExIn W lo v x) (hd : d ≤ 1048577) (hs : SizIn p W s (m + 1)) :
    Calls Tryz.prog 34 #[v, .int .i64 (d : Int), .pointer (some ⟨p, 0, none⟩)] W fun e w' => e = .returned (.bool (fsz s x d).2) ∧ ((fsz s x d).2 = true → SizIn p w' (fsz s x d).1 m) ∧ ((fsz s x d).2 = false → True) ∧ But p W w' := by
  obtain ⟨o1, n1, t1, k1, s1, p1, m1, c1, a1, rfl⟩ := hx.agg
  obtain ⟨h1, h2, h3, h4⟩ := hs
  have BF : Aside (∀ u, But p W ((W.setCell ⟨p, 0, none⟩ u).alloc (.cells #[.string o1, .string n1, .int .i64 t1, .int .i64 k1, .string s1, .slice p1 m1 c1, .int .i64 a1] 26))) := fun u => ((But.refl p W).set 0 u).alloc (by simp [World.setCell]; omega) _
  have hsz : (s : Int) + 1 ≤ 9223372036854775807 := by omega
  have hs0 : (0 : Int) ≤ (s : Int) := by omega
  have hC : Aside (SizIn p ((W.setCell ⟨p, 0, none⟩ (.int .i64 ((s : Int) + 1))).alloc (.cells #[.string o1, .string n1, .int .i64 t1, .int .i64 k1, .string s1, .slice p1 m1 c1, .int .i64 a1] 26)) (s + 1) m) := by
    refine ⟨?_, ?_, by simp [World.setCell]; omega, by omega⟩
    · rw [World.cell?_alloc_past _ _ _ (by simpa [World.setCell] using h3), World.cell?_setCell_same W ⟨p, 0, none⟩ _ h1]
      rfl
    · rw [World.frozen?_alloc_past _ _ _ (by simpa [World.setCell] using h3)]
      simpa using h2
  obtain ⟨S2, hS2⟩ : ∃ S2, s + 1 = S2 := ⟨_, rfl⟩
  have hR : fsz s x d = (S2, true) := by rw [← hS2]; rfl
  rw [hS2] at hC
  rw [hR]
  clear hx hR hS2 h4 hd
  go_enter Tryz.func34, Tryz.ntmps34
  go_wp2
  go_ret
  first
    | exact ⟨rfl, fun _ => hC.out, fun _ => trivial, BF.out _⟩
    | exact ⟨rfl, hC.out, BF.out _⟩
set_option maxHeartbeats 1000000 in
theorem size_any (x : Ex) (lo : Nat → Prop) (v : Value) (w : World) (hx : ExIn w lo v x) (hsz : (x.pre 1).length ≤ 1048576) :
    Calls Tryz.prog 15 #[v] w fun e w' => e = .returned (.int .i64 ((x.pre 1).length : Int)) ∧ Below w.heap.size w w' := by
  obtain ⟨o1, n1, t1, k1, s1, p1, m1, c1, a1, rfl⟩ := hx.agg
  have b1 : Below w.heap.size w ((w.alloc (.cells #[.string o1, .string n1, .int .i64 t1, .int .i64 k1, .string s1, .slice p1 m1 c1, .int .i64 a1] 26)).alloc (.cells #[.int .i64 0] 3)) := (al w _).trans ((al _ _).mono (by simp))
  have cW := walk_any fsz 34 (fun args W => by kernel_rfl) (w.heap.size + 1) (SizIn (w.heap.size + 1)) (fun _ _ => True) (fun b => lo b ∧ b < w.heap.size) _ _ x 0 (by simp) ((ExIn.low (fun b h1 h2 => ⟨h2, h1⟩) _ _ hx).on b1) (fun b h1 _ => by have := h1.2; omega) hsz
    (fun W v y d s m _ hy hd hs => sz1_any _ W v _ y d s m hy hd hs)
    (fun W W' s m hb hz hs => by
      obtain ⟨h1, h2, h3, h4⟩ := hs
      exact ⟨by rw [hb.cell (p := ⟨w.heap.size + 1, 0, none⟩) (by simp)]; exact h1, by rw [hb.frozen (p := ⟨w.heap.size + 1, 0, none⟩) (by simp)]; exact h2, by omega, h4⟩)
    ⟨by rw [World.cell?_alloc_at _ _ _ _ (by simp)]; rfl, by rw [World.frozen?_alloc_at _ _ _ _ (by simp)], by simp, by omega⟩
  rw [fold_sz, Nat.zero_add] at cW
  simp only at cW
  generalize (x.pre 1).length = L at cW ⊢
  clear hx hsz
  go_enter Tryz.func15, Tryz.ntmps15
  go_wp2_with fail
  refine cW.mono ?_
  rintro e w2 ⟨rfl, hst, _, b2⟩
  have b3 : Below w.heap.size w w2 := b1.trans (b2.below.mono (by omega))
  obtain ⟨c0, _, hl, _⟩ := hst (by first | trivial | rfl)
  clear cW b1 b2
  go_wp2
  go_ret
  exact ⟨rfl, b3⟩
end Go.Proofs.YtkoejkpjkcejcaaGreatDoor
namespace Go.Proofs.YtkoejkpjkcejcaaGreatDoor
set_option linter.unusedVariables false

/-- Texts one behind the other, something between. -/
def inter (bt : List UInt8) : List (List UInt8) → List UInt8
  | [] => []
  | [t] => t
  | t :: u :: ts => t ++ bt ++ inter bt (u :: ts)
theorem inter_snoc (bt t : List UInt8) : ∀ ts : List (List UInt8), inter bt (ts ++ [t]) = if ts.length = 0 then t else inter bt ts ++ bt ++ t
  | [] => rfl
  | [u] => by simp [inter]
  | u :: v :: ts => by
    have ih := inter_snoc bt t (v :: ts)
    simp only [List.cons_append, inter, List.length_cons] at ih ⊢
    rw [ih]
    simp
def argsT (bt : List UInt8) (ts : List (List UInt8)) : List UInt8 := 40 :: (inter bt ts ++ [41])
def aheadT (s t : List UInt8) : List UInt8 := 40 :: (s ++ 32 :: (t ++ [41]))
mutual
/-- An expression as it is written. -/
def txP : Ex → List UInt8
  | .node op nm vt vn vs _ l =>
    if op.data.toList = [118, 97, 108] then prS vt vn vs.data.toList
    else if op.data.toList = [99, 111, 108] then nm.data.toList
    else if op.data.toList = [108, 101, 110] ∨ op.data.toList = [105, 102] then op.data.toList ++ argsT [44, 32] (txsP l)
    else if op.data.toList = [110, 111, 116] then aheadT [110, 111, 116] ((txsP l).headD [])
    else if op.data.toList = [110, 101, 103] then aheadT [45] ((txsP l).headD [])
    else argsT (32 :: (op.data.toList ++ [32])) (txsP l)
def txsP : List Ex → List (List UInt8)
  | [] => []
  | x :: xs => txP x :: txsP xs
end
theorem txsP_map : ∀ l : List Ex, txsP l = l.map txP
  | [] => by rw [txsP]; rfl
  | x :: xs => by rw [txsP, txsP_map xs]; rfl
theorem inter_take {bt : List UInt8} {ts : List (List UInt8)} {k : Nat} (h : k < ts.length) : inter bt (ts.take (k + 1)) = (if k = 0 then [] else inter bt (ts.take k) ++ bt) ++ ts[k] := by
  rw [List.take_succ_eq_append_getElem h, inter_snoc]
  by_cases h0 : k = 0
  · subst h0; simp
  · rw [if_neg (by rw [List.length_take]; omega), if_neg h0]
theorem inter_take_len {bt : List UInt8} {ts : List (List UInt8)} : ∀ k, k ≤ ts.length → (inter bt (ts.take k)).length ≤ (inter bt ts).length := by
  intro k hk
  have key : ∀ d k, k + d = ts.length → (inter bt (ts.take k)).length ≤ (inter bt ts).length := by
    intro d
    induction d with
    | zero => intro k h; rw [List.take_of_length_le (by omega)]; exact Nat.le_refl _
    | succ d ih =>
      intro k h
      have h1 := ih (k + 1) (by omega)
      rw [inter_take (show k < ts.length by omega)] at h1
      by_cases h0 : k = 0
      · subst h0; simp [inter]
      · rw [if_neg h0] at h1
        simp only [List.length_append] at h1
        omega
  exact key (ts.length - k) k (by omega)
end Go.Proofs.YtkoejkpjkcejcaaGreatDoor
namespace Go.Proofs.YtkoejkpjkcejcaaGreatDoor
open Go.RowKit
set_option linter.unusedVariables false

namespace Bld
theorem size : (Tryz.prog.info? 71).map (·.size) = some 2 := by kernel_rfl
theorem lies : liesAt Tryz.prog Tryz.prog.depth 71 (2 / Tryz.prog.cellsOf 71) 0 71 1 = true := by kernel_rfl
theorem byte : (Tryz.prog.info? 5).map (fun i => (i.zero, i.size, i.bytes)) = some (some (.int .u8 0), 1, 1) := by kernel_rfl
set_option maxHeartbeats 1000000 in
set_option maxRecDepth 100000 in
theorem used (b : Nat) (w : World) (h0 : w.cell? ⟨b, 0, none⟩ = some (.pointer (some ⟨b, 0, none⟩))) :
    Calls Tryz.prog 87 #[.pointer (some ⟨b, 0, none⟩)] w fun e w' => e = .returned (.tuple #[]) ∧ w' = w := by
  obtain ⟨j, hj, _⟩ := Option.map_eq_some_iff.1 size
  go_enter Tryz.func87, Tryz.ntmps87
  go_wp2
  rw [Lib.run_neq_ptr_same w _ Tryz.underlying68 hj]
  go_wp2
  go_end0
  exact ⟨rfl, rfl⟩
set_option maxHeartbeats 1000000 in
set_option maxRecDepth 100000 in
theorem fresh (b : Nat) (w : World) (h0 : w.cell? ⟨b, 0, none⟩ = some (.pointer none)) (hsh : w.shape? b = some (71, 2)) (hfz : w.frozen? ⟨b, 0, none⟩ = false) :
    Calls Tryz.prog 87 #[.pointer (some ⟨b, 0, none⟩)] w fun e w' => e = .returned (.tuple #[]) ∧ w' = w.setCell ⟨b, 0, none⟩ (.pointer (some ⟨b, 0, none⟩)) := by
  obtain ⟨j, hj, hjs⟩ := Option.map_eq_some_iff.1 size
  go_enter Tryz.func87, Tryz.ntmps87
  go_wp2
  rw [Lib.run_to_unsafe w ⟨b, 0, none⟩ Tryz.underlying68 Tryz.underlying117 hj (by rw [hjs]; decide) hsh (Nat.zero_lt_succ 1)]
  simp only [Result.andThen]
  rw [Oper.upon_value]
  go_wp2
  rw [run_callFunc_extern Tryz.func110 (by kernel_rfl) (by kernel_rfl) (by kernel_rfl) (e := Extern.AbiNoEscape.same) (by kernel_rfl)]
  rw [Lib.run_noEscape]
  simp only [Result.andThen]
  rw [Oper.upon_value]
  go_wp2
  rw [Lib.run_from_unsafe w ⟨b, 0, none⟩ Tryz.underlying117 Tryz.underlying68 hj hsh lies]
  simp only [Result.andThen]
  rw [Oper.upon_value]
  go_wp2
  go_end0
  exact ⟨rfl, rfl⟩
theorem check (B b : Nat) (bs : List Value) (w : World) (h : Lib.IsBuilder 71 5 B b bs w) :
    Calls Tryz.prog 87 #[.pointer (some ⟨b, 0, none⟩)] w fun e w' => e = .returned (.tuple #[]) ∧ (Lib.BuilderAt 71 5 B b (.pointer (some ⟨b, 0, none⟩)) bs w' ∧ Below B w w' ∧ Lib.OthersKept 5 (some b) w w') := by
  rcases h with h | h
  · exact (fresh b w h.cell0 h.shape h.frozen0).mono fun e w' hh => ⟨hh.1, by rw [hh.2]; exact ⟨h.used _, (Below.refl B w).setCell (p := ⟨b, 0, none⟩) h.1 _, (Lib.OthersKept.refl _ _ w).setCell ⟨b, 0, none⟩ rfl _⟩⟩
  · exact (used b w h.cell0).mono fun e w' hh => ⟨hh.1, by rw [hh.2]; exact ⟨h, Below.refl B _, Lib.OthersKept.refl _ _ w⟩⟩
theorem kind {W : World} {B : Nat} {e : TypeId} {v : Value} {n : Nat} {xs : List Value} (h : W.ownsRow B e 1 v n xs) : ∀ g, v.ownBlock = some g → ∃ c fz, W.heap[g]? = some (.cells c e fz) := by
  intro g hg
  rcases h.2 with ⟨rfl, _⟩ | ⟨g', cap, cur, rfl, _, hgg, _⟩
  · simp [Value.ownBlock] at hg
  · simp [Value.ownBlock] at hg
    subst hg
    exact ⟨cur, _, hgg⟩
theorem blk_lt {W : World} {b : Nat} {o : Obj} (h : W.heap[b]? = some o) : b < W.heap.size := by
  rcases Nat.lt_or_ge b W.heap.size with h' | h'
  · exact h'
  · simp [Array.getElem?_eq_none h'] at h
set_option maxHeartbeats 2000000 in
set_option maxRecDepth 100000 in
theorem writeByte (B b : Nat) (bs : List Value) (c : Int) (w : World) (h : Lib.IsBuilder 71 5 B b bs w) (hlen : bs.length + 1 ≤ 1000000) (hBw : B ≤ w.heap.size) :
    Calls Tryz.prog 88 #[.pointer (some ⟨b, 0, none⟩), .int .u8 c] w fun e w' => e = .returned .nilIface ∧ (Lib.BuilderAt 71 5 B b (.pointer (some ⟨b, 0, none⟩)) (bs ++ [.int .u8 c]) w' ∧ Below B w w' ∧ Lib.OthersKept 5 (some b) w w') := by
  obtain ⟨i0, hi, hz0, hz1, hz2⟩ := info_parts byte
  go_enter Tryz.func88, Tryz.ntmps88
  go_wp2_with fail
  refine (check B b bs _ h).mono ?_
  rintro e w1 ⟨rfl, ⟨hB, v, hbk, hown, hne⟩, hb1, hk1⟩
  have c0 : w1.cell? ⟨b, 0, none⟩ = some (.pointer (some ⟨b, 0, none⟩)) := by rw [Lib.cell_of_heap hbk]; rfl
  have c1 : w1.cell? ⟨b, 1, none⟩ = some v := by rw [Lib.cell_of_heap hbk]; rfl
  have hlt := blk_lt hbk
  go_wp2_with (at_builtin; refine wpList_append_own _ rfl _ _ 69 rfl B 5 i0 (.int .u8 0) 1 1 Tryz.underlying69 hi hz0 hz1 hz2 rfl (by decide) _ _ _ rfl (hown.alloc _) ⟨w1.heap.size, 0, none⟩ 1 1 [.int .u8 c] rfl rfl ?c1 ?c2 ?c3 ?c4 ?c5 ?_)
  case c1 =>
    intro j u hj
    match j, hj with
    | 0, hj => simp at hj; subst hj; simp [Addr.add]
  case c2 => intro u hu; simp at hu; subst hu; rfl
  case c3 => unfold maxLen; omega
  case c4 => omega
  case c5 => have := hb1.size; simp; omega
  intro v' w2 hown' hgrow _
  have hb2 : w2.heap[b]? = some (.cells #[.pointer (some ⟨b, 0, none⟩), v] 71 (0, 0)) := by
    rw [hgrow.block b (by simp; omega) (fun e => hne e.symm), Lib.alloc_old w1 _ b hlt]
    exact hbk
  have d0 : w2.cell? ⟨b, 0, none⟩ = some (.pointer (some ⟨b, 0, none⟩)) := by rw [Lib.cell_of_heap hb2]; rfl
  have d1 : w2.cell? ⟨b, 1, none⟩ = some v := by rw [Lib.cell_of_heap hb2]; rfl
  have f1 : w2.frozen? ⟨b, 1, none⟩ = false := Lib.frozen_of_heap hb2 1
  obtain ⟨p', c', rfl⟩ := lown_slice hown'
  go_wp2
  go_ret
  refine ⟨rfl, ?_, ?_, ((hk1.alloc _).grown hgrow (kind (hown.alloc _))).setCell ⟨b, 1, none⟩ rfl _⟩
  · exact Lib.BuilderAt.put (T := 71) (e := 5) hB hb2 (bs' := bs ++ [.int .u8 c]) (by simpa using hown') (by decide)
  · exact ((hb1.alloc (by have := hb1.size; omega) _).grown hgrow (by have := hb1.size; simp; omega) (fun k hk => (hown.lt k hk).1)).setCell (p := ⟨b, 1, none⟩) hB _
set_option maxHeartbeats 2000000 in
set_option maxRecDepth 100000 in
theorem writeStringK (B b : Nat) (bs : List Value) (s : ByteArray) (w : World) (h : Lib.IsBuilder 71 5 B b bs w) (hlen : bs.length + s.size ≤ 1000000) (hBw : B ≤ w.heap.size) :
    Calls Tryz.prog 58 #[.pointer (some ⟨b, 0, none⟩), .string s] w fun e w' => e = .returned (.tuple #[.int .i64 s.size, .nilIface]) ∧ (Lib.BuilderAt 71 5 B b (.pointer (some ⟨b, 0, none⟩)) (bs ++ Lib.strCells s) w' ∧ Below B w w' ∧ Lib.OthersKept 5 (some b) w w') := by
  obtain ⟨i0, hi, hz0, hz1, hz2⟩ := info_parts byte
  go_enter Tryz.func58, Tryz.ntmps58
  go_wp2_with fail
  refine (check B b bs _ h).mono ?_
  rintro e w1 ⟨rfl, ⟨hB, v, hbk, hown, hne⟩, hb1, hk1⟩
  have c0 : w1.cell? ⟨b, 0, none⟩ = some (.pointer (some ⟨b, 0, none⟩)) := by rw [Lib.cell_of_heap hbk]; rfl
  have c1 : w1.cell? ⟨b, 1, none⟩ = some v := by rw [Lib.cell_of_heap hbk]; rfl
  have hlt := blk_lt hbk
  go_wp2_with (at_builtin; refine Lib.wpList_append_own_string _ rfl _ _ 69 9 rfl B 5 i0 Tryz.underlying69 Tryz.underlying9 hi hz0 hz1 hz2 _ _ _ rfl hown s rfl ?c3 ?c4 ?c5 ?_)
  case c3 => unfold maxLen; omega
  case c4 => omega
  case c5 => have := hb1.size; omega
  intro v' w2 hown' hgrow _
  have hb2 : w2.heap[b]? = some (.cells #[.pointer (some ⟨b, 0, none⟩), v] 71 (0, 0)) := by
    rw [hgrow.block b hlt (fun e => hne e.symm)]
    exact hbk
  have d0 : w2.cell? ⟨b, 0, none⟩ = some (.pointer (some ⟨b, 0, none⟩)) := by rw [Lib.cell_of_heap hb2]; rfl
  have d1 : w2.cell? ⟨b, 1, none⟩ = some v := by rw [Lib.cell_of_heap hb2]; rfl
  have f1 : w2.frozen? ⟨b, 1, none⟩ = false := Lib.frozen_of_heap hb2 1
  obtain ⟨p', c', rfl⟩ := lown_slice hown'
  go_wp2
  go_ret2
  refine ⟨rfl, ?_, ?_, (hk1.grown hgrow (kind hown)).setCell ⟨b, 1, none⟩ rfl _⟩
  · exact Lib.BuilderAt.put (T := 71) (e := 5) hB hb2 (bs' := bs ++ Lib.strCells s) (by simpa [Lib.strCells_length] using hown') (by decide)
  · exact (hb1.grown hgrow (by have := hb1.size; omega) (fun k hk => (hown.lt k hk).1)).setCell (p := ⟨b, 1, none⟩) hB _
theorem writeString (B b : Nat) (bs : List Value) (s : ByteArray) (w : World) (h : Lib.IsBuilder 71 5 B b bs w) (hlen : bs.length + s.size ≤ 1000000) (hBw : B ≤ w.heap.size) :
    Calls Tryz.prog 58 #[.pointer (some ⟨b, 0, none⟩), .string s] w fun e w' => e = .returned (.tuple #[.int .i64 s.size, .nilIface]) ∧ (Lib.BuilderAt 71 5 B b (.pointer (some ⟨b, 0, none⟩)) (bs ++ Lib.strCells s) w' ∧ Below B w w') :=
  (writeStringK B b bs s w h hlen hBw).mono fun e w' hh => ⟨hh.1, hh.2.1, hh.2.2.1⟩
theorem alloc {T e : TypeId} {B b : Nat} {p : Value} {bs : List Value} {w : World} (h : Lib.BuilderAt T e B b p bs w) (o : Obj) : Lib.BuilderAt T e B b p bs (w.alloc o) := by
  have hlt := h.lt
  obtain ⟨hB, v, hb, hown, hne⟩ := h
  exact ⟨hB, v, by rw [Lib.alloc_old w o b hlt]; exact hb, hown.alloc o, hne⟩
theorem is_alloc {T e : TypeId} {B b : Nat} {bs : List Value} {w : World} (h : Lib.IsBuilder T e B b bs w) (o : Obj) : Lib.IsBuilder T e B b bs (w.alloc o) := by
  rcases h with h | h
  · exact .inl (alloc h o)
  · exact .inr (alloc h o)
theorem cells_app (l : List UInt8) (s : ByteArray) : Lib.byteCells l ++ Lib.strCells s = Lib.byteCells (l ++ s.data.toList) := by
  simp [Lib.byteCells, Lib.strCells]
theorem cells_one (l : List UInt8) : Lib.byteCells l ++ [.int .u8 32] = Lib.byteCells (l ++ [32]) := by
  simp [Lib.byteCells]
end Bld
end Go.Proofs.YtkoejkpjkcejcaaGreatDoor
namespace Go.Proofs.YtkoejkpjkcejcaaGreatDoor
open Go.RowKit Go.BigFrame
set_option linter.unusedVariables false

abbrev IsB (B b : Nat) (acc : List UInt8) (w : World) : Prop := Lib.IsBuilder 71 5 B b (Lib.byteCells acc) w
/-- What is kept: what lay below B, and all but the Builder and bytes. -/
def Keeps (B b : Nat) (w w' : World) : Prop := Below B w w' ∧ Lib.OthersKept 5 (some b) w w'
theorem Keeps.trans {B b : Nat} {w w1 w2 : World} (h : Keeps B b w w1) (k : Keeps B b w1 w2) : Keeps B b w w2 := ⟨h.1.trans k.1, h.2.trans k.2⟩
theorem Keeps.alloc {B b : Nat} {w w1 : World} (h : Keeps B b w w1) (hB : B ≤ w1.heap.size) (o : Obj) : Keeps B b w (w1.alloc o) := ⟨h.1.alloc hB o, h.2.alloc o⟩
theorem IsB.lt {B b : Nat} {acc : List UInt8} {w : World} (h : IsB B b acc w) : b < w.heap.size ∧ B ≤ b := by
  rcases h with h | h
  · exact ⟨h.lt, h.1⟩
  · exact ⟨h.lt, h.1⟩
theorem IsB.on {B b : Nat} {acc : List UInt8} {w w' : World} (h : IsB B b acc w) (hb : Below w.heap.size w w') : IsB B b acc w' := by
  have go : ∀ p, Lib.BuilderAt 71 5 B b p (Lib.byteCells acc) w → Lib.BuilderAt 71 5 B b p (Lib.byteCells acc) w' := fun p h => by
    have hlt := h.lt
    obtain ⟨hB, v, hbk, hown, hne⟩ := h
    exact ⟨hB, v, by rw [hb.block b hlt]; exact hbk, lown_below hown hb, hne⟩
  rcases h with h | h
  · exact .inl (go _ h)
  · exact .inr (go _ h)
theorem keeps_below {B b : Nat} {w w' : World} (h : Below w.heap.size w w') (hB : B ≤ w.heap.size) : Keeps B b w w' :=
  ⟨h.mono hB, fun k o hk _ _ => by rw [h.block k (Array.getElem?_eq_some_iff.1 hk).1]; exact hk⟩
/-- A new block of an expression, behind what is kept. -/
theorem Keeps.box {B b : Nat} {w w' : World} {E : Array Value} (h : Keeps B b (w.alloc (.cells E 26)) w') (hb : b < w.heap.size) : (∀ i, w'.cell? ⟨w.heap.size, i, none⟩ = E[i]?) ∧ w.heap.size < w'.heap.size := by
  have h1 := h.2 w.heap.size _ (heap_alloc_new w _) (by simp; omega) (fun c fz e => by simp at e)
  exact ⟨fun i => Lib.cell_of_heap h1 i, (Array.getElem?_eq_some_iff.1 h1).1⟩
theorem ExIn.keeps {B b : Nat} {w w' : World} {lo : Nat → Prop} {v : Value} {x : Ex} (h : ExIn w lo v x) (hk : Keeps B b w w') (hlo : ∀ k, lo k → k < B) : ExIn w' lo v x :=
  ExIn.keep hk.1.size (fun k o hl _ => hk.1.cell (p := ⟨k, o, none⟩) (hlo k hl)) x v h
theorem ws (B b : Nat) (acc : List UInt8) (s : ByteArray) (w : World) (h : IsB B b acc w) (hlen : acc.length + s.size ≤ 900000) (hBw : B ≤ w.heap.size) :
    Calls Tryz.prog 58 #[.pointer (some ⟨b, 0, none⟩), .string s] w fun e w' => e = .returned (.tuple #[.int .i64 s.size, .nilIface]) ∧ IsB B b (acc ++ s.data.toList) w' ∧ Keeps B b w w' :=
  (Bld.writeStringK B b _ s w h (by rw [Lib.byteCells_length]; omega) hBw).mono fun e w' hh => ⟨hh.1, .inr (by rw [← Bld.cells_app]; exact hh.2.1), hh.2.2⟩
theorem cells_byte (l : List UInt8) (c : UInt8) : Lib.byteCells l ++ [.int .u8 (c.toNat : Int)] = Lib.byteCells (l ++ [c]) := by
  simp [Lib.byteCells]
theorem wb (B b : Nat) (acc : List UInt8) (c : UInt8) (k : Int) (hk : (c.toNat : Int) = k) (w : World) (h : IsB B b acc w) (hlen : acc.length ≤ 900000) (hBw : B ≤ w.heap.size) :
    Calls Tryz.prog 88 #[.pointer (some ⟨b, 0, none⟩), .int .u8 k] w fun e w' => e = .returned .nilIface ∧ IsB B b (acc ++ [c]) w' ∧ Keeps B b w w' :=
  (Bld.writeByte B b _ k w h (by rw [Lib.byteCells_length]; omega) hBw).mono fun e w' hh => ⟨hh.1, .inr (by rw [← cells_byte, hk]; exact hh.2.1), hh.2.2⟩
/-- What write does with an expression. -/
def WrAt (x : Ex) : Prop := ∀ (B b : Nat) (lo : Nat → Prop) (v : Value) (acc : List UInt8) (w : World), (∀ W, Below B w W → Env W) → (∀ k, lo k → k < B) → ExIn w lo v x → IsB B b acc w → acc.length + (txP x).length ≤ 900000 →
    Calls Tryz.prog 32 #[.pointer (some ⟨b, 0, none⟩), v] w fun e w' => e = .returned (.tuple #[]) ∧ IsB B b (acc ++ txP x) w' ∧ Keeps B b w w'
set_option maxHeartbeats 4000000 in
set_option maxRecDepth 20000 in
theorem writeAhead_any (S : ByteArray) (hS : S.size ≤ 10) (y : Ex) (ih : WrAt y) (B b : Nat) (lo : Nat → Prop) (v : Value) (acc : List UInt8) (w : World) (henv : ∀ W, Below B w W → Env W) (hlo : ∀ k, lo k → k < B) (hy : ExIn w lo v y) (hb : IsB B b acc w) (hlen : acc.length + (aheadT S.data.toList (txP y)).length ≤ 900000) :
    Calls Tryz.prog 60 #[.pointer (some ⟨b, 0, none⟩), .string S, v] w fun e w' => e = .returned (.tuple #[]) ∧ IsB B b (acc ++ aheadT S.data.toList (txP y)) w' ∧ Keeps B b w w' := by
  obtain ⟨o1, n1, t1, k1, s1, p1, m1, c1, a1, rfl⟩ := hy.agg
  have hlt := hb.lt
  have hL : (aheadT S.data.toList (txP y)).length = S.size + (txP y).length + 3 := by
    simp [aheadT]; omega
  have hR : Hid (acc ++ [40] ++ S.data.toList ++ [32] ++ txP y ++ [41] = acc ++ aheadT S.data.toList (txP y)) := by
    show _ = _
    simp [aheadT]
  have hSl : S.data.toList.length = S.size := by simp
  generalize acc ++ aheadT S.data.toList (txP y) = R at hR
  have K0 : Keeps B b (w.alloc (.cells #[.string o1, .string n1, .int .i64 t1, .int .i64 k1, .string s1, .slice p1 m1 c1, .int .i64 a1] 26)) (w.alloc (.cells #[.string o1, .string n1, .int .i64 t1, .int .i64 k1, .string s1, .slice p1 m1 c1, .int .i64 a1] 26)) := ⟨Below.refl _ _, Lib.OthersKept.refl _ _ _⟩
  have KW : Keeps B b w (w.alloc (.cells #[.string o1, .string n1, .int .i64 t1, .int .i64 k1, .string s1, .slice p1 m1 c1, .int .i64 a1] 26)) := Keeps.alloc ⟨Below.refl _ _, Lib.OthersKept.refl _ _ _⟩ (by omega) _
  have hb0 : IsB B b acc (w.alloc (.cells #[.string o1, .string n1, .int .i64 t1, .int .i64 k1, .string s1, .slice p1 m1 c1, .int .i64 a1] 26)) := hb.on ((Below.refl _ w).alloc (Nat.le_refl _) _)
  rw [hL] at hlen
  clear hL
  go_enter Tryz.func60, Tryz.ntmps60
  go_wp2_with fail
  refine (wb B b acc 40 40 rfl _ hb0 (by omega) (by simp; omega)).mono ?_
  rintro e w1 ⟨rfl, hb1, k1w⟩
  have K1 := K0.trans k1w
  have hz1 := hb1.lt
  clear k1w
  go_wp2_with fail
  refine (ws B b (acc ++ [40]) S _ hb1 (by simp; omega) (by omega)).mono ?_
  rintro e w2 ⟨rfl, hb2, k2w⟩
  have K2 := K1.trans k2w
  have hz2 := hb2.lt
  clear k2w K1 hb1
  go_wp2_with fail
  refine (wb B b _ 32 32 rfl _ hb2 (by simp; omega) (by omega)).mono ?_
  rintro e w3 ⟨rfl, hb3, k3w⟩
  have K3 := K2.trans k3w
  have hz3 := hb3.lt
  obtain ⟨hB, hl3⟩ := K3.box hlt.1
  have g0 : w3.cell? ⟨w.heap.size, 0, none⟩ = some (.string o1) := hB 0
  have g1 : w3.cell? ⟨w.heap.size, 1, none⟩ = some (.string n1) := hB 1
  have g2 : w3.cell? ⟨w.heap.size, 2, none⟩ = some (.int .i64 t1) := hB 2
  have g3 : w3.cell? ⟨w.heap.size, 3, none⟩ = some (.int .i64 k1) := hB 3
  have g4 : w3.cell? ⟨w.heap.size, 4, none⟩ = some (.string s1) := hB 4
  have g5 : w3.cell? ⟨w.heap.size, 5, none⟩ = some (.slice p1 m1 c1) := hB 5
  have g6 : w3.cell? ⟨w.heap.size, 6, none⟩ = some (.int .i64 a1) := hB 6
  have KK3 := KW.trans K3
  have cY := ih B b lo _ _ w3 (fun W hW => henv W (KK3.1.trans hW)) hlo (hy.keeps KK3 hlo) hb3 (by simp; omega)
  clear k3w K2 hb2 hB
  go_wp2_with fail
  refine cY.mono ?_
  rintro e w4 ⟨rfl, hb4, k4w⟩
  have KK4 := KK3.trans k4w
  have hz4 := hb4.lt
  clear k4w KK3 cY hb3 g0 g1 g2 g3 g4 g5 g6
  go_wp2_with fail
  refine (wb B b _ 41 41 rfl _ hb4 (by simp; omega) (by omega)).mono ?_
  rintro e w5 ⟨rfl, hb5, k5w⟩
  have KK5 := KK4.trans k5w
  rw [hR.out] at hb5
  clear k5w KK4 hb4
  go_wp2
  go_end0
  exact ⟨rfl, hb5, KK5⟩
set_option maxHeartbeats 8000000 in
set_option maxRecDepth 20000 in
theorem writeArgs_any (S : ByteArray) (hS : S.size ≤ 30) (l : List Ex) (ih : ∀ y ∈ l, WrAt y) (hlm : l.length ≤ maxLen) (B b : Nat) (lo : Nat → Prop) (p : Option Addr) (c : Nat) (acc : List UInt8) (w : World) (henv : ∀ W, Below B w W → Env W) (hlo : ∀ k, lo k → k < B) (hp : l.length = 0 ∨ ∃ ba oa, p = some ⟨ba, oa, none⟩ ∧ ba < w.heap.size ∧ lo ba ∧ ExsIn w lo ba oa l) (hb : IsB B b acc w) (hlen : acc.length + (argsT S.data.toList (l.map txP)).length ≤ 900000) :
    Calls Tryz.prog 59 #[.pointer (some ⟨b, 0, none⟩), .slice p l.length c, .string S] w fun e w' => e = .returned (.tuple #[]) ∧ IsB B b (acc ++ argsT S.data.toList (l.map txP)) w' ∧ Keeps B b w w' := by
  have hlt := hb.lt
  have hL : (argsT S.data.toList (l.map txP)).length = (inter S.data.toList (l.map txP)).length + 2 := by simp [argsT]
  have hR : Hid (acc ++ [40] ++ inter S.data.toList (l.map txP) ++ [41] = acc ++ argsT S.data.toList (l.map txP)) := by
    show _ = _
    simp [argsT]
  have hSl : S.data.toList.length = S.size := by simp
  rw [hL] at hlen
  clear hL
  generalize acc ++ argsT S.data.toList (l.map txP) = R at hR
  have HT : Hid (∀ k, k ≤ l.length → (inter S.data.toList ((l.map txP).take k)).length ≤ (inter S.data.toList (l.map txP)).length) := fun k hk => inter_take_len k (by simpa using hk)
  have HI : Aside (∀ y ∈ l, WrAt y) := ih
  have HP : Aside (l.length = 0 ∨ ∃ ba oa, p = some ⟨ba, oa, none⟩ ∧ ba < w.heap.size ∧ lo ba ∧ ExsIn w lo ba oa l) := hp
  unfold maxLen at hlm
  clear ih hp
  go_enter Tryz.func59, Tryz.ntmps59
  go_wp2_with fail
  refine (wb B b acc 40 40 rfl _ hb (by omega) (by omega)).mono ?_
  rintro e w1 ⟨rfl, hb1, k1w⟩
  go_wp2
  go_loopg [6, 7, 12] l.length (fun gg _ _ s12 wr => ∃ (kk : Nat) (ac : List UInt8), kk ≤ l.length ∧ l.length - kk ≤ gg ∧ s12 = .int .i64 kk ∧ Aside (Keeps B b w wr) ∧ Aside (IsB B b ac wr) ∧ Hid (ac = acc ++ [40] ++ inter S.data.toList ((l.map txP).take kk)))
  case atStart => exact ⟨0, acc ++ [40], Nat.zero_le _, by omega, rfl, k1w, hb1, (show Hid _ by show _ = _; simp [inter])⟩
  case round =>
    obtain ⟨kk, ac, hkk, hg, rfl, KW, hbr, HA⟩ := hrel
    have hz := hbr.out.lt
    have hal : ac.length ≤ acc.length + 1 + (inter S.data.toList (l.map txP)).length := by
      rw [HA.out]
      have := HT.out kk hkk
      simp only [List.length_append, List.length_singleton]
      omega
    by_cases hlt2 : kk < l.length
    · have hltz : (kk : Int) < (l.length : Int) := by omega
      have k0 : (0 : Int) ≤ (kk : Int) := by omega
      rcases HP.out with h | ⟨ba, oa, rfl, hbl, hlb, hE⟩
      · exact absurd h (by omega)
      obtain ⟨v0, v1, v2, v3, v4, v5, v6, e0, e1, e2, e3, e4, e5, e6, hy⟩ := exsIn_at w lo ba l oa hE kk hlt2
      obtain ⟨o1, n1, t1, k1, s1, p1, m1, c1, a1, huu⟩ := hy.agg
      injection huu with huu
      simp only [Array.mk.injEq, List.cons.injEq, and_true] at huu
      obtain ⟨rfl, rfl, rfl, rfl, rfl, rfl, rfl⟩ := huu
      have kA : ∀ o, wr.cell? ⟨ba, o, none⟩ = w.cell? ⟨ba, o, none⟩ := fun o => KW.out.1.cell (p := ⟨ba, o, none⟩) (hlo ba hlb)
      rw [← kA] at e0 e1 e2 e3 e4 e5 e6
      have hblr : ba < wr.heap.size := by have := KW.out.1.size; omega
      have hW := HI.out _ (List.getElem_mem hlt2)
      have HN : Hid (inter S.data.toList ((l.map txP).take (kk + 1)) = (if kk = 0 then [] else inter S.data.toList ((l.map txP).take kk) ++ S.data.toList) ++ txP l[kk]) := by
        show _ = _
        rw [inter_take (by simpa using hlt2)]
        simp
      have hN2 := HT.out (kk + 1) (by omega)
      rw [HN.out] at hN2
      generalize l[kk] = y at hy hW HN hN2
      clear hE kA
      have KX : Keeps B b w (wr.alloc (.cells #[.string o1, .string n1, .int .i64 t1, .int .i64 k1, .string s1, .slice p1 m1 c1, .int .i64 a1] 26)) := KW.out.alloc (by omega) _
      have hbx : IsB B b ac (wr.alloc (.cells #[.string o1, .string n1, .int .i64 t1, .int .i64 k1, .string s1, .slice p1 m1 c1, .int .i64 a1] 26)) := hbr.out.on ((Below.refl _ _).alloc (Nat.le_refl _) _)
      have K0 : Keeps B b (wr.alloc (.cells #[.string o1, .string n1, .int .i64 t1, .int .i64 k1, .string s1, .slice p1 m1 c1, .int .i64 a1] 26)) (wr.alloc (.cells #[.string o1, .string n1, .int .i64 t1, .int .i64 k1, .string s1, .slice p1 m1 c1, .int .i64 a1] 26)) := ⟨Below.refl _ _, Lib.OthersKept.refl _ _ _⟩
      by_cases h0 : kk = 0
      · have hz0 : ¬ (0 : Int) < (kk : Int) := by omega
        have HA2 : Hid (ac ++ txP y = acc ++ [40] ++ inter S.data.toList ((l.map txP).take (kk + 1))) := by
          show _ = _
          rw [HN.out, if_pos h0, HA.out, h0]
          simp [inter]
        have hl9 : ac.length + (txP y).length ≤ 900000 := by
          rw [HA.out, h0]
          rw [if_pos h0] at hN2
          simp only [List.take_zero, inter, List.append_nil, List.length_append, List.length_singleton, List.nil_append] at hN2 ⊢
          omega
        have cY := hW B b lo _ ac _ (fun W hW => henv W (KX.1.trans hW)) hlo (hy.keeps KX hlo) hbx hl9
        clear HA HN hN2 h0 hal
        go_wp2_with fail
        refine cY.mono ?_
        rintro e w4 ⟨rfl, hb4, k4w⟩
        have K4 : Aside (Keeps B b w w4) := KX.trans k4w
        clear cY k4w KX hbx K0 e0 e1 e2 e3 e4 e5 e6
        go_wp2
        go_roundg (l.length - (kk + 1))
        case measure => omega
        case rel => exact ⟨kk + 1, ac ++ txP y, by omega, by omega, by go_num, K4, hb4, HA2⟩
      · have hz0 : (0 : Int) < (kk : Int) := by omega
        have HA2 : Hid (ac ++ S.data.toList ++ txP y = acc ++ [40] ++ inter S.data.toList ((l.map txP).take (kk + 1))) := by
          show _ = _
          rw [HN.out, if_neg h0, HA.out]
          simp
        have hl9 : ac.length + S.size + (txP y).length ≤ 900000 := by
          have := congrArg List.length HA2.out
          rw [if_neg h0] at hN2
          rw [HN.out, if_neg h0] at this
          simp only [List.length_append, List.length_singleton] at this hN2
          omega
        clear HA HN hN2 h0 hal
        go_wp2_with fail
        refine (ws B b ac S _ hbx (by omega) (by simp; omega)).mono ?_
        rintro e w3 ⟨rfl, hb3, k3w⟩
        have K3 := K0.trans k3w
        have KK3 := KX.trans k3w
        obtain ⟨hB, hl3⟩ := K3.box hz.1
        have g0 : w3.cell? ⟨wr.heap.size, 0, none⟩ = some (.string o1) := hB 0
        have g1 : w3.cell? ⟨wr.heap.size, 1, none⟩ = some (.string n1) := hB 1
        have g2 : w3.cell? ⟨wr.heap.size, 2, none⟩ = some (.int .i64 t1) := hB 2
        have g3 : w3.cell? ⟨wr.heap.size, 3, none⟩ = some (.int .i64 k1) := hB 3
        have g4 : w3.cell? ⟨wr.heap.size, 4, none⟩ = some (.string s1) := hB 4
        have g5 : w3.cell? ⟨wr.heap.size, 5, none⟩ = some (.slice p1 m1 c1) := hB 5
        have g6 : w3.cell? ⟨wr.heap.size, 6, none⟩ = some (.int .i64 a1) := hB 6
        have cY := hW B b lo _ _ w3 (fun W hW => henv W (KK3.1.trans hW)) hlo (hy.keeps KK3 hlo) hb3 (by simp only [List.length_append]; omega)
        clear k3w K3 K0 hB KX hbx e0 e1 e2 e3 e4 e5 e6
        go_wp2_with fail
        refine cY.mono ?_
        rintro e w4 ⟨rfl, hb4, k4w⟩
        have K4 : Aside (Keeps B b w w4) := KK3.trans k4w
        clear cY k4w KK3 hb3 g0 g1 g2 g3 g4 g5 g6
        go_wp2
        go_roundg (l.length - (kk + 1))
        case measure => omega
        case rel => exact ⟨kk + 1, ac ++ S.data.toList ++ txP y, by omega, by omega, by go_num, K4, hb4, HA2⟩
    · have hltz : ¬ (kk : Int) < (l.length : Int) := by omega
      have hF : Hid (ac ++ [41] = R) := by
        show _ = _
        rw [← hR.out, HA.out, List.take_of_length_le (by simp; omega)]
      clear HA
      go_wp2_with fail
      refine (wb B b ac 41 41 rfl _ hbr.out (by omega) (by omega)).mono ?_
      rintro e w5 ⟨rfl, hb5, k5w⟩
      rw [hF.out] at hb5
      have K5 := KW.out.trans k5w
      clear k5w
      go_wp2
      go_end0
      exact ⟨rfl, hb5, K5⟩
end Go.Proofs.YtkoejkpjkcejcaaGreatDoor
namespace Go.Proofs.YtkoejkpjkcejcaaGreatDoor
open Go.RowKit Go.BigFrame
set_option linter.unusedVariables false

def inI (n : Int) : Prop := -9223372036854775808 ≤ n ∧ n ≤ 9223372036854775807
theorem apL_len (x : List UInt8) : (apL x opsL).2 = true → x.length ≤ 3 := by
  have h : ∀ l : List (List UInt8 × Int), (∀ o ∈ l, o.1.length ≤ 3) → (apL x l).2 = true → x.length ≤ 3 := fun l => by
    induction l with
    | nil => intro _ h; simp [apL] at h
    | cons o os ih =>
      intro ho h
      rw [apL] at h
      split at h
      · rename_i e
        rw [← e]; exact ho o (by simp)
      · exact ih (fun o h => ho o (by simp [h])) h
  exact h opsL (by decide)
theorem head_of {l : List Ex} (h : l.length = 1) : ∃ y, l = [y] := by
  match l, h with
  | [y], _ => exact ⟨y, rfl⟩
theorem nameT_len {l : List UInt8} (h : nameT l = true) : l.length ≤ 8 := by
  simp only [nameT, lettersB, Bool.and_eq_true, decide_eq_true_eq] at h
  omega
theorem name_len {op nm vs : ByteArray} {vt vn pos : Int} {l : List Ex} (h : nodeE (.node op nm vt vn vs pos l) = 0) (hc : op.data.toList = [99, 111, 108]) : nm.data.toList.length ≤ 90 := by
  have h1 : nodeE (.node op nm vt vn vs pos l) = nodeB (apL op.data.toList opsL).2 (op.toList == [99, 111, 108]) (nameT nm.data.toList) ((l.length : Int) != (apL op.data.toList opsL).1) (!(nm.toList == [])) (op.toList == [118, 97, 108]) (!((vt == 0) && ((vn == 0) && (vs.toList == [])))) (ckV vt vn vs.data.toList) := rfl
  rw [h1, nodeB] at h
  have hb : (op.toList == [99, 111, 108]) = true := by rw [Lib.toList_data]; simpa using hc
  rw [hb] at h
  cases hn : nameT nm.data.toList
  · rw [hn, if_pos (by simp)] at h
    exact absurd h (by decide)
  · have := nameT_len hn
    omega
theorem inter_len (bt : List UInt8) : ∀ ts : List (List UInt8), (inter bt ts).length ≤ (ts.map List.length).sum + bt.length * ts.length
  | [] => by simp [inter]
  | [t] => by simp [inter]
  | t :: u :: ts => by
    have ih := inter_len bt (u :: ts)
    simp only [inter, List.length_append, List.map_cons, List.sum_cons, List.length_cons, Nat.mul_add, Nat.mul_one] at ih ⊢
    omega
theorem pres_sum (d : Nat) : ∀ l : List Ex, (Ex.pres d l).length = (l.map fun y => (y.pre d).length).sum
  | [] => by rw [Ex.pres]; rfl
  | x :: xs => by rw [Ex.pres, List.length_append, pres_sum d xs]; rfl
theorem sum_le {l : List Ex} {f g : Ex → Nat} (h : ∀ y ∈ l, f y ≤ 100 * g y) : (l.map f).sum ≤ 100 * (l.map g).sum := by
  induction l with
  | nil => simp
  | cons x xs ih =>
    have h1 := h x (by simp)
    have h2 := ih (fun y hy => h y (by simp [hy]))
    simp only [List.map_cons, List.sum_cons]
    omega
theorem prS_len {t n : Int} {l : List UInt8} (hn : inI n) : (prS t n l).length ≤ 90 := by
  rw [prS]
  split
  · rename_i h
    rcases chk_type h with ⟨rfl, _⟩ | ⟨rfl, _, hb⟩ | ⟨rfl, rfl, hl, _⟩
    · rw [shown, if_pos rfl]
      have := Lib.itoa_length_le n hn.1 hn.2
      omega
    · rw [shown, if_neg (by decide), if_pos rfl]
      split <;> decide
    · rw [shown, if_neg (by decide), if_neg (by decide)]
      have := esc_len l
      simp
      omega
  · simp
theorem tx_len : ∀ (x : Ex) (d : Nat), (∀ q ∈ x.pre d, nodeE q.1 = 0) → (∀ q ∈ x.pre d, inI q.1.vn) → (txP x).length ≤ 100 * (x.pre d).length := by
  refine Ex.ind fun op nm vt vn vs pos l ih d hpre hin => ?_
  have hself := hpre (.node op nm vt vn vs pos l, d) (by rw [Ex.pre]; exact List.mem_cons_self ..)
  have hvn : inI vn := hin (.node op nm vt vn vs pos l, d) (by rw [Ex.pre]; exact List.mem_cons_self ..)
  have hsub : ∀ y ∈ l, ∀ q ∈ y.pre (d + 1), q ∈ (Ex.node op nm vt vn vs pos l).pre d := fun y hy q hq => by
    rw [Ex.pre]; exact List.mem_cons_of_mem _ (pres_mem hy q hq)
  have hI : ∀ y ∈ l, (txP y).length ≤ 100 * (y.pre (d + 1)).length := fun y hy => ih y hy (d + 1) (fun q hq => hpre q (hsub y hy q hq)) (fun q hq => hin q (hsub y hy q hq))
  obtain ⟨ha1, ha2, _⟩ := node_ok hself
  have ha2' : (l.length : Int) = (apL op.data.toList opsL).1 := ha2
  have ha1' : (apL op.data.toList opsL).2 = true := ha1
  have hol := apL_len _ ha1'
  have hl3 : l.length ≤ 3 := by have := (apL_le _ ha1').1; omega
  have hsum := sum_le hI
  have hp : ((Ex.node op nm vt vn vs pos l).pre d).length = 1 + (Ex.pres (d + 1) l).length := by rw [Ex.pre, List.length_cons]; omega
  rw [pres_sum] at hp
  rw [hp]
  have hinter : ∀ bt : List UInt8, bt.length ≤ 5 → (inter bt (l.map txP)).length ≤ 15 + 100 * (l.map fun y => (y.pre (d + 1)).length).sum := fun bt hb => by
    have h := inter_len bt (l.map txP)
    rw [List.map_map, List.length_map] at h
    have h2 : (List.map (List.length ∘ txP) l).sum ≤ 100 * (l.map fun y => (y.pre (d + 1)).length).sum := hsum
    have h3 : bt.length * l.length ≤ 15 := Nat.le_trans (Nat.mul_le_mul hb hl3) (by decide)
    omega
  have hhead : ((l.map txP).headD []).length ≤ 100 * (l.map fun y => (y.pre (d + 1)).length).sum := by
    cases l with
    | nil => simp
    | cons y ys =>
      have := hI y (by simp)
      simp only [List.map_cons, List.headD_cons, List.sum_cons]
      omega
  rw [txP, txsP_map]
  split
  · have := prS_len (t := vt) (l := vs.data.toList) hvn; omega
  split
  · rename_i h2
    have hnm : nm.data.toList.length ≤ 90 := name_len hself h2
    omega
  split
  · have := hinter [44, 32] (by decide)
    simp only [argsT, List.length_append, List.length_cons, List.length_nil]
    omega
  split
  · simp only [aheadT, List.length_append, List.length_cons, List.length_nil]
    omega
  split
  · simp only [aheadT, List.length_append, List.length_cons, List.length_nil]
    omega
  · have := hinter (32 :: (op.data.toList ++ [32])) (by rw [List.length_cons, List.length_append, List.length_singleton]; omega)
    simp only [argsT, List.length_append, List.length_cons, List.length_nil]
    omega
set_option maxHeartbeats 8000000 in
set_option maxRecDepth 20000 in
theorem write_any : ∀ (x : Ex) (d : Nat), (∀ q ∈ x.pre d, nodeE q.1 = 0) → (∀ q ∈ x.pre d, inI q.1.vn) → WrAt x := by
  refine Ex.ind fun op nm vt vn vs pos l ih d hpre hin => ?_
  intro B b lo v acc w henv hlo hx hb hlen
  have hself := hpre (.node op nm vt vn vs pos l, d) (by rw [Ex.pre]; exact List.mem_cons_self ..)
  have hvn : inI vn := hin (.node op nm vt vn vs pos l, d) (by rw [Ex.pre]; exact List.mem_cons_self ..)
  have hsub : ∀ y ∈ l, ∀ q ∈ y.pre (d + 1), q ∈ (Ex.node op nm vt vn vs pos l).pre d := fun y hy q hq => by
    rw [Ex.pre]; exact List.mem_cons_of_mem _ (pres_mem hy q hq)
  have hI : ∀ y ∈ l, WrAt y := fun y hy => ih y hy (d + 1) (fun q hq => hpre q (hsub y hy q hq)) (fun q hq => hin q (hsub y hy q hq))
  obtain ⟨ha1, ha2, _⟩ := node_ok hself
  have ha2' : (l.length : Int) = (apL op.data.toList opsL).1 := ha2
  have ha1' : (apL op.data.toList opsL).2 = true := ha1
  have hol : op.size ≤ 3 := by have := apL_len _ ha1'; simpa using this
  rw [ExIn] at hx
  obtain ⟨p, ca, rfl, ⟨hm, hmc⟩, ho, hnm, hvs, hparts⟩ := hx
  have hlt := hb.lt
  have KW : Keeps B b w (w.alloc (.cells #[.string op, .string nm, .int .i64 vt, .int .i64 vn, .string vs, .slice p l.length ca, .int .i64 pos] 26)) := Keeps.alloc ⟨Below.refl _ _, Lib.OthersKept.refl _ _ _⟩ (by omega) _
  have K0 : Keeps B b (w.alloc (.cells #[.string op, .string nm, .int .i64 vt, .int .i64 vn, .string vs, .slice p l.length ca, .int .i64 pos] 26)) (w.alloc (.cells #[.string op, .string nm, .int .i64 vt, .int .i64 vn, .string vs, .slice p l.length ca, .int .i64 pos] 26)) := ⟨Below.refl _ _, Lib.OthersKept.refl _ _ _⟩
  have hb0 : IsB B b acc (w.alloc (.cells #[.string op, .string nm, .int .i64 vt, .int .i64 vn, .string vs, .slice p l.length ca, .int .i64 pos] 26)) := hb.on ((Below.refl _ w).alloc (Nat.le_refl _) _)
  have hz0 : B ≤ (w.alloc (.cells #[.string op, .string nm, .int .i64 vt, .int .i64 vn, .string vs, .slice p l.length ca, .int .i64 pos] 26)).heap.size := by simp; omega
  rw [txP] at hlen ⊢
  clear hpre hin hself hsub ih ha1 ha2
  by_cases h1 : op.data.toList = [118, 97, 108]
  · have q1 : (op.toList == [118, 97, 108]) = true := by rw [Lib.toList_data]; simpa using h1
    rw [if_pos h1] at hlen ⊢
    have cP := fun W hW => print_any vt vn vs W hvs hvn hW
    have hPl : (⟨(prS vt vn vs.data.toList).toArray⟩ : ByteArray).size = (prS vt vn vs.data.toList).length := by simp [ByteArray.size]
    have HP : Hid ((⟨(prS vt vn vs.data.toList).toArray⟩ : ByteArray).data.toList = prS vt vn vs.data.toList) := rfl
    generalize prS vt vn vs.data.toList = X at *
    generalize chk vt vn vs.data.toList = Y at *
    generalize (⟨X.toArray⟩ : ByteArray) = Z at *
    clear hparts hI h1
    go_enter Tryz.func32, Tryz.ntmps32
    go_wp2_with fail
    refine (cP _ (henv _ KW.1)).mono ?_
    rintro e w1 ⟨rfl, b1⟩
    have hb1 := hb0.on b1
    have K1 := KW.trans (keeps_below b1 hz0)
    clear b1 cP
    go_wp2_with fail
    refine (ws B b acc Z _ hb1 (by omega) (by have := hb1.lt; omega)).mono ?_
    rintro e w2 ⟨rfl, hb2, k2w⟩
    rw [HP.out] at hb2
    have K2 := K1.trans k2w
    clear k2w
    go_wp2
    go_end0
    exact ⟨rfl, hb2, K2⟩
  have q1 : (op.toList == [118, 97, 108]) = false := by rw [Lib.toList_data]; simpa using h1
  rw [if_neg h1] at hlen ⊢
  by_cases h2 : op.data.toList = [99, 111, 108]
  · have q2 : (op.toList == [99, 111, 108]) = true := by rw [Lib.toList_data]; simpa using h2
    rw [if_pos h2] at hlen ⊢
    have hnl : nm.data.toList.length = nm.size := by simp
    clear hparts hI h1 h2
    go_enter Tryz.func32, Tryz.ntmps32
    go_wp2_with fail
    refine (ws B b acc nm _ hb0 (by omega) hz0).mono ?_
    rintro e w2 ⟨rfl, hb2, k2w⟩
    have K2 := KW.trans k2w
    clear k2w
    go_wp2
    go_end0
    exact ⟨rfl, hb2, K2⟩
  have q2 : (op.toList == [99, 111, 108]) = false := by rw [Lib.toList_data]; simpa using h2
  rw [if_neg h2] at hlen ⊢
  rw [txsP_map] at hlen ⊢
  by_cases h34 : op.data.toList = [108, 101, 110] ∨ op.data.toList = [105, 102]
  · rw [if_pos h34] at hlen ⊢
    have hol2 : op.data.toList.length = op.size := by simp
    rw [List.length_append] at hlen
    have h34b : ((op.toList == [108, 101, 110]) = true) ∨ ((op.toList == [108, 101, 110]) = false ∧ (op.toList == [105, 102]) = true) := by
      rw [Lib.toList_data]
      rcases h34 with h | h
      · left; simpa using h
      · right; rw [h]; decide
    have HA : Hid (acc ++ op.data.toList ++ argsT [44, 32] (l.map txP) = acc ++ (op.data.toList ++ argsT [44, 32] (l.map txP))) := List.append_assoc ..
    have cA := fun W (hK : Keeps B b w W) (hbW : IsB B b (acc ++ op.data.toList) W) => writeArgs_any ⟨#[44, 32]⟩ (by decide) l hI hm B b lo p ca (acc ++ op.data.toList) W (fun W' hW' => henv W' (hK.1.trans hW')) hlo (by
      rcases hparts with h | ⟨ba, oa, e, hbl, hlb, hE⟩
      · exact .inl h
      · exact .inr ⟨ba, oa, e, by have := hK.1.size; omega, hlb, exsIn_mk W lo ba l oa fun j hj => by
          obtain ⟨v0, v1, v2, v3, v4, v5, v6, e0, e1, e2, e3, e4, e5, e6, hy⟩ := exsIn_at w lo ba l oa hE j hj
          have key : ∀ o : Nat, W.cell? ⟨ba, o, none⟩ = w.cell? ⟨ba, o, none⟩ := fun o => hK.1.cell (p := ⟨ba, o, none⟩) (hlo ba hlb)
          exact ⟨v0, v1, v2, v3, v4, v5, v6, by rw [key]; exact e0, by rw [key]; exact e1, by rw [key]; exact e2, by rw [key]; exact e3, by rw [key]; exact e4, by rw [key]; exact e5, by rw [key]; exact e6, hy.keeps hK hlo⟩⟩) hbW (by simp only [List.length_append]; exact (by omega))
    clear hI h34 h1 h2 hparts
    rcases h34b with q3 | ⟨q3, q4⟩
    all_goals
      go_enter Tryz.func32, Tryz.ntmps32
      go_wp2_with fail
      refine (ws B b acc op _ hb0 (by omega) hz0).mono ?_
      rintro e w2 ⟨rfl, hb2, k2w⟩
      have K2 := K0.trans k2w
      have KK2 := KW.trans k2w
      obtain ⟨hB, hl2⟩ := K2.box hlt.1
      have g5 : w2.cell? ⟨w.heap.size, 5, none⟩ = some (.slice p l.length ca) := hB 5
      have cA2 := cA w2 KK2 hb2
      clear k2w hB K2
      go_wp2_with fail
      refine cA2.mono ?_
      rintro e w3 ⟨rfl, hb3, k3w⟩
      have K3 := KK2.trans k3w
      rw [HA.out] at hb3
      clear k3w cA2 g5
      go_wp2
      go_end0
      exact ⟨rfl, hb3, K3⟩
  rw [if_neg h34] at hlen ⊢
  have h3 : op.data.toList ≠ [108, 101, 110] := fun h => h34 (.inl h)
  have h4 : op.data.toList ≠ [105, 102] := fun h => h34 (.inr h)
  have q3 : (op.toList == [108, 101, 110]) = false := by rw [Lib.toList_data]; simpa using h3
  have q4 : (op.toList == [105, 102]) = false := by rw [Lib.toList_data]; simpa using h4
  by_cases h56 : op.data.toList = [110, 111, 116] ∨ op.data.toList = [110, 101, 103]
  · have hl1 : l.length = 1 := by
      have h1z : (l.length : Int) = 1 := by
        rcases h56 with h | h <;> rw [h] at ha2' <;> simpa [apL, opsL] using ha2'
      omega
    obtain ⟨y, rfl⟩ := head_of hl1
    rcases hparts with h | ⟨ba, oa, rfl, hbl, hlb, hE⟩
    · exact absurd h (by simp)
    obtain ⟨v0, v1, v2, v3, v4, v5, v6, e0, e1, e2, e3, e4, e5, e6, hy⟩ := exsIn_at w lo ba [y] oa hE 0 (by simp)
    obtain ⟨o1, n1, t1, k1, s1, p1, m1, c1, a1, huu⟩ := hy.agg
    injection huu with huu
    simp only [Array.mk.injEq, List.cons.injEq, and_true] at huu
    obtain ⟨rfl, rfl, rfl, rfl, rfl, rfl, rfl⟩ := huu
    simp only [Nat.zero_mul, Nat.add_zero, List.getElem_cons_zero] at e0 e1 e2 e3 e4 e5 e6 hy
    have hlen1 : [y].length = 1 := rfl
    simp only [List.map_cons, List.map_nil, List.headD_cons] at hlen ⊢
    have hyw := hI y (by simp)
    have h5or : (op.data.toList = [110, 111, 116]) ∨ (op.data.toList ≠ [110, 111, 116] ∧ op.data.toList = [110, 101, 103]) := by
      rcases h56 with h | h
      · exact .inl h
      · exact .inr ⟨by rw [h]; decide, h⟩
    clear hI hE h56
    rcases h5or with h5 | ⟨h5, h6⟩
    · have q5 : (op.toList == [110, 111, 116]) = true := by rw [Lib.toList_data]; simpa using h5
      rw [if_pos h5] at hlen ⊢
      have cY := writeAhead_any ⟨#[110, 111, 116]⟩ (by decide) y hyw B b lo _ acc _ (fun W hW => henv W (KW.1.trans hW)) hlo (hy.keeps KW hlo) hb0 hlen
      clear h1 h2 h3 h4 h34 h5 ha1' ha2'
      go_enter Tryz.func32, Tryz.ntmps32
      go_wp2_with fail
      refine cY.mono ?_
      rintro e w3 ⟨rfl, hb3, k3w⟩
      have K3 := KW.trans k3w
      clear k3w cY
      go_wp2
      go_end0
      exact ⟨rfl, hb3, K3⟩
    · have q5 : (op.toList == [110, 111, 116]) = false := by rw [Lib.toList_data]; simpa using h5
      have q6 : (op.toList == [110, 101, 103]) = true := by rw [Lib.toList_data]; simpa using h6
      rw [if_neg h5, if_pos h6] at hlen ⊢
      have cY := writeAhead_any ⟨#[45]⟩ (by decide) y hyw B b lo _ acc _ (fun W hW => henv W (KW.1.trans hW)) hlo (hy.keeps KW hlo) hb0 hlen
      clear h1 h2 h3 h4 h34 h5 h6 ha1' ha2'
      go_enter Tryz.func32, Tryz.ntmps32
      go_wp2_with fail
      refine cY.mono ?_
      rintro e w3 ⟨rfl, hb3, k3w⟩
      have K3 := KW.trans k3w
      clear k3w cY
      go_wp2
      go_end0
      exact ⟨rfl, hb3, K3⟩
  have h5 : op.data.toList ≠ [110, 111, 116] := fun h => h56 (.inl h)
  have h6 : op.data.toList ≠ [110, 101, 103] := fun h => h56 (.inr h)
  have q5 : (op.toList == [110, 111, 116]) = false := by rw [Lib.toList_data]; simpa using h5
  have q6 : (op.toList == [110, 101, 103]) = false := by rw [Lib.toList_data]; simpa using h6
  rw [if_neg h5, if_neg h6] at hlen ⊢
  have hSd : ((⟨#[32]⟩ : ByteArray) ++ op ++ ⟨#[32]⟩).data.toList = 32 :: (op.data.toList ++ [32]) := by simp
  have hSs : ((⟨#[32]⟩ : ByteArray) ++ op ++ ⟨#[32]⟩).size ≤ 30 := by
    rw [ByteArray.size_append, ByteArray.size_append]
    have : (⟨#[32]⟩ : ByteArray).size = 1 := rfl
    omega
  have cA := writeArgs_any ((⟨#[32]⟩ : ByteArray) ++ op ++ ⟨#[32]⟩) hSs l hI hm B b lo p ca acc (w.alloc (.cells #[.string op, .string nm, .int .i64 vt, .int .i64 vn, .string vs, .slice p l.length ca, .int .i64 pos] 26)) (fun W' hW' => henv W' (KW.1.trans hW')) hlo (by
      rcases hparts with h | ⟨ba, oa, e, hbl, hlb, hE⟩
      · exact .inl h
      · exact .inr ⟨ba, oa, e, by simp; omega, hlb, exsIn_mk _ lo ba l oa fun j hj => by
          obtain ⟨v0, v1, v2, v3, v4, v5, v6, e0, e1, e2, e3, e4, e5, e6, hy⟩ := exsIn_at w lo ba l oa hE j hj
          have key : ∀ o : Nat, (w.alloc (.cells #[.string op, .string nm, .int .i64 vt, .int .i64 vn, .string vs, .slice p l.length ca, .int .i64 pos] 26)).cell? ⟨ba, o, none⟩ = w.cell? ⟨ba, o, none⟩ := fun o => KW.1.cell (p := ⟨ba, o, none⟩) (hlo ba hlb)
          exact ⟨v0, v1, v2, v3, v4, v5, v6, by rw [key]; exact e0, by rw [key]; exact e1, by rw [key]; exact e2, by rw [key]; exact e3, by rw [key]; exact e4, by rw [key]; exact e5, by rw [key]; exact e6, hy.keeps KW hlo⟩⟩) hb0 (by rw [hSd]; exact hlen)
  rw [hSd] at cA
  clear h1 h2 h3 h4 h34 h5 h6 h56 ha1' ha2' hparts hI hSd
  go_enter Tryz.func32, Tryz.ntmps32
  go_wp2_with fail
  refine cA.mono ?_
  rintro e w3 ⟨rfl, hb3, k3w⟩
  have K3 := KW.trans k3w
  clear k3w cA
  go_wp2
  go_end0
  exact ⟨rfl, hb3, K3⟩
end Go.Proofs.YtkoejkpjkcejcaaGreatDoor
