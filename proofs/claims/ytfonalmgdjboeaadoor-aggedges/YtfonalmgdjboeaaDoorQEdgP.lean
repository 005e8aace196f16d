/-
  AggEdges, plain: the least and the most of numbers; a sum of as many alike; what New, Add and Result give of them.
-/
import Derived.Test.YtfonalmgdjboeaaDoorGrAh
namespace Go.Proofs.YtfonalmgdjboeaaDoor
open Go.RowKit
set_option linter.unusedVariables false

def leastX : ByteArray := ⟨#[108, 101, 97, 115, 116]⟩
def mostX : ByteArray := ⟨#[109, 111, 115, 116]⟩
def countX : ByteArray := ⟨#[99, 111, 117, 110, 116]⟩
def psE : List Pt := nwP [leastX, mostX, countX] [1, 1, 0]
theorem psE_ok : nwE [leastX, mostX, countX] [1, 1, 0] = 0 := by decide
def rowE (n : Int) : List V3 := [(1, n, ⟨#[]⟩), (1, n, ⟨#[]⟩), (0, 0, ⟨#[]⟩)]
theorem chk_int (n : Int) : chk 1 n [] = 0 := by simp [chk]
theorem psE_row (n : Int) : adE psE (rowE n) = 0 := by
  unfold adE
  rw [if_neg (fun h => h (show (rowE n).length = psE.length from rfl))]
  show fstE [ckPt (npP leastX 1) (1, n, ⟨#[]⟩), ckPt (npP mostX 1) (1, n, ⟨#[]⟩), ckPt (npP countX 0) (0, 0, ⟨#[]⟩)] = 0
  have h1 : ckPt (npP leastX 1) (1, n, ⟨#[]⟩) = 0 := by
    unfold ckPt
    rw [if_neg (by decide), if_neg (fun h => h (chk_int n)), if_neg (fun h => h (show (1 : Int) = (npP leastX 1).kind by decide))]
  have h2 : ckPt (npP mostX 1) (1, n, ⟨#[]⟩) = 0 := by
    unfold ckPt
    rw [if_neg (by decide), if_neg (fun h => h (chk_int n)), if_neg (fun h => h (show (1 : Int) = (npP mostX 1).kind by decide))]
  have h3 : ckPt (npP countX 0) (0, 0, ⟨#[]⟩) = 0 := by decide
  rw [h1, h2, h3]
  decide
theorem psE_parts {rs : List (List V3)} {ps : List Pt} (h : Acu psE rs ps) : ∃ p0 p1 p2, ps = [p0, p1, p2] ∧ p0.wh = wLeast ∧ p1.wh = wMost ∧ p2.wh = wCount ∧ IsBest wLeast (colV 0 rs) p0.best ∧ IsBest wMost (colV 1 rs) p1.best := by
  have hl : ps.length = 3 := h.al.1
  match ps, hl with
  | [p0, p1, p2], _ =>
    have w0 : p0.wh = wLeast := by unfold Pt.wh; rw [show p0.what = leastX from (h.al.2 0 (by simp) (by decide)).1]; rfl
    have w1 : p1.wh = wMost := by unfold Pt.wh; rw [show p1.what = mostX from (h.al.2 1 (by simp) (by decide)).1]; rfl
    have w2 : p2.wh = wCount := by unfold Pt.wh; rw [show p2.what = countX from (h.al.2 2 (by simp) (by decide)).1]; rfl
    have b0 : IsBest p0.wh (colV 0 rs) p0.best := (h.kn 0 (by simp)).best (.inl w0)
    have b1 : IsBest p1.wh (colV 1 rs) p1.best := (h.kn 1 (by simp)).best (.inr w1)
    rw [w0] at b0
    rw [w1] at b1
    exact ⟨p0, p1, p2, rfl, w0, w1, w2, b0, b1⟩
theorem edge_none {ps : List Pt} (h : Acu psE [] ps) : reE ps 0 = 5 := by
  obtain ⟨p0, p1, p2, rfl, w0, w1, w2, b0, b1⟩ := psE_parts h
  unfold reE
  show fstE [(resP p0 0).2, (resP p1 0).2, (resP p2 0).2] = 5
  have e0 : p0.best = noV := by rcases b0 with h | h; exact h.2; exact absurd h.1 (by simp [colV])
  rw [resP_b (.inl w0), e0]
  rfl
theorem col_rows (ls : List Int) (i : Nat) (hi : i = 0 ∨ i = 1) : colV i (ls.map rowE) = ls.map fun n => ((1 : Int), n, (⟨#[]⟩ : ByteArray)) := by
  unfold colV
  rw [List.map_map]
  rcases hi with rfl | rfl <;> rfl
theorem okT_int (n : Int) : okT 1 (1, n, ⟨#[]⟩) := ⟨rfl, chk_int n⟩
theorem best_int {w : List UInt8} {ls : List Int} {b : V3} (h : IsBest w (ls.map fun n => ((1 : Int), n, (⟨#[]⟩ : ByteArray))) b) (h0 : ls ≠ []) : ∃ x ∈ ls, b = (1, x, ⟨#[]⟩) ∧ ∀ y ∈ ls, ¬ ahV w (1, y, ⟨#[]⟩) (1, x, ⟨#[]⟩) := by
  rcases h with ⟨e, _⟩ | ⟨m, k⟩
  · exact absurd (List.map_eq_nil_iff.1 e) h0
  · obtain ⟨x, hx, rfl⟩ := List.mem_map.1 m
    exact ⟨x, hx, rfl, fun y hy => k _ (List.mem_map.2 ⟨y, hy, rfl⟩)⟩
theorem edge_some {ls : List Int} {ps : List Pt} (h : Acu psE (ls.map rowE) ps) (h0 : ls ≠ []) : ∃ lo hi, reE ps (ls.length : Int) = 0 ∧ reV ps (ls.length : Int) = [(1, lo, ⟨#[]⟩), (1, hi, ⟨#[]⟩), (1, (ls.length : Int), ⟨#[]⟩)] ∧ lo ∈ ls ∧ hi ∈ ls ∧ ∀ x ∈ ls, lo ≤ x ∧ x ≤ hi := by
  obtain ⟨p0, p1, p2, rfl, w0, w1, w2, b0, b1⟩ := psE_parts h
  rw [col_rows ls 0 (.inl rfl)] at b0
  rw [col_rows ls 1 (.inr rfl)] at b1
  obtain ⟨lo, m0, e0, k0⟩ := best_int b0 h0
  obtain ⟨hi, m1, e1, k1⟩ := best_int b1 h0
  refine ⟨lo, hi, ?_, ?_, m0, m1, fun x hx => ⟨?_, ?_⟩⟩
  · unfold reE
    show fstE [(resP p0 _).2, (resP p1 _).2, (resP p2 _).2] = 0
    rw [resP_b (.inl w0), resP_b (.inr w1), resP_c w2, e0, e1]
    rfl
  · unfold reV
    show [(resP p0 _).1, (resP p1 _).1, (resP p2 _).1] = _
    rw [resP_b (.inl w0), resP_b (.inr w1), resP_c w2, e0, e1]
    rfl
  · have := k0 x hx
    unfold ahV at this
    rw [if_pos rfl, cmpX_eq (okT_int x) (okT_int lo), if_neg (by decide), cmpI_lt0] at this
    have : ¬ x < lo := this
    omega
  · have := k1 x hx
    unfold ahV at this
    rw [if_neg (by decide), cmpX_eq (okT_int x) (okT_int hi), if_neg (by decide), cmpI_gt0] at this
    have : ¬ hi < x := this
    omega
/-- Sums of as many alike. -/
theorem many_sum (n : Int) : ∀ k : Nat, ((colV 0 (List.replicate k [((1 : Int), n, (⟨#[]⟩ : ByteArray))])).map (·.2.1)).sum = n * (k : Int)
  | 0 => by simp [colV]
  | k + 1 => by
    have ih := many_sum n k
    rw [List.replicate_succ]
    show (n :: (colV 0 (List.replicate k [((1 : Int), n, (⟨#[]⟩ : ByteArray))])).map (·.2.1)).sum = _
    rw [List.sum_cons, ih, show ((k + 1 : Nat) : Int) = (k : Int) + 1 by omega, Int.mul_add]
    omega
theorem many_res {n : Int} {k : Nat} {ps : List Pt} (h : Acu psF (List.replicate k [(1, n, ⟨#[]⟩)]) ps) :
    (-9223372036854775808 ≤ n * (k : Int) ∧ n * (k : Int) ≤ 9223372036854775807 → reE ps (k : Int) = 0 ∧ reV ps (k : Int) = [(1, n * (k : Int), ⟨#[]⟩)]) ∧ (¬ (-9223372036854775808 ≤ n * (k : Int) ∧ n * (k : Int) ≤ 9223372036854775807) → reE ps (k : Int) = 9) := by
  obtain ⟨p, rfl, hw, hs⟩ := psF_sum h
  rw [many_sum] at hs
  refine ⟨fun hb => ?_, fun hb => ?_⟩
  · unfold reE reV
    show fstE [(resP p _).2] = 0 ∧ [(resP p _).1] = _
    rw [resP_s hw, hs, if_pos hb]
    exact ⟨rfl, rfl⟩
  · unfold reE
    show fstE [(resP p _).2] = 9
    rw [resP_s hw, hs, if_neg hb]
    rfl
theorem in_any (n : Int) (w : World) : Calls Tryd.prog 15 #[.int .i64 n] w fun e w' => e = .returned (.agg #[.int .i64 1, .int .i64 n, .string ⟨#[]⟩]) ∧ Below w.heap.size w w' := by
  go_enter Tryd.func15, Tryd.ntmps15
  go_wp2
  exact bodyPost_ret (v := .agg #[.int .i64 1, .int .i64 n, .string ⟨#[]⟩]) (by simp [results, Tryd.results15, go_sem]) rfl ⟨rfl, alB _ _⟩
/-- A row of three values that is made here. -/
theorem add_three (a : Nat) (v : Value) (rs : List (List V3)) (n : Int) (W : World) (h : AcAt W a v psE rs) (hl : rs.length + 1 ≤ 10000) (hn : inB n) :
    Calls Tryd.prog 9 #[.pointer (some ⟨a, 0, none⟩), .slice (some ⟨W.heap.size, 0, none⟩) 3 3] (W.alloc (.cells #[.int .i64 1, .int .i64 n, .string ⟨#[]⟩, .int .i64 1, .int .i64 n, .string ⟨#[]⟩, .int .i64 0, .int .i64 0, .string ⟨#[]⟩] 26)) fun e w' => e = .returned .nilIface ∧ Aside (AcAt w' a v psE (rs ++ [rowE n])) ∧ Aside (Kp (accS a v) W w') := by
  have hb := alB W (.cells #[.int .i64 1, .int .i64 n, .string ⟨#[]⟩, .int .i64 1, .int .i64 n, .string ⟨#[]⟩, .int .i64 0, .int .i64 0, .string ⟨#[]⟩] 26)
  have P := blk_alloc W #[.int .i64 1, .int .i64 n, .string ⟨#[]⟩, .int .i64 1, .int .i64 n, .string ⟨#[]⟩, .int .i64 0, .int .i64 0, .string ⟨#[]⟩] 26
  have := add_c a v psE rs (some ⟨W.heap.size, 0, none⟩) 3 (rowE n) _ (h.on hb) hl (.inr ⟨W.heap.size, 0, rfl, P.lt, fun j hj => by
    have hj3 : j < 3 := hj
    match j, hj3 with
    | 0, _ => exact ⟨P.cell 0, P.cell 1, P.cell 2⟩
    | 1, _ => exact ⟨P.cell 3, P.cell 4, P.cell 5⟩
    | 2, _ => exact ⟨P.cell 6, P.cell 7, P.cell 8⟩⟩) (fun r hr => by
      have : r = (1, n, ⟨#[]⟩) ∨ r = (0, 0, ⟨#[]⟩) := by simpa [rowE] using hr
      rcases this with rfl | rfl
      · exact ⟨Nat.zero_le _, hn⟩
      · exact ⟨Nat.zero_le _, (show inB 0 by unfold inB; omega)⟩) (show (3 : Nat) ≤ maxLen by decide) (.inr fun b o e hs => by
        injection e with e
        injection e with e
        subst e
        have := h.lt _ hs
        omega)
  refine this.mono fun e w' hh => ⟨by rw [hh.1, psE_row]; rfl, ?_, (Kp.of_below hb).trans hh.2.2⟩
  have hA := hh.2.1
  unfold gdR at hA
  rw [if_pos (psE_row n)] at hA
  exact hA
theorem ags_three (w : World) (o1 : Obj) : AgsW ((w.alloc (.cells #[.string ⟨#[108, 101, 97, 115, 116]⟩, .string ⟨#[]⟩, .string ⟨#[]⟩, .int .i64 0, .int .i64 0, .string ⟨#[]⟩, .slice none 0 0, .int .i64 0, .string ⟨#[]⟩, .string ⟨#[109, 111, 115, 116]⟩, .string ⟨#[]⟩, .string ⟨#[]⟩, .int .i64 0, .int .i64 0, .string ⟨#[]⟩, .slice none 0 0, .int .i64 0, .string ⟨#[]⟩, .string ⟨#[99, 111, 117, 110, 116]⟩, .string ⟨#[]⟩, .string ⟨#[]⟩, .int .i64 0, .int .i64 0, .string ⟨#[]⟩, .slice none 0 0, .int .i64 0, .string ⟨#[]⟩] 31)).alloc o1) (some ⟨w.heap.size, 0, none⟩) [leastX, mostX, countX] := by
  have P := (blk_alloc w #[.string ⟨#[108, 101, 97, 115, 116]⟩, .string ⟨#[]⟩, .string ⟨#[]⟩, .int .i64 0, .int .i64 0, .string ⟨#[]⟩, .slice none 0 0, .int .i64 0, .string ⟨#[]⟩, .string ⟨#[109, 111, 115, 116]⟩, .string ⟨#[]⟩, .string ⟨#[]⟩, .int .i64 0, .int .i64 0, .string ⟨#[]⟩, .slice none 0 0, .int .i64 0, .string ⟨#[]⟩, .string ⟨#[99, 111, 117, 110, 116]⟩, .string ⟨#[]⟩, .string ⟨#[]⟩, .int .i64 0, .int .i64 0, .string ⟨#[]⟩, .slice none 0 0, .int .i64 0, .string ⟨#[]⟩] 31).on (alB _ o1)
  refine .inr ⟨w.heap.size, 0, rfl, P.lt, fun j hj => ⟨⟨#[]⟩, ⟨#[]⟩, 0, 0, ⟨#[]⟩, none, 0, 0, 0, ⟨#[]⟩, fun k v hv => ?_⟩⟩
  have hj3 : j < 3 := hj
  have hk : k < 9 := by have := (List.getElem?_eq_some_iff.1 hv).1; simpa using this
  rw [P.cell]
  match j, hj3, k, hk with
  | 0, _, 0, _ => exact hv
  | 0, _, 1, _ => exact hv
  | 0, _, 2, _ => exact hv
  | 0, _, 3, _ => exact hv
  | 0, _, 4, _ => exact hv
  | 0, _, 5, _ => exact hv
  | 0, _, 6, _ => exact hv
  | 0, _, 7, _ => exact hv
  | 0, _, 8, _ => exact hv
  | 1, _, 0, _ => exact hv
  | 1, _, 1, _ => exact hv
  | 1, _, 2, _ => exact hv
  | 1, _, 3, _ => exact hv
  | 1, _, 4, _ => exact hv
  | 1, _, 5, _ => exact hv
  | 1, _, 6, _ => exact hv
  | 1, _, 7, _ => exact hv
  | 1, _, 8, _ => exact hv
  | 2, _, 0, _ => exact hv
  | 2, _, 1, _ => exact hv
  | 2, _, 2, _ => exact hv
  | 2, _, 3, _ => exact hv
  | 2, _, 4, _ => exact hv
  | 2, _, 5, _ => exact hv
  | 2, _, 6, _ => exact hv
  | 2, _, 7, _ => exact hv
  | 2, _, 8, _ => exact hv
theorem ints_three (w : World) (a b c : Int) : IntW (w.alloc (.cells #[.int .i64 a, .int .i64 b, .int .i64 c] 3)) (some ⟨w.heap.size, 0, none⟩) [a, b, c] := by
  have P := blk_alloc w #[.int .i64 a, .int .i64 b, .int .i64 c] 3
  refine .inr ⟨w.heap.size, 0, rfl, P.lt, fun j hj => ?_⟩
  have hj3 : j < 3 := hj
  match j, hj3 with
  | 0, _ => exact P.cell 0
  | 1, _ => exact P.cell 1
  | 2, _ => exact P.cell 2
theorem new_three (w : World) (h : AEnv w) :
    Calls Tryd.prog 6 #[.slice (some ⟨w.heap.size, 0, none⟩) 3 3, .slice (some ⟨w.heap.size + 1, 0, none⟩) 3 3] ((w.alloc (.cells #[.string ⟨#[108, 101, 97, 115, 116]⟩, .string ⟨#[]⟩, .string ⟨#[]⟩, .int .i64 0, .int .i64 0, .string ⟨#[]⟩, .slice none 0 0, .int .i64 0, .string ⟨#[]⟩, .string ⟨#[109, 111, 115, 116]⟩, .string ⟨#[]⟩, .string ⟨#[]⟩, .int .i64 0, .int .i64 0, .string ⟨#[]⟩, .slice none 0 0, .int .i64 0, .string ⟨#[]⟩, .string ⟨#[99, 111, 117, 110, 116]⟩, .string ⟨#[]⟩, .string ⟨#[]⟩, .int .i64 0, .int .i64 0, .string ⟨#[]⟩, .slice none 0 0, .int .i64 0, .string ⟨#[]⟩] 31)).alloc (.cells #[.int .i64 1, .int .i64 1, .int .i64 0] 3)) fun e w' => (∃ a v, e = .returned (.tuple #[.pointer (some ⟨a, 0, none⟩), .nilIface]) ∧ Aside (AcAt w' a v psE []) ∧ Aside (∀ k, accS a v k → w.heap.size ≤ k)) ∧ Aside (Below w.heap.size w w') := by
  have b2 := al2 w (.cells #[.string ⟨#[108, 101, 97, 115, 116]⟩, .string ⟨#[]⟩, .string ⟨#[]⟩, .int .i64 0, .int .i64 0, .string ⟨#[]⟩, .slice none 0 0, .int .i64 0, .string ⟨#[]⟩, .string ⟨#[109, 111, 115, 116]⟩, .string ⟨#[]⟩, .string ⟨#[]⟩, .int .i64 0, .int .i64 0, .string ⟨#[]⟩, .slice none 0 0, .int .i64 0, .string ⟨#[]⟩, .string ⟨#[99, 111, 117, 110, 116]⟩, .string ⟨#[]⟩, .string ⟨#[]⟩, .int .i64 0, .int .i64 0, .string ⟨#[]⟩, .slice none 0 0, .int .i64 0, .string ⟨#[]⟩] 31) (.cells #[.int .i64 1, .int .i64 1, .int .i64 0] 3)
  have hi := ints_three (w.alloc (.cells #[.string ⟨#[108, 101, 97, 115, 116]⟩, .string ⟨#[]⟩, .string ⟨#[]⟩, .int .i64 0, .int .i64 0, .string ⟨#[]⟩, .slice none 0 0, .int .i64 0, .string ⟨#[]⟩, .string ⟨#[109, 111, 115, 116]⟩, .string ⟨#[]⟩, .string ⟨#[]⟩, .int .i64 0, .int .i64 0, .string ⟨#[]⟩, .slice none 0 0, .int .i64 0, .string ⟨#[]⟩, .string ⟨#[99, 111, 117, 110, 116]⟩, .string ⟨#[]⟩, .string ⟨#[]⟩, .int .i64 0, .int .i64 0, .string ⟨#[]⟩, .slice none 0 0, .int .i64 0, .string ⟨#[]⟩] 31)) 1 1 0
  rw [show (w.alloc (.cells #[.string ⟨#[108, 101, 97, 115, 116]⟩, .string ⟨#[]⟩, .string ⟨#[]⟩, .int .i64 0, .int .i64 0, .string ⟨#[]⟩, .slice none 0 0, .int .i64 0, .string ⟨#[]⟩, .string ⟨#[109, 111, 115, 116]⟩, .string ⟨#[]⟩, .string ⟨#[]⟩, .int .i64 0, .int .i64 0, .string ⟨#[]⟩, .slice none 0 0, .int .i64 0, .string ⟨#[]⟩, .string ⟨#[99, 111, 117, 110, 116]⟩, .string ⟨#[]⟩, .string ⟨#[]⟩, .int .i64 0, .int .i64 0, .string ⟨#[]⟩, .slice none 0 0, .int .i64 0, .string ⟨#[]⟩] 31)).heap.size = w.heap.size + 1 by simp] at hi
  refine (new_c (some ⟨w.heap.size, 0, none⟩) 3 [leastX, mostX, countX] (some ⟨w.heap.size + 1, 0, none⟩) 3 [1, 1, 0] _ (h.on b2) (ags_three w _) hi (show (3 : Nat) ≤ maxLen by decide) (show (3 : Nat) ≤ maxLen by decide) psE_ok).mono fun e w' hh => ?_
  obtain ⟨a, v, e1, e2, e3, e4⟩ := hh
  have b2s := b2.size
  exact ⟨⟨a, v, e1, e2, fun k hk => by have := e3 k hk; omega⟩, b2.trans (e4.mono b2s)⟩
theorem none_c (a : Nat) (v : Value) (W : World) (h : AcAt W a v psE []) :
    Calls Tryd.prog 12 #[.pointer (some ⟨a, 0, none⟩)] W fun e w' => e = .returned (.tuple #[.slice none 0 0, .iface 53 (.int .i64 5)]) ∧ Aside (Below W.heap.size W w') := by
  obtain ⟨ps, hu, h | h⟩ := result_c a v psE _ W h
  · have := edge_none hu
    exact absurd h.1 (by show reE ps 0 ≠ 0; rw [this]; decide)
  · refine h.2.mono fun e w' hh => ⟨?_, hh.2⟩
    rw [hh.1]
    show Ending.returned (.tuple #[.slice none 0 0, .iface 53 (.int .i64 (reE ps 0))]) = _
    rw [edge_none hu]
theorem some_c (a : Nat) (v : Value) (ls : List Int) (W : World) (h : AcAt W a v psE (ls.map rowE)) (h0 : ls ≠ []) : ∃ lo hi, (lo ∈ ls ∧ hi ∈ ls ∧ ∀ x ∈ ls, lo ≤ x ∧ x ≤ hi) ∧
    Calls Tryd.prog 12 #[.pointer (some ⟨a, 0, none⟩)] W fun e w' => (∃ b o c, e = .returned (.tuple #[.slice (some ⟨b, o, none⟩) 3 c, .nilIface]) ∧ b < w'.heap.size ∧ w'.cell? ⟨b, o + 1, none⟩ = some (.int .i64 lo) ∧ w'.cell? ⟨b, o + 3 + 1, none⟩ = some (.int .i64 hi) ∧ w'.cell? ⟨b, o + 6 + 1, none⟩ = some (.int .i64 (ls.length : Int))) ∧ Aside (Below W.heap.size W w') := by
  obtain ⟨ps, hu, h | h⟩ := result_c a v psE _ W h
  · obtain ⟨lo, hi, f1, f2, f3⟩ := edge_some hu h0
    refine ⟨lo, hi, f3, h.2.mono fun e w' hh => ?_⟩
    obtain ⟨⟨q, c, e1, e2⟩, e3⟩ := hh
    have hlm : ((ls.map rowE).length : Int) = (ls.length : Int) := by simp
    rw [hlm, f2] at e1 e2
    obtain ⟨b, o, rfl, hb, hc⟩ := e2.resolve_left (by simp)
    exact ⟨⟨b, o, c, e1, hb, (hc 0 (by simp)).2.1, (hc 1 (by simp)).2.1, (hc 2 (by simp)).2.1⟩, e3⟩
  · obtain ⟨lo, hi, f1, _⟩ := edge_some hu h0
    have hlm : ((ls.map rowE).length : Int) = (ls.length : Int) := by simp
    rw [hlm] at h
    exact absurd f1 h.1
theorem many_c (a : Nat) (v : Value) (n : Int) (k : Nat) (W : World) (h : AcAt W a v psF (List.replicate k [(1, n, ⟨#[]⟩)])) :
    (-9223372036854775808 ≤ n * (k : Int) ∧ n * (k : Int) ≤ 9223372036854775807 → Calls Tryd.prog 12 #[.pointer (some ⟨a, 0, none⟩)] W fun e w' => (∃ b o c, e = .returned (.tuple #[.slice (some ⟨b, o, none⟩) 1 c, .nilIface]) ∧ b < w'.heap.size ∧ w'.cell? ⟨b, o + 1, none⟩ = some (.int .i64 (n * (k : Int)))) ∧ Aside (Below W.heap.size W w')) ∧
    (¬ (-9223372036854775808 ≤ n * (k : Int) ∧ n * (k : Int) ≤ 9223372036854775807) → Calls Tryd.prog 12 #[.pointer (some ⟨a, 0, none⟩)] W fun e w' => e = .returned (.tuple #[.slice none 0 0, .iface 53 (.int .i64 9)]) ∧ Aside (Below W.heap.size W w')) := by
  obtain ⟨ps, hu, hc⟩ := result_c a v psF _ W h
  rw [List.length_replicate] at hc
  obtain ⟨m1, m2⟩ := many_res hu
  refine ⟨fun hb => ?_, fun hb => ?_⟩
  · obtain ⟨f1, f2⟩ := m1 hb
    rcases hc with hc | hc
    · refine hc.2.mono fun e w' hh => ?_
      obtain ⟨⟨q, c, e1, e2⟩, e3⟩ := hh
      rw [f2] at e1 e2
      obtain ⟨b, o, rfl, hbl, hcc⟩ := e2.resolve_left (by simp)
      have := (hcc 0 (by simp)).2.1
      exact ⟨⟨b, o, c, e1, hbl, by simpa using this⟩, e3⟩
    · exact absurd f1 hc.1
  · have f1 := m2 hb
    rcases hc with hc | hc
    · rw [f1] at hc; exact absurd hc.1 (by decide)
    · refine hc.2.mono fun e w' hh => ⟨by rw [hh.1, f1], hh.2⟩
end Go.Proofs.YtfonalmgdjboeaaDoor
