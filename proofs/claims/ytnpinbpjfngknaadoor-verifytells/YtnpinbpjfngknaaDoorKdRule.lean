/-
  The rules of package kind: which there is of an Op, and how many parts it has.
-/
import Derived.Test.YtnpinbpjfngknaaDoorKdP
import Derived.Test.YtnpinbpjfngknaaDoorAs
import Derived.Laws.Rows
namespace Go.Proofs.YtnpinbpjfngknaaDoor
open Go.RowKit Go.BigFrame
set_option linter.unusedVariables false

set_option maxHeartbeats 1000000 in
set_option maxRecDepth 20000 in
theorem ruleOf_any (x : ByteArray) (w : World) (henv : REnv w) (R : Option KRule) (hx : kdFind x.data.toList kdRules = R) :
    Calls Tryd.prog 62 #[.string x] w fun e w' => (∃ (S : ByteArray) (a0 a1 a2 ty : Int) (ok : Bool), e = .returned (.tuple #[.agg #[.string S, .int .i64 a0, .int .i64 a1, .int .i64 a2, .int .i64 ty], .bool ok]) ∧ Hid (R = if ok = true then some (S.data.toList, a0, a1, a2, ty) else none)) ∧ Below w.heap.size w w' := by
  have hbig := henv.lt
  obtain ⟨tt, fr, hgl⟩ := henv
  have HX : Hid (kdFind x.data.toList kdRules = R) := hx
  clear hx
  have B0 : Below w.heap.size w (w.alloc (.cells #[.string ⟨#[]⟩, .int .i64 0, .int .i64 0, .int .i64 0, .int .i64 0] 125)) := al w _
  have hgl2 : (w.alloc (.cells #[.string ⟨#[]⟩, .int .i64 0, .int .i64 0, .int .i64 0, .int .i64 0] 125)).heap[2]? = some (.cells rulesC tt fr) := by rw [B0.block _ (by omega)]; exact hgl
  clear hgl hbig
  go_enter Tryd.func62, Tryd.ntmps62
  go_wp2_with (refine wpList_load_row rfl 126 _ rfl 2 rfl tt _ fr _ hgl2 Tryd.underlying126 rfl (by kernel_rfl) ?_)
  have hat := rule_at
  generalize Value.agg rulesC = AR at hat ⊢
  clear hgl2
  go_loopg [5, 7] 17 (fun gg _ s7 wr => ∃ kk : Nat, kk ≤ 17 ∧ 17 - kk ≤ gg ∧ s7 = .int .i64 kk ∧ Aside (Below (w.heap.size + 1) (w.alloc (.cells #[.string ⟨#[]⟩, .int .i64 0, .int .i64 0, .int .i64 0, .int .i64 0] 125)) wr) ∧ Hid (kdFind x.data.toList (kdRules.drop kk) = R))
  case atStart => exact ⟨0, Nat.zero_le _, by omega, rfl, (show Aside _ from Below.refl _ _), HX⟩
  case round =>
    obtain ⟨kk, hkk, hg, rfl, BW, HE⟩ := hrel
    clear HX
    have hzr : w.heap.size + 1 ≤ wr.heap.size := by have := BW.out.size; simpa using this
    have hzl : w.heap.size < wr.heap.size := by omega
    have zB : ∀ i, wr.cell? ⟨w.heap.size, i, none⟩ = (#[.string ⟨#[]⟩, .int .i64 0, .int .i64 0, .int .i64 0, .int .i64 0] : Array Value)[i]? := fun i => by rw [BW.out.cell (p := ⟨w.heap.size, i, none⟩) (by simp), World.cell?_alloc_at _ _ _ _ rfl]
    have z0 : wr.cell? ⟨w.heap.size, 0, none⟩ = some (.string ⟨#[]⟩) := zB 0
    have z1 : wr.cell? ⟨w.heap.size, 1, none⟩ = some (.int .i64 0) := zB 1
    have z2 : wr.cell? ⟨w.heap.size, 2, none⟩ = some (.int .i64 0) := zB 2
    have z3 : wr.cell? ⟨w.heap.size, 3, none⟩ = some (.int .i64 0) := zB 3
    have z4 : wr.cell? ⟨w.heap.size, 4, none⟩ = some (.int .i64 0) := zB 4
    have zf : ∀ o, wr.frozen? ⟨w.heap.size, o, none⟩ = false := fun o => by rw [BW.out.frozen (p := ⟨w.heap.size, o, none⟩) (by simp), World.frozen?_alloc_at _ _ _ _ rfl]
    clear zB
    by_cases hlt : kk < 17
    · have hltz : (kk : Int) < 17 := by omega
      obtain ⟨S, a0, a1, a2, ty, hS, hS1, _, _, _, _⟩ := hat kk hlt
      clear hat
      have hd : kdRules.drop kk = (S.data.toList, a0, a1, a2, ty) :: kdRules.drop (kk + 1) := by
        rw [List.drop_eq_getElem_cons (show kk < kdRules.length from hlt)]
        congr 1
      have HS : Hid (kdFind x.data.toList ((S.data.toList, a0, a1, a2, ty) :: kdRules.drop (kk + 1)) = R) := by show _ = _; rw [← hd]; exact HE.out
      clear hd hS1 HE
      by_cases he : S.data.toList = x.data.toList
      · have hq : (S.toList == x.toList) = true := by rw [Lib.toList_data, Lib.toList_data]; simpa using he
        have HR2 : Hid (some (S.data.toList, a0, a1, a2, ty) = R) := by show _ = _; rw [← HS.out, kdFind, if_pos he]
        have BE : Below w.heap.size w wr := B0.trans (BW.out.mono (by omega))
        clear HS he
        go_wp2
        refine bodyPost_ret (v := .tuple #[.agg #[.string S, .int .i64 a0, .int .i64 a1, .int .i64 a2, .int .i64 ty], .bool true]) (by simp [results, Tryd.results62, go_sem, World.cell?_setCell_other, World.cell?_setCell_same, z0, z1, z2, z3, z4, hzl]) rfl ⟨⟨S, a0, a1, a2, ty, true, rfl, ?_⟩, ?_⟩
        · show R = _
          rw [if_pos rfl]; exact HR2.out.symm
        · exact (((((BE.setCell (p := ⟨w.heap.size, 0, none⟩) (Nat.le_refl _) _).setCell (p := ⟨w.heap.size, 1, none⟩) (Nat.le_refl _) _).setCell (p := ⟨w.heap.size, 2, none⟩) (Nat.le_refl _) _).setCell (p := ⟨w.heap.size, 3, none⟩) (Nat.le_refl _) _).setCell (p := ⟨w.heap.size, 4, none⟩) (Nat.le_refl _) _).alloc (by simp [World.setCell]; omega) _
      · have hq : (S.toList == x.toList) = false := by rw [Lib.toList_data, Lib.toList_data]; simpa using he
        have HS2 : Hid (kdFind x.data.toList (kdRules.drop (kk + 1)) = R) := by
          show _ = _
          rw [← HS.out, kdFind, if_neg he]
        clear HS he
        go_wp2
        go_roundg (17 - (kk + 1))
        case measure => omega
        case rel => exact ⟨kk + 1, by omega, by omega, by go_num, (show Aside _ from BW.out.alloc (by omega) _), HS2⟩
    · have hltz : ¬ (kk : Int) < 17 := by omega
      have HR2 : Hid (none = R) := by show _ = _; rw [← HE.out, List.drop_eq_nil_of_le (by show 17 ≤ kk; omega)]; rfl
      have BE : Below w.heap.size w wr := B0.trans (BW.out.mono (by omega))
      clear HE
      go_wp2
      refine bodyPost_ret (v := .tuple #[.agg #[.string ⟨#[]⟩, .int .i64 0, .int .i64 0, .int .i64 0, .int .i64 0], .bool false]) (by simp [results, Tryd.results62, go_sem, World.cell?_setCell_other, World.cell?_setCell_same, z0, z1, z2, z3, z4]) rfl ⟨⟨⟨#[]⟩, 0, 0, 0, 0, .inl ⟨rfl, HR2.out.symm⟩⟩, ?_⟩
      · exact ((((BE.setCell (p := ⟨w.heap.size, 0, none⟩) (Nat.le_refl _) _).setCell (p := ⟨w.heap.size, 1, none⟩) (Nat.le_refl _) _).setCell (p := ⟨w.heap.size, 2, none⟩) (Nat.le_refl _) _).setCell (p := ⟨w.heap.size, 3, none⟩) (Nat.le_refl _) _).setCell (p := ⟨w.heap.size, 4, none⟩) (Nat.le_refl _) _
end Go.Proofs.YtnpinbpjfngknaaDoor
