/-
  KdP, KdRule, in one text.
-/
import Derived.Test.YtpgadbpkednjkaaGreatDoorLo6
import Derived.Test.YtpgadbpkednjkaaGreatDoorLo5
import Derived.Test.YtpgadbpkednjkaaGreatDoorAs
import Derived.Laws.Rows
namespace Go.Proofs.YtpgadbpkednjkaaGreatDoor
open Go.RowKit
set_option linter.unusedVariables false
--BEGIN
/-- How many parts. -/
def kdCnt (r : KRule) : Nat := if r.2.1 = 0 then 0 else if r.2.2.1 = 0 then 1 else if r.2.2.2.1 = 0 then 2 else 3
def kdMeant (last t : Int) : Int := if t = -1 then last else t
def kdFind (op : List UInt8) : List KRule → Option KRule
  | [] => none
  | r :: rs => if r.1 = op then some r else kdFind op rs
def isTy (t : Int) : Bool := decide (t = 1) || (decide (t = 2) || decide (t = 3))
def kdAll (last : Int) : List Int → List Int → Bool
  | [], _ => true
  | _ :: _, [] => true
  | t :: ts, a :: l => decide (t = kdMeant last a) && kdAll last ts l
/-- The type of an operation over parts of these types, and what is wrong. -/
def ruleP (op : List UInt8) (ts : List Int) : Int × Int :=
  match kdFind op kdRules with
  | none => (0, 1)
  | some r => if ts.all isTy = false then (0, 1) else if ts.length ≠ kdCnt r then (0, 3) else if kdAll (ts.getLast?.getD 0) ts [r.2.1, r.2.2.1, r.2.2.2.1] = true then (kdMeant (ts.getLast?.getD 0) r.2.2.2.2, 0) else (0, 8)
mutual
/-- The type of an expression that is right, over columns; what is wrong, and where. -/
def tyP (zs : List (ByteArray × Int)) : Ex → Int × Int × Int
  | .node op nm vt vn vs pos l =>
    if op.data.toList = [118, 97, 108] then (vt, 0, 0)
    else if op.data.toList = [99, 111, 108] then (if findN nm.data.toList zs = -1 then (0, 5, pos) else ((zs[(findN nm.data.toList zs).toNat]?.getD default).2, 0, 0))
    else if (tysP zs l).2.1 ≠ 0 then (0, (tysP zs l).2)
    else if (ruleP op.data.toList (tysP zs l).1).2 ≠ 0 then (0, (ruleP op.data.toList (tysP zs l).1).2, pos) else ((ruleP op.data.toList (tysP zs l).1).1, 0, 0)
def tysP (zs : List (ByteArray × Int)) : List Ex → List Int × Int × Int
  | [] => ([], 0, 0)
  | x :: xs => if (tyP zs x).2.1 ≠ 0 then ([], (tyP zs x).2) else if (tysP zs xs).2.1 ≠ 0 then ([], (tysP zs xs).2) else ((tyP zs x).1 :: (tysP zs xs).1, 0, 0)
end
--END
end Go.Proofs.YtpgadbpkednjkaaGreatDoor
namespace Go.Proofs.YtpgadbpkednjkaaGreatDoor
open Go.RowKit Go.BigFrame
set_option linter.unusedVariables false

/-- What package kind's functions read of the variables: tree's words and operations, row's types, the handle of the type error, and the rules. -/
structure KEnv (w : World) : Prop where
  tenv : TEnv w
  tw : TW w
  et : w.cell? ⟨0, 0, none⟩ = some (.iface 191 (.agg #[.pointer (some ⟨14, 38, none⟩)]))
  rules : ∃ t fr, w.heap[2]? = some (.cells rulesC t fr)
theorem KEnv.on {w w' : World} (h : KEnv w) (hb : Below w.heap.size w w') : KEnv w' := by
  have hbig := h.tenv.big
  refine ⟨h.tenv.on hb, h.tw.on hb, ?_, ?_⟩
  · rw [hb.cell (p := ⟨0, 0, none⟩) (by simp; omega)]; exact h.et
  · obtain ⟨t, fr, h1⟩ := h.rules
    exact ⟨t, fr, by rw [hb.block _ (by omega)]; exact h1⟩
set_option maxHeartbeats 1000000 in
set_option maxRecDepth 20000 in
theorem ruleOf_any (x : ByteArray) (w : World) (henv : REnv w) (R : Option KRule) (hx : kdFind x.data.toList kdRules = R) :
    Calls Tryz.prog 88 #[.string x] w fun e w' => (∃ (S : ByteArray) (a0 a1 a2 ty : Int) (ok : Bool), e = .returned (.tuple #[.agg #[.string S, .int .i64 a0, .int .i64 a1, .int .i64 a2, .int .i64 ty], .bool ok]) ∧ Hid (R = if ok = true then some (S.data.toList, a0, a1, a2, ty) else none)) ∧ Below w.heap.size w w' := by
  have hbig := henv.lt
  obtain ⟨tt, fr, hgl⟩ := henv
  have HX : Hid (kdFind x.data.toList kdRules = R) := hx
  clear hx
  have B0 : Below w.heap.size w (w.alloc (.cells #[.string ⟨#[]⟩, .int .i64 0, .int .i64 0, .int .i64 0, .int .i64 0] 140)) := al w _
  have hgl2 : (w.alloc (.cells #[.string ⟨#[]⟩, .int .i64 0, .int .i64 0, .int .i64 0, .int .i64 0] 140)).heap[2]? = some (.cells rulesC tt fr) := by rw [B0.block _ (by omega)]; exact hgl
  clear hgl hbig
  go_enter Tryz.func88, Tryz.ntmps88
  go_wp2_with (refine wpList_load_row rfl 177 _ rfl 2 rfl tt _ fr _ hgl2 Tryz.underlying177 rfl (by kernel_rfl) ?_)
  have hat := rule_at
  generalize Value.agg rulesC = AR at hat ⊢
  clear hgl2
  go_loopg [5, 7] 17 (fun gg _ s7 wr => ∃ kk : Nat, kk ≤ 17 ∧ 17 - kk ≤ gg ∧ s7 = .int .i64 kk ∧ Aside (Below (w.heap.size + 1) (w.alloc (.cells #[.string ⟨#[]⟩, .int .i64 0, .int .i64 0, .int .i64 0, .int .i64 0] 140)) wr) ∧ Hid (kdFind x.data.toList (kdRules.drop kk) = R))
  case atStart => exact ⟨0, Nat.zero_le _, by omega, rfl, (show Aside _ from Below.refl _ _), HX⟩
  case round =>
    obtain ⟨kk, hkk, hg, rfl, BW, HE⟩ := hrel
    clear HX
    have hzr : w.heap.size + 1 ≤ wr.heap.size := by have := BW.out.size; simpa using this
    have hzl : w.heap.size < wr.heap.size := by omega
    have zB : ∀ i, wr.cell? ⟨w.heap.size, i, none⟩ = (#[.string ⟨#[]⟩, .int .i64 0, .int .i64 0, .int .i64 0, .int .i64 0] : Array Value)[i]? := fun i => by rw [BW.out.cell (p := ⟨w.heap.size, i, none⟩) (by simp), World.cell?_alloc_at _ _ _ _ rfl]
    have z0 : wr.cell? ⟨w.heap.size, 0, none⟩ = some (.string ⟨#[]⟩) := zB 0
    have z1 : wr.cell? ⟨w.heap.size, 1, none⟩ = some (.int .i64 0) := zB 1
    have z2 : wr.cell? ⟨w.heap.size, 2, none⟩ = some (.int .i64 0) := zB 2
    have z3 : wr.cell? ⟨w.heap.size, 3, none⟩ = some (.int .i64 0) := zB 3
    have z4 : wr.cell? ⟨w.heap.size, 4, none⟩ = some (.int .i64 0) := zB 4
    have zf : ∀ o, wr.frozen? ⟨w.heap.size, o, none⟩ = false := fun o => by rw [BW.out.frozen (p := ⟨w.heap.size, o, none⟩) (by simp), World.frozen?_alloc_at _ _ _ _ rfl]
    clear zB
    by_cases hlt : kk < 17
    · have hltz : (kk : Int) < 17 := by omega
      obtain ⟨S, a0, a1, a2, ty, hS, hS1, _, _, _, _⟩ := hat kk hlt
      clear hat
      have hd : kdRules.drop kk = (S.data.toList, a0, a1, a2, ty) :: kdRules.drop (kk + 1) := by
        rw [List.drop_eq_getElem_cons (show kk < kdRules.length from hlt)]
        congr 1
      have HS : Hid (kdFind x.data.toList ((S.data.toList, a0, a1, a2, ty) :: kdRules.drop (kk + 1)) = R) := by show _ = _; rw [← hd]; exact HE.out
      clear hd hS1 HE
      by_cases he : S.data.toList = x.data.toList
      · have hq : (S.toList == x.toList) = true := by rw [Lib.toList_data, Lib.toList_data]; simpa using he
        have HR2 : Hid (some (S.data.toList, a0, a1, a2, ty) = R) := by show _ = _; rw [← HS.out, kdFind, if_pos he]
        have BE : Below w.heap.size w wr := B0.trans (BW.out.mono (by omega))
        clear HS he
        go_wp2
        refine bodyPost_ret (v := .tuple #[.agg #[.string S, .int .i64 a0, .int .i64 a1, .int .i64 a2, .int .i64 ty], .bool true]) (by simp [results, Tryz.results88, go_sem, World.cell?_setCell_other, World.cell?_setCell_same, z0, z1, z2, z3, z4, hzl]) rfl ⟨⟨S, a0, a1, a2, ty, true, rfl, ?_⟩, ?_⟩
        · show R = _
          rw [if_pos rfl]; exact HR2.out.symm
        · exact (((((BE.setCell (p := ⟨w.heap.size, 0, none⟩) (Nat.le_refl _) _).setCell (p := ⟨w.heap.size, 1, none⟩) (Nat.le_refl _) _).setCell (p := ⟨w.heap.size, 2, none⟩) (Nat.le_refl _) _).setCell (p := ⟨w.heap.size, 3, none⟩) (Nat.le_refl _) _).setCell (p := ⟨w.heap.size, 4, none⟩) (Nat.le_refl _) _).alloc (by simp [World.setCell]; omega) _
      · have hq : (S.toList == x.toList) = false := by rw [Lib.toList_data, Lib.toList_data]; simpa using he
        have HS2 : Hid (kdFind x.data.toList (kdRules.drop (kk + 1)) = R) := by
          show _ = _
          rw [← HS.out, kdFind, if_neg he]
        clear HS he
        go_wp2
        go_roundg (17 - (kk + 1))
        case measure => omega
        case rel => exact ⟨kk + 1, by omega, by omega, by go_num, (show Aside _ from BW.out.alloc (by omega) _), HS2⟩
    · have hltz : ¬ (kk : Int) < 17 := by omega
      have HR2 : Hid (none = R) := by show _ = _; rw [← HE.out, List.drop_eq_nil_of_le (by show 17 ≤ kk; omega)]; rfl
      have BE : Below w.heap.size w wr := B0.trans (BW.out.mono (by omega))
      clear HE
      go_wp2
      refine bodyPost_ret (v := .tuple #[.agg #[.string ⟨#[]⟩, .int .i64 0, .int .i64 0, .int .i64 0, .int .i64 0], .bool false]) (by simp [results, Tryz.results88, go_sem, World.cell?_setCell_other, World.cell?_setCell_same, z0, z1, z2, z3, z4]) rfl ⟨⟨⟨#[]⟩, 0, 0, 0, 0, .inl ⟨rfl, HR2.out.symm⟩⟩, ?_⟩
      · exact ((((BE.setCell (p := ⟨w.heap.size, 0, none⟩) (Nat.le_refl _) _).setCell (p := ⟨w.heap.size, 1, none⟩) (Nat.le_refl _) _).setCell (p := ⟨w.heap.size, 2, none⟩) (Nat.le_refl _) _).setCell (p := ⟨w.heap.size, 3, none⟩) (Nat.le_refl _) _).setCell (p := ⟨w.heap.size, 4, none⟩) (Nat.le_refl _) _
end Go.Proofs.YtpgadbpkednjkaaGreatDoor
