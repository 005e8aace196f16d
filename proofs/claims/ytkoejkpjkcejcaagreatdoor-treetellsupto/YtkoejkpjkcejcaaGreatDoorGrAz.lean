/-
  EvP, Reckon, ValFr, EvFn, RefNo, in one text.
-/
import Derived.Test.YtkoejkpjkcejcaaGreatDoorGrAy
import Derived.Test.YtkoejkpjkcejcaaGreatDoorGrAq
import Derived.Test.YtkoejkpjkcejcaaGreatDoorGrAo
import Derived.Test.YtkoejkpjkcejcaaGreatDoorQKdTy
import Derived.Test.YtkoejkpjkcejcaaGreatDoorProg
import Derived.WalkKit
import Derived.Lib.Strings
import Derived.Test.YtkoejkpjkcejcaaGreatDoorGrAi
import Derived.Test.YtkoejkpjkcejcaaGreatDoorQTreeCk
import Derived.Test.YtkoejkpjkcejcaaGreatDoorGrAt
import Derived.Test.YtkoejkpjkcejcaaGreatDoorGrAu
namespace Go.Proofs.YtkoejkpjkcejcaaGreatDoor
open Go.RowKit
set_option linter.unusedVariables false
--BEGIN
mutual
/-- What an expression that is right comes to, of a row that is right. -/
def cmP (zs : List (ByteArray × Int)) (rs : List V3) : Ex → V3 × Int
  | .node op nm vt vn vs _ l => if op.data.toList = [118, 97, 108] then ((vt, vn, vs), 0) else if op.data.toList = [99, 111, 108] then (rs[(findN nm.data.toList zs).toNat]?.getD noV, 0) else combP op.data.toList (cmsP zs rs l)
def cmsP (zs : List (ByteArray × Int)) (rs : List V3) : List Ex → List (V3 × Int)
  | [] => []
  | x :: xs => cmP zs rs x :: cmsP zs rs xs
end
theorem cmsP_map (zs : List (ByteArray × Int)) (rs : List V3) : ∀ l : List Ex, cmsP zs rs l = l.map (cmP zs rs)
  | [] => by rw [cmsP]; rfl
  | x :: xs => by rw [cmsP, cmsP_map zs rs xs]; rfl
theorem cmP_op {zs : List (ByteArray × Int)} {rs : List V3} {op nm vs : ByteArray} {vt vn pos : Int} {l : List Ex} (h1 : op.data.toList ≠ [118, 97, 108]) (h2 : op.data.toList ≠ [99, 111, 108]) : cmP zs rs (.node op nm vt vn vs pos l) = combP op.data.toList (l.map (cmP zs rs)) := by
  rw [cmP, if_neg h1, if_neg h2, cmsP_map]
theorem tysP_ok {zs : List (ByteArray × Int)} : ∀ {l : List Ex}, (tysP zs l).2.1 = 0 → (tysP zs l).1 = l.map (fun y => (tyP zs y).1) ∧ ∀ y ∈ l, (tyP zs y).2.1 = 0
  | [], _ => by rw [tysP]; simp
  | x :: xs, h => by
    rw [tysP] at h ⊢
    by_cases h1 : (tyP zs x).2.1 = 0
    · rw [if_neg (fun hh => hh h1)] at h ⊢
      by_cases h2 : (tysP zs xs).2.1 = 0
      · rw [if_neg (fun hh => hh h2)]
        obtain ⟨i1, i2⟩ := tysP_ok h2
        refine ⟨by rw [i1]; rfl, fun y hy => ?_⟩
        rcases List.mem_cons.1 hy with rfl | hy
        · exact h1
        · exact i2 y hy
      · rw [if_pos h2] at h
        exact absurd h h2
    · rw [if_pos h1] at h
      exact absurd h h1
/-- What has a type comes to it, or a number goes over. -/
theorem cm_comes {zs : List (ByteArray × Int)} {rs : List V3} (hrow : RowR zs rs) : ∀ (x : Ex) (d : Nat), (∀ q ∈ x.pre d, nodeE q.1 = 0) → (∀ q ∈ x.pre d, inB q.1.vn) → (tyP zs x).2.1 = 0 → comes (tyP zs x).1 (cmP zs rs x) := by
  refine Ex.ind fun op nm vt vn vs pos l ih d hpre hin ht => ?_
  have hself : ((.node op nm vt vn vs pos l : Ex), d) ∈ (Ex.node op nm vt vn vs pos l).pre d := by rw [Ex.pre]; exact List.mem_cons_self ..
  by_cases h1 : op.data.toList = [118, 97, 108]
  · rw [tyP, if_pos h1, cmP, if_pos h1]
    have hn := (node_ok (hpre _ hself)).2.2 (by simp [Ex.op, Lib.toList_data, h1])
    have hi := hin _ hself
    simp only [Ex.vt, Ex.vn, Ex.vs] at hn hi
    unfold ckV at hn
    by_cases hc : chk vt vn vs.data.toList = 0
    · exact .inl ⟨rfl, rfl, hc, hi⟩
    · rw [if_pos hc] at hn
      exact absurd hn hc
  · by_cases h2 : op.data.toList = [99, 111, 108]
    · rw [tyP, if_neg h1, if_pos h2] at ht ⊢
      rw [cmP, if_neg h1, if_pos h2]
      rcases findN_cases nm.data.toList zs with ⟨h, _⟩ | ⟨k, hk, hlt, _⟩
      · rw [if_pos h] at ht
        exact absurd ht (by simp)
      · rw [if_neg (by omega), hk]
        have hl := hrow.1
        have := hrow.2 k hlt (by omega)
        refine .inl ⟨rfl, ?_⟩
        rw [Int.toNat_natCast, List.getElem?_eq_getElem hlt, List.getElem?_eq_getElem (by omega)]
        exact this
    · rw [tyP_op h1 h2] at ht ⊢
      rw [cmP_op h1 h2]
      by_cases ht0 : (tysP zs l).2.1 = 0
      · rw [if_neg (fun hh => hh ht0)] at ht ⊢
        obtain ⟨hm, hall⟩ := tysP_ok ht0
        by_cases hr0 : (ruleP op.data.toList (tysP zs l).1).2 = 0
        · rw [if_neg (fun hh => hh hr0)]
          rw [hm] at hr0 ⊢
          refine comb_comes (f := fun y => (tyP zs y).1) (fun y hy => ?_) (Prod.ext rfl hr0)
          have hsub : ∀ q ∈ y.pre (d + 1), q ∈ (Ex.node op nm vt vn vs pos l).pre d := fun q hq => by
            rw [Ex.pre]; exact List.mem_cons_of_mem _ (pres_mem hy q hq)
          exact ih y hy (d + 1) (fun q hq => hpre q (hsub q hq)) (fun q hq => hin q (hsub q hq)) (hall y hy)
        · rw [if_pos hr0] at ht
          exact absurd ht hr0
      · rw [if_pos ht0] at ht
        exact absurd ht ht0
--END
end Go.Proofs.YtkoejkpjkcejcaaGreatDoor
namespace Go.Proofs.YtkoejkpjkcejcaaGreatDoor
open Go.RowKit
set_option linter.unusedVariables false

theorem ret2 {k : IntKind} {a b : Int} {x : Value} (h : a = b) : Ending.returned (.tuple #[.int k a, x]) = .returned (.tuple #[.int k b, x]) := by rw [h]
end Go.Proofs.YtkoejkpjkcejcaaGreatDoor
namespace Go.Proofs.YtkoejkpjkcejcaaGreatDoor
open Go.RowKit
set_option linter.unusedVariables false

end Go.Proofs.YtkoejkpjkcejcaaGreatDoor
namespace Go.Proofs.YtkoejkpjkcejcaaGreatDoor
open Go.RowKit
set_option linter.unusedVariables false

def valV (v : V3) : Value := .agg #[.int .i64 v.1, .int .i64 v.2.1, .string v.2.2]
end Go.Proofs.YtkoejkpjkcejcaaGreatDoor
namespace Go.Proofs.YtkoejkpjkcejcaaGreatDoor
open Go.RowKit Go.BigFrame
set_option linter.unusedVariables false

mutual
/-- The first node that is wrong. -/
def ndE : Ex → Int
  | .node op nm vt vn vs pos l => if nodeE (.node op nm vt vn vs pos l) ≠ 0 then nodeE (.node op nm vt vn vs pos l) else ndsE l
def ndsE : List Ex → Int
  | [] => 0
  | x :: xs => if ndE x ≠ 0 then ndE x else ndsE xs
end
theorem fold_app (s : Int) (hs : s = 0) : ∀ (l m : List (Ex × Nat)), (foldP fck s (l ++ m)).1 = if (foldP fck s l).1 ≠ 0 then (foldP fck s l).1 else (foldP fck s m).1
  | [], m => by rw [List.nil_append, foldP]; simp [hs]
  | q :: r, m => by
    rw [List.cons_append, foldP, foldP]
    by_cases h : nodeE q.1 = 0
    · have h2 : (fck s q.1 q.2).2 = true := by simp [fck, h]
      rw [if_pos h2, if_pos h2]
      have h3 : (fck s q.1 q.2).1 = s := by rw [hs]; exact h
      rw [h3]
      exact fold_app s hs r m
    · have h2 : ¬ (fck s q.1 q.2).2 = true := by simp [fck, h]
      rw [if_neg h2, if_neg h2]
      have h3 : (fck s q.1 q.2).1 ≠ 0 := h
      simp only
      rw [if_pos h3]
theorem fold_nd : ∀ (x : Ex) (d : Nat), (foldP fck 0 (x.pre d)).1 = ndE x := by
  refine Ex.ind fun op nm vt vn vs pos l ih d => ?_
  have key : ∀ l : List Ex, (∀ y ∈ l, ∀ d, (foldP fck 0 (y.pre d)).1 = ndE y) → (foldP fck 0 (Ex.pres (d + 1) l)).1 = ndsE l := fun l => by
    induction l with
    | nil => intro _; rw [Ex.pres, ndsE, foldP]
    | cons y ys ihl =>
      intro h
      rw [Ex.pres, ndsE, fold_app 0 rfl, h y (by simp), ihl fun z hz => h z (by simp [hz])]
  rw [Ex.pre, ndE, foldP]
  by_cases h : nodeE (.node op nm vt vn vs pos l) = 0
  · have h2 : (fck 0 (.node op nm vt vn vs pos l) d).2 = true := by simp [fck, h]
    rw [if_pos h2, if_neg (fun hh => hh h)]
    have h3 : (fck 0 (.node op nm vt vn vs pos l) d).1 = 0 := h
    rw [h3]
    exact key l ih
  · have h2 : ¬ (fck 0 (.node op nm vt vn vs pos l) d).2 = true := by simp [fck, h]
    rw [if_neg h2, if_pos h]
    rfl
theorem ckP_nd (x : Ex) : ckP x = if x.small = false then 4 else ndE x := by
  rw [ckP, tg_small, fold_nd]
  cases x.small <;> simp
/-- What is wrong with a node, by the document's Arity. -/
theorem node_ar (x : Ex) : nodeE x = nodeB (decide (0 ≤ arityT x.op.data.toList)) (x.op.toList == [99, 111, 108]) (nameT x.nm.data.toList) ((x.args.length : Int) != arityT x.op.data.toList) (!(x.nm.toList == [])) (x.op.toList == [118, 97, 108]) (!((x.vt == 0) && ((x.vn == 0) && (x.vs.toList == [])))) (ckV x.vt x.vn x.vs.data.toList) := by
  obtain ⟨h1, h2⟩ := arity_ops x.op.data.toList
  rw [nodeE, h1]
  by_cases h : 0 ≤ arityT x.op.data.toList
  · rw [h2 h]
  · rw [decide_eq_false h]
    simp [nodeB]
end Go.Proofs.YtkoejkpjkcejcaaGreatDoor
