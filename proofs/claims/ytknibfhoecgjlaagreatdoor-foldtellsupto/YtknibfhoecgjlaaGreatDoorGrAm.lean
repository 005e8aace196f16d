/-
  FdP, FdQ, FdA, EvAq, EvDo, in one text.
-/
import Derived.Test.YtknibfhoecgjlaaGreatDoorGrAk
import Derived.Test.YtknibfhoecgjlaaGreatDoorGrAl
import Derived.Test.YtknibfhoecgjlaaGreatDoorQEvFn
import Derived.Deep.RegionHeld3
import Derived.Test.YtknibfhoecgjlaaGreatDoorQEvAp
namespace Go.Proofs.YtknibfhoecgjlaaGreatDoor
open Go.RowKit
set_option linter.unusedVariables false
--BEGIN
def isV (x : Ex) : Bool := decide (x.op.data.toList = [118, 97, 108])
def val3 (x : Ex) : V3 := (x.vt, x.vn, x.vs)
/-- What Do says of an operation whose parts are all values, if it may stand as a value. -/
def rekP (op : List UInt8) (l : List Ex) : Option V3 :=
  if l.all isV = true ∧ (doP op (l.map val3)).2 = 0 ∧ 0 ≤ (doP op (l.map val3)).1.2.1 then some (doP op (l.map val3)).1 else none
/-- Which part an operation is whose first is a value. -/
def chN (op : List UInt8) (y : Bool) : Nat :=
  if op = [105, 102] ∧ y = false then 2 else if (op = [97, 110, 100] ∧ y = false) ∨ (op = [111, 114] ∧ y = true) then 0 else 1
def isCh (op : List UInt8) : Bool := decide (op = [111, 114]) || (decide (op = [97, 110, 100]) || decide (op = [105, 102]))
/-- What takes the place of a node whose parts are short, and which is no value by Do. -/
def insQ (n : Ex) (op : List UInt8) : List Ex → Ex
  | [] => n
  | f :: r => if isCh op = true ∧ isV f = true then (f :: r)[chN op (f.vn == 1)]?.getD n else if op = [110, 111, 116] ∧ f.op.data.toList = [110, 111, 116] then f.args[0]?.getD n else n
/-- What takes the place of a node whose parts are short. -/
def insP : Ex → Ex
  | .node op nm vt vn vs pos l => match rekP op.data.toList l with
    | some v => .node ⟨#[118, 97, 108]⟩ ⟨#[]⟩ v.1 v.2.1 v.2.2 pos []
    | none => insQ (.node op nm vt vn vs pos l) op.data.toList l
mutual
/-- An expression made short. -/
def fdP : Ex → Ex
  | .node op nm vt vn vs pos l => insP (.node op nm vt vn vs pos (fdsP l))
def fdsP : List Ex → List Ex
  | [] => []
  | x :: xs => fdP x :: fdsP xs
end
theorem fdsP_map : ∀ l : List Ex, fdsP l = l.map fdP
  | [] => by rw [fdsP]; rfl
  | x :: xs => by rw [fdsP, fdsP_map xs]; rfl
theorem fdP_eq (op nm : ByteArray) (vt vn : Int) (vs : ByteArray) (pos : Int) (l : List Ex) : fdP (.node op nm vt vn vs pos l) = insP (.node op nm vt vn vs pos (l.map fdP)) := by rw [fdP, fdsP_map]
/-- The ways of a node. -/
theorem ins_ways (op nm : ByteArray) (vt vn : Int) (vs : ByteArray) (pos : Int) (l : List Ex) :
    (∃ v, rekP op.data.toList l = some v ∧ insP (.node op nm vt vn vs pos l) = .node ⟨#[118, 97, 108]⟩ ⟨#[]⟩ v.1 v.2.1 v.2.2 pos []) ∨
    (∃ f r y, l = f :: r ∧ isCh op.data.toList = true ∧ isV f = true ∧ l[chN op.data.toList (f.vn == 1)]? = some y ∧ insP (.node op nm vt vn vs pos l) = y) ∨
    (∃ f r y, l = f :: r ∧ op.data.toList = [110, 111, 116] ∧ f.op.data.toList = [110, 111, 116] ∧ f.args[0]? = some y ∧ insP (.node op nm vt vn vs pos l) = y) ∨
    insP (.node op nm vt vn vs pos l) = .node op nm vt vn vs pos l := by
  cases hr : rekP op.data.toList l with
  | some v => exact .inl ⟨v, rfl, by rw [insP, hr]⟩
  | none =>
    cases l with
    | nil => exact .inr (.inr (.inr (by rw [insP, hr]; rfl)))
    | cons f r =>
      by_cases h1 : isCh op.data.toList = true ∧ isV f = true
      · cases hy : (f :: r)[chN op.data.toList (f.vn == 1)]? with
        | some y => exact .inr (.inl ⟨f, r, y, rfl, h1.1, h1.2, hy, by rw [insP, hr]; simp only; rw [insQ, if_pos h1, hy]; rfl⟩)
        | none => exact .inr (.inr (.inr (by rw [insP, hr]; simp only; rw [insQ, if_pos h1, hy]; rfl)))
      · by_cases h2 : op.data.toList = [110, 111, 116] ∧ f.op.data.toList = [110, 111, 116]
        · cases hy : f.args[0]? with
          | some y => exact .inr (.inr (.inl ⟨f, r, y, rfl, h2.1, h2.2, hy, by rw [insP, hr]; simp only; rw [insQ, if_neg h1, if_pos h2, hy]; rfl⟩))
          | none => exact .inr (.inr (.inr (by rw [insP, hr]; simp only; rw [insQ, if_neg h1, if_pos h2, hy]; rfl)))
        · exact .inr (.inr (.inr (by rw [insP, hr]; simp only; rw [insQ, if_neg h1, if_neg h2])))
/-- All nodes stay. -/
inductive Shrt : Ex → Prop
  | mk (op nm : ByteArray) (vt vn : Int) (vs : ByteArray) (pos : Int) (l : List Ex) (h : ∀ y ∈ l, Shrt y) (hs : insP (.node op nm vt vn vs pos l) = .node op nm vt vn vs pos l) : Shrt (.node op nm vt vn vs pos l)
theorem Shrt.part {x : Ex} (h : Shrt x) : ∀ y ∈ x.args, Shrt y := by
  cases h with
  | mk op nm vt vn vs pos l h hs => exact h
theorem rek_val : rekP [118, 97, 108] [] = none := by decide
theorem shrt_val (nm : ByteArray) (vt vn : Int) (vs : ByteArray) (pos : Int) : Shrt (.node ⟨#[118, 97, 108]⟩ nm vt vn vs pos []) := by
  refine .mk _ _ _ _ _ _ _ (fun y hy => by simp at hy) ?_
  rw [insP, show (⟨#[118, 97, 108]⟩ : ByteArray).data.toList = [118, 97, 108] from rfl, rek_val]
  rfl
theorem ins_shrt (op nm : ByteArray) (vt vn : Int) (vs : ByteArray) (pos : Int) (l : List Ex) (h : ∀ y ∈ l, Shrt y) : Shrt (insP (.node op nm vt vn vs pos l)) := by
  rcases ins_ways op nm vt vn vs pos l with ⟨v, _, e⟩ | ⟨f, r, y, rfl, _, _, hy, e⟩ | ⟨f, r, y, rfl, _, _, hy, e⟩ | e
  · rw [e]; exact shrt_val _ _ _ _ _
  · rw [e]; exact h y (List.mem_of_getElem? hy)
  · rw [e]; exact (h f (List.mem_cons_self ..)).part y (List.mem_of_getElem? hy)
  · rw [e]; exact .mk _ _ _ _ _ _ _ h e
theorem fd_shrt : ∀ x, Shrt (fdP x) := by
  refine Ex.ind fun op nm vt vn vs pos l ih => ?_
  rw [fdP_eq]
  refine ins_shrt _ _ _ _ _ _ _ fun y hy => ?_
  obtain ⟨z, hz, rfl⟩ := List.mem_map.1 hy
  exact ih z hz
theorem shrt_fd : ∀ x, Shrt x → fdP x = x := by
  refine Ex.ind fun op nm vt vn vs pos l ih h => ?_
  have hl : l.map fdP = l := by
    rw [show l = l.map id by simp]
    rw [List.map_map]
    exact List.map_congr_left fun y hy => ih y hy (h.part y hy)
  rw [fdP_eq, hl]
  cases h with
  | mk _ _ _ _ _ _ _ _ hs => exact hs
/-- Made short once more it stays. -/
theorem fd_fd (x : Ex) : fdP (fdP x) = fdP x := shrt_fd _ (fd_shrt x)
theorem sizes_map {f : Ex → Ex} : ∀ {l : List Ex}, (∀ y ∈ l, (f y).size ≤ y.size) → Ex.sizes (l.map f) ≤ Ex.sizes l
  | [], _ => by simp [Ex.sizes]
  | x :: xs, h => by
    rw [List.map_cons, Ex.sizes, Ex.sizes]
    have h1 := h x (List.mem_cons_self ..)
    have h2 := sizes_map (f := f) (l := xs) fun y hy => h y (List.mem_cons_of_mem _ hy)
    omega
theorem sizes_mem {y : Ex} : ∀ {l : List Ex}, y ∈ l → y.size ≤ Ex.sizes l
  | x :: xs, h => by
    rw [Ex.sizes]
    rcases List.mem_cons.1 h with rfl | h
    · omega
    · have := sizes_mem h; omega
theorem deeps_map {f : Ex → Ex} : ∀ {l : List Ex}, (∀ y ∈ l, (f y).deep ≤ y.deep) → Ex.deeps (l.map f) ≤ Ex.deeps l
  | [], _ => by simp [Ex.deeps]
  | x :: xs, h => by
    rw [List.map_cons, Ex.deeps, Ex.deeps]
    have h1 := h x (List.mem_cons_self ..)
    have h2 := deeps_map (f := f) (l := xs) fun y hy => h y (List.mem_cons_of_mem _ hy)
    omega
theorem deeps_mem {y : Ex} : ∀ {l : List Ex}, y ∈ l → y.deep ≤ Ex.deeps l
  | x :: xs, h => by
    rw [Ex.deeps]
    rcases List.mem_cons.1 h with rfl | h
    · omega
    · have := deeps_mem h; omega
theorem Ex.part_size {x y : Ex} (h : y ∈ x.args) : y.size < x.size ∧ y.deep < x.deep := by
  cases x with
  | node op nm vt vn vs pos l =>
    have h1 := sizes_mem (show y ∈ l from h)
    have h2 := deeps_mem (show y ∈ l from h)
    rw [Ex.size, Ex.deep]
    omega
theorem ins_size (op nm : ByteArray) (vt vn : Int) (vs : ByteArray) (pos : Int) (l : List Ex) : (insP (.node op nm vt vn vs pos l)).size ≤ (Ex.node op nm vt vn vs pos l).size ∧ (insP (.node op nm vt vn vs pos l)).deep ≤ (Ex.node op nm vt vn vs pos l).deep := by
  rcases ins_ways op nm vt vn vs pos l with ⟨v, _, e⟩ | ⟨f, r, y, rfl, _, _, hy, e⟩ | ⟨f, r, y, rfl, _, _, hy, e⟩ | e
  · rw [e, Ex.size, Ex.size, Ex.deep, Ex.deep, Ex.sizes, Ex.deeps]; omega
  · rw [e]
    have := Ex.part_size (x := .node op nm vt vn vs pos (f :: r)) (List.mem_of_getElem? hy)
    omega
  · rw [e]
    have h1 := Ex.part_size (x := .node op nm vt vn vs pos (f :: r)) (List.mem_cons_self (a := f) (l := r))
    have h2 := Ex.part_size (List.mem_of_getElem? hy)
    omega
  · rw [e]; omega
/-- It has no more nodes, and is no deeper. -/
theorem fd_size : ∀ x, (fdP x).size ≤ x.size ∧ (fdP x).deep ≤ x.deep := by
  refine Ex.ind fun op nm vt vn vs pos l ih => ?_
  rw [fdP_eq]
  have h := ins_size op nm vt vn vs pos (l.map fdP)
  have h1 := sizes_map (f := fdP) (l := l) fun y hy => (ih y hy).1
  have h2 := deeps_map (f := fdP) (l := l) fun y hy => (ih y hy).2
  rw [Ex.size, Ex.deep] at h
  rw [Ex.size, Ex.deep]
  omega
/-- A node and all below it are so. -/
inductive AllN (p : Ex → Prop) : Ex → Prop
  | mk (op nm : ByteArray) (vt vn : Int) (vs : ByteArray) (pos : Int) (l : List Ex) (h : ∀ y ∈ l, AllN p y) (hs : p (.node op nm vt vn vs pos l)) : AllN p (.node op nm vt vn vs pos l)
theorem AllN.part {p : Ex → Prop} {x : Ex} (h : AllN p x) : ∀ y ∈ x.args, AllN p y := by
  cases h with
  | mk op nm vt vn vs pos l h hs => exact h
theorem AllN.self {p : Ex → Prop} {x : Ex} (h : AllN p x) : p x := by
  cases h with
  | mk op nm vt vn vs pos l h hs => exact hs
theorem allN_pre {p : Ex → Prop} : ∀ (x : Ex) (d : Nat), (∀ q ∈ x.pre d, p q.1) ↔ AllN p x := by
  refine Ex.ind fun op nm vt vn vs pos l ih d => ?_
  constructor
  · intro h
    refine .mk _ _ _ _ _ _ _ (fun y hy => (ih y hy (d + 1)).1 fun q hq => h q (by rw [Ex.pre]; exact List.mem_cons_of_mem _ (pres_mem hy q hq))) ?_
    exact h ((.node op nm vt vn vs pos l : Ex), d) (by rw [Ex.pre]; exact List.mem_cons_self ..)
  · intro h q hq
    rw [Ex.pre] at hq
    rcases List.mem_cons.1 hq with rfl | hq
    · exact h.self
    · have key : ∀ l : List Ex, (∀ y ∈ l, ∀ d, (∀ q ∈ y.pre d, p q.1) ↔ AllN p y) → (∀ y ∈ l, AllN p y) → ∀ q ∈ Ex.pres (d + 1) l, p q.1 := fun l => by
        induction l with
        | nil => intro _ _ q hq; rw [Ex.pres] at hq; simp at hq
        | cons x xs ihx =>
          intro h1 h2 q hq
          rw [Ex.pres] at hq
          rcases List.mem_append.1 hq with hq | hq
          · exact (h1 x (List.mem_cons_self ..) (d + 1)).2 (h2 x (List.mem_cons_self ..)) q hq
          · exact ihx (fun y hy => h1 y (List.mem_cons_of_mem _ hy)) (fun y hy => h2 y (List.mem_cons_of_mem _ hy)) q hq
      exact key l ih h.part q hq
--END
end Go.Proofs.YtknibfhoecgjlaaGreatDoor
namespace Go.Proofs.YtknibfhoecgjlaaGreatDoor
open Go.RowKit
set_option linter.unusedVariables false
--BEGIN
/-- An expression that is right, over columns, of a type. -/
structure Rg (zs : List (ByteArray × Int)) (T : Int) (x : Ex) : Prop where
  nd : AllN (fun q => nodeE q = 0) x
  bd : AllN (fun q => inB q.vn) x
  ty : tyP zs x = (T, 0, 0)
theorem ty_zero {zs : List (ByteArray × Int)} {x : Ex} (h : (tyP zs x).2.1 = 0) : tyP zs x = ((tyP zs x).1, 0, 0) := by
  cases x with
  | node op nm vt vn vs pos l =>
    by_cases h1 : op.data.toList = [118, 97, 108]
    · rw [tyP, if_pos h1]
    · by_cases h2 : op.data.toList = [99, 111, 108]
      · rw [tyP, if_neg h1, if_pos h2] at h ⊢
        by_cases h3 : findN nm.data.toList zs = -1
        · rw [if_pos h3] at h; exact absurd h (by simp)
        · rw [if_neg h3]
      · rw [tyP_op h1 h2] at h ⊢
        by_cases h3 : (tysP zs l).2.1 = 0
        · rw [if_neg (fun hh => hh h3)] at h ⊢
          by_cases h4 : (ruleP op.data.toList (tysP zs l).1).2 = 0
          · rw [if_neg (fun hh => hh h4)]
          · rw [if_pos h4] at h; exact absurd h h4
        · rw [if_pos h3] at h; exact absurd h h3
theorem fd_tys {zs : List (ByteArray × Int)} : ∀ {l : List Ex}, (∀ y ∈ l, (tyP zs y).2.1 = 0) → tysP zs l = (l.map (fun y => (tyP zs y).1), 0, 0)
  | [], _ => by rw [tysP]; rfl
  | x :: xs, h => by
    rw [tysP, if_neg (fun hh => hh (h x (by simp))), fd_tys fun y hy => h y (by simp [hy]), if_neg (by simp)]
    rfl
theorem rg_parts {zs : List (ByteArray × Int)} {T : Int} {op nm vs : ByteArray} {vt vn pos : Int} {l : List Ex} (h : Rg zs T (.node op nm vt vn vs pos l)) (h1 : op.data.toList ≠ [118, 97, 108]) (h2 : op.data.toList ≠ [99, 111, 108]) : (∀ y ∈ l, Rg zs (tyP zs y).1 y) ∧ ruleP op.data.toList (l.map fun y => (tyP zs y).1) = (T, 0) := by
  have ht := h.ty
  rw [tyP_op h1 h2] at ht
  have h3 : (tysP zs l).2.1 = 0 := by
    apply Classical.byContradiction
    intro hh
    rw [if_pos hh] at ht
    simp only [Prod.mk.injEq] at ht
    exact hh (by rw [ht.2])
  rw [if_neg (fun hh => hh h3)] at ht
  obtain ⟨h4, h5⟩ := tysP_ok h3
  refine ⟨fun y hy => ⟨h.nd.part y hy, h.bd.part y hy, ty_zero (h5 y hy)⟩, ?_⟩
  rw [h4] at ht
  have h6 : (ruleP op.data.toList (l.map fun y => (tyP zs y).1)).2 = 0 := by
    apply Classical.byContradiction
    intro hh
    rw [if_pos hh] at ht
    simp only [Prod.mk.injEq] at ht
    exact hh ht.2.1
  rw [if_neg (fun hh => hh h6)] at ht
  simp only [Prod.mk.injEq] at ht
  exact Prod.ext ht.1 h6
theorem rg_make {zs : List (ByteArray × Int)} {T : Int} {op nm vs : ByteArray} {vt vn pos : Int} {l : List Ex} (h1 : op.data.toList ≠ [118, 97, 108]) (h2 : op.data.toList ≠ [99, 111, 108]) (hn : nodeE (.node op nm vt vn vs pos l) = 0) (hb : inB vn) (hl : ∀ y ∈ l, Rg zs (tyP zs y).1 y) (hr : ruleP op.data.toList (l.map fun y => (tyP zs y).1) = (T, 0)) : Rg zs T (.node op nm vt vn vs pos l) := by
  refine ⟨.mk _ _ _ _ _ _ _ (fun y hy => (hl y hy).nd) hn, .mk _ _ _ _ _ _ _ (fun y hy => (hl y hy).bd) hb, ?_⟩
  rw [tyP_op h1 h2, fd_tys fun y hy => by rw [(hl y hy).ty], if_neg (by simp)]
  simp only
  rw [hr, if_neg (by simp)]
theorem rg_comes {zs : List (ByteArray × Int)} {rs : List V3} {T : Int} {x : Ex} (hrow : RowR zs rs) (h : Rg zs T x) : comes T (cmP zs rs x) := by
  have := cm_comes hrow x 0 ((allN_pre x 0).2 h.nd) ((allN_pre x 0).2 h.bd) (by rw [h.ty])
  rw [h.ty] at this
  exact this
theorem rg_val {zs : List (ByteArray × Int)} {T : Int} {x : Ex} (h : Rg zs T x) (hv : isV x = true) : okV T (val3 x) ∧ ∀ rs, cmP zs rs x = (val3 x, 0) := by
  have hn := h.nd.self
  have hb := h.bd.self
  have ht := h.ty
  cases x with
  | node op nm vt vn vs pos l =>
    have h1 : op.data.toList = [118, 97, 108] := of_decide_eq_true hv
    rw [tyP, if_pos h1] at ht
    have hk := (node_ok hn).2.2 (by simp [Ex.op, Lib.toList_data, h1])
    simp only [Ex.vt, Ex.vn, Ex.vs] at hk hb
    simp only [Prod.mk.injEq, and_true] at ht
    unfold ckV at hk
    refine ⟨⟨ht, ?_, hb⟩, fun rs => by rw [cmP, if_pos h1]; rfl⟩
    show chk vt vn vs.data.toList = 0
    apply Classical.byContradiction
    intro hc
    rw [if_pos hc] at hk
    exact hc hk
theorem fd_two {v : V3} (h : okV 2 v) : v = truP (isY v) ∧ ((v.2.1 == 1) = isY v) := by
  obtain ⟨t, n, s⟩ := v
  obtain ⟨h1, h2, -⟩ := h
  simp only at h1 h2
  subst h1
  obtain ⟨h3, h4⟩ := chk_two h2
  have hs : s = ⟨#[]⟩ := by
    cases s with
    | mk a => rw [show a = #[] from Array.toList_eq_nil_iff.1 h4]
  subst hs
  rcases h3 with rfl | rfl
  · exact ⟨rfl, rfl⟩
  · exact ⟨rfl, rfl⟩
theorem fd_rule2 {α : Type} {op : List UInt8} {l : List α} {f : α → Int} {T : Int} (hr : ruleP op (l.map f) = (T, 0)) (ho : op = [111, 114] ∨ op = [97, 110, 100]) : ∃ y z, l = [y, z] ∧ f y = 2 ∧ f z = 2 ∧ T = 2 := by
  obtain ⟨r, hf, hlen, hall, hT⟩ := ruleP_in hr
  rw [List.length_map] at hlen
  have hr2 : kdCnt r = 2 ∧ r.2.1 = 2 ∧ r.2.2.1 = 2 ∧ r.2.2.2.2 = 2 := by
    rcases ho with rfl | rfl
    · obtain rfl := Option.some.inj (hf.symm.trans (show kdFind [111, 114] kdRules = some ([111, 114], 2, 2, 0, 2) from rfl))
      exact ⟨rfl, rfl, rfl, rfl⟩
    · obtain rfl := Option.some.inj (hf.symm.trans (show kdFind [97, 110, 100] kdRules = some ([97, 110, 100], 2, 2, 0, 2) from rfl))
      exact ⟨rfl, rfl, rfl, rfl⟩
  rw [hr2.1] at hlen
  rw [hr2.2.2.2] at hT
  match l, hlen, hall with
  | [y, z], _, hall =>
    rw [hr2.2.1, hr2.2.2.1, List.map_cons, kdAll, List.map_cons, kdAll] at hall
    obtain ⟨a1, a2⟩ := Bool.and_eq_true_iff.1 hall
    obtain ⟨a3, _⟩ := Bool.and_eq_true_iff.1 a2
    exact ⟨y, z, rfl, by rw [of_decide_eq_true a1]; rfl, by rw [of_decide_eq_true a3]; rfl, by rw [← hT]; rfl⟩
theorem fd_rule3 {α : Type} {l : List α} {f : α → Int} {T : Int} (hr : ruleP [105, 102] (l.map f) = (T, 0)) : ∃ y z u, l = [y, z, u] ∧ f y = 2 ∧ f z = T ∧ f u = T := by
  obtain ⟨r, hf, hlen, hall, hT⟩ := ruleP_in hr
  rw [List.length_map] at hlen
  obtain rfl := Option.some.inj (hf.symm.trans (show kdFind [105, 102] kdRules = some ([105, 102], 2, -1, -1, -1) from rfl))
  match l, hlen, hall, hT with
  | [y, z, u], _, hall, hT =>
    simp [kdAll, kdMeant] at hall hT
    exact ⟨y, z, u, rfl, hall.1, by rw [hall.2, hT], hT⟩
theorem fd_rule1 {α : Type} {l : List α} {f : α → Int} {T : Int} (hr : ruleP [110, 111, 116] (l.map f) = (T, 0)) : ∃ y, l = [y] ∧ f y = 2 ∧ T = 2 := by
  obtain ⟨r, hf, hlen, hall, hT⟩ := ruleP_in hr
  rw [List.length_map] at hlen
  obtain rfl := Option.some.inj (hf.symm.trans (show kdFind [110, 111, 116] kdRules = some ([110, 111, 116], 2, 0, 0, 2) from rfl))
  match l, hlen, hall, hT with
  | [y], _, hall, hT =>
    simp [kdAll, kdMeant] at hall hT
    exact ⟨y, rfl, hall, hT.symm⟩
theorem fd_some {α : Type} {op : List UInt8} {l : List α} {f : α → Int} {T : Int} (hr : ruleP op (l.map f) = (T, 0)) : ∃ y r, l = y :: r := by
  cases l with
  | nil =>
    obtain ⟨r, hf, hlen, hall, hT⟩ := ruleP_in hr
    have := (kdCnt_ok r (kdFind_mem hf).1).1
    simp at hlen
    omega
  | cons y r => exact ⟨y, r, rfl⟩
theorem first_vals : ∀ vs : List V3, firstE (vs.map fun v => (v, 0)) = 0
  | [] => rfl
  | v :: vs => by rw [List.map_cons, firstE, if_neg (by simp)]; exact first_vals vs
theorem map_vals : ∀ vs : List V3, (vs.map fun v => (v, (0 : Int))).map (·.1) = vs
  | [] => rfl
  | v :: vs => by rw [List.map_cons, List.map_cons, map_vals vs]
theorem fd_do_app {op : List UInt8} {vs : List V3} {T : Int} (hv : ∀ v ∈ vs, chk v.1 v.2.1 v.2.2.data.toList = 0) (hr : ruleP op (vs.map (·.1)) = (T, 0)) : doP op vs = appP op vs := by
  rw [doP, if_neg (fun h => h (vlE_zero.2 hv)), hr, if_neg (by simp)]
/-- Of values alone it comes to what Do says. -/
theorem comb_vals {op : List UInt8} {vs : List V3} {T : Int} (hv : ∀ v ∈ vs, chk v.1 v.2.1 v.2.2.data.toList = 0 ∧ inB v.2.1) (hr : ruleP op (vs.map (·.1)) = (T, 0)) : combP op (vs.map fun v => (v, 0)) = doP op vs := by
  have hd := fd_do_app (fun v h => (hv v h).1) hr
  by_cases h1 : op = [111, 114] ∨ op = [97, 110, 100]
  · obtain ⟨a, b, rfl, ha, hb, -⟩ := fd_rule2 hr h1
    have oa : okV 2 a := ⟨ha, (hv a (by simp)).1, (hv a (by simp)).2⟩
    have ob : okV 2 b := ⟨hb, (hv b (by simp)).1, (hv b (by simp)).2⟩
    rw [(fd_two oa).1, (fd_two ob).1]
    rcases h1 with rfl | rfl <;> cases isY a <;> cases isY b <;> decide
  · by_cases h2 : op = [105, 102]
    · subst h2
      obtain ⟨a, b, c, rfl, ha, hb, hc⟩ := fd_rule3 hr
      rw [hd]
      simp [combP, appP, ops5]
      cases isY a <;> rfl
    · obtain ⟨f, r, rfl⟩ := fd_some hr
      rw [List.map_cons, combP, if_neg (by simp), if_neg, if_neg h2, first_vals, if_neg (by simp), map_vals]
      simp only [Bool.or_eq_true, Bool.and_eq_true, decide_eq_true_eq]
      rintro (⟨h, _⟩ | ⟨h, _⟩)
      · exact h1 (.inr h)
      · exact h1 (.inl h)
theorem node_val (vt vn : Int) (vs : ByteArray) (pos : Int) : nodeE (.node ⟨#[118, 97, 108]⟩ ⟨#[]⟩ vt vn vs pos []) = ckV vt vn vs.data.toList := by
  have h1 : apL [118, 97, 108] opsL = (0, true) := by decide
  simp [nodeE, nodeB, Ex.op, Ex.nm, Ex.vt, Ex.vn, Ex.vs, Ex.args, h1, Lib.toList_data]
theorem rek_none {op : List UInt8} (h : op = [118, 97, 108] ∨ op = [99, 111, 108]) : rekP op [] = none := by
  rcases h with rfl | rfl <;> decide
theorem leaf_args {op nm vs : ByteArray} {vt vn pos : Int} {l : List Ex} (hn : nodeE (.node op nm vt vn vs pos l) = 0) (h : op.data.toList = [118, 97, 108] ∨ op.data.toList = [99, 111, 108]) : l = [] := by
  have := (node_ok hn).2.1
  simp only [Ex.args, Ex.op] at this
  rcases h with h | h <;> rw [h] at this <;> exact List.length_eq_zero_iff.1 (by have h0 : (l.length : Int) = 0 := this; omega)
theorem ch_ops {op : List UInt8} (h : isCh op = true) : op = [111, 114] ∨ op = [97, 110, 100] ∨ op = [105, 102] := by
  simpa [isCh] using h
theorem not_not {a : V3 × Int} (h : comes 2 a) : combP [110, 111, 116] [combP [110, 111, 116] [a]] = a := by
  rcases h with ⟨h0, h1⟩ | h
  · obtain ⟨v, e⟩ := a
    simp only at h0 h1
    subst h0
    have e1 := (fd_two h1).1
    generalize isY v = b at e1
    subst e1
    cases b <;> decide
  · subst h; decide
theorem and_yes {a b : V3 × Int} (ha : okV 2 a.1 ∧ a.2 = 0) (hb : comes 2 b) (hy : isY a.1 = true) : combP [97, 110, 100] [a, b] = b := by
  obtain ⟨v, e⟩ := a
  obtain ⟨h1, rfl⟩ := ha
  have e1 := (fd_two h1).1
  rw [show isY v = true from hy] at e1
  simp only at e1
  subst e1
  rcases hb with ⟨h0, h2⟩ | h
  · obtain ⟨u, e⟩ := b
    simp only at h0 h2
    subst h0
    have e2 := (fd_two h2).1
    generalize isY u = c at e2
    subst e2
    cases c <;> decide
  · subst h; decide
theorem or_no {a b : V3 × Int} (ha : okV 2 a.1 ∧ a.2 = 0) (hb : comes 2 b) (hy : isY a.1 = false) : combP [111, 114] [a, b] = b := by
  obtain ⟨v, e⟩ := a
  obtain ⟨h1, rfl⟩ := ha
  have e1 := (fd_two h1).1
  rw [show isY v = false from hy] at e1
  simp only at e1
  subst e1
  rcases hb with ⟨h0, h2⟩ | h
  · obtain ⟨u, e⟩ := b
    simp only at h0 h2
    subst h0
    have e2 := (fd_two h2).1
    generalize isY u = c at e2
    subst e2
    cases c <;> decide
  · subst h; decide
theorem ins_right {zs : List (ByteArray × Int)} {T : Int} {op nm vs : ByteArray} {vt vn pos : Int} {l : List Ex} (h : Rg zs T (.node op nm vt vn vs pos l)) : Rg zs T (insP (.node op nm vt vn vs pos l)) ∧ ∀ rs, RowR zs rs → cmP zs rs (insP (.node op nm vt vn vs pos l)) = cmP zs rs (.node op nm vt vn vs pos l) := by
  rcases ins_ways op nm vt vn vs pos l with ⟨v, hv, e⟩ | ⟨f, r, y, hl, hc, hf, hy, e⟩ | ⟨f, r, y, hl, ho, hf, hy, e⟩ | e
  · have hop : ¬ (op.data.toList = [118, 97, 108] ∨ op.data.toList = [99, 111, 108]) := fun hh => by
      have := leaf_args h.nd.self hh
      subst this
      rw [rek_none hh] at hv
      exact absurd hv (by simp)
    obtain ⟨h1, h2⟩ := not_or.1 hop
    obtain ⟨hp, hr⟩ := rg_parts h h1 h2
    rw [rekP] at hv
    by_cases hcond : l.all isV = true ∧ (doP op.data.toList (l.map val3)).2 = 0 ∧ 0 ≤ (doP op.data.toList (l.map val3)).1.2.1
    · rw [if_pos hcond] at hv
      obtain ⟨ha, h0, hpos⟩ := hcond
      have hv := Option.some.inj hv
      have hvals : ∀ y ∈ l, okV (tyP zs y).1 (val3 y) ∧ ∀ rs, cmP zs rs y = (val3 y, 0) := fun y hy => rg_val (hp y hy) (List.all_eq_true.1 ha y hy)
      have hr2 : ruleP op.data.toList ((l.map val3).map (·.1)) = (T, 0) := by
        rw [List.map_map, ← hr]
        congr 1
        exact List.map_congr_left fun y hy => (hvals y hy).1.1
      have hvv : ∀ v ∈ l.map val3, chk v.1 v.2.1 v.2.2.data.toList = 0 ∧ inB v.2.1 := fun v hm => by
        obtain ⟨y, hy, rfl⟩ := List.mem_map.1 hm
        exact (hvals y hy).1.2
      have hcm := app_comes (fun v hm => (hvv v hm).1) (fun v hm => (hvv v hm).2) hr2
      rw [← fd_do_app (fun v hm => (hvv v hm).1) hr2] at hcm
      have hok : okV T v := by
        rcases hcm with ⟨_, hk⟩ | hk
        · rw [← hv]; exact hk
        · rw [hk] at h0; exact absurd h0 (by decide)
      rw [hv] at hpos
      rw [e]
      refine ⟨⟨.mk _ _ _ _ _ _ _ (fun y hy => by simp at hy) ?_, .mk _ _ _ _ _ _ _ (fun y hy => by simp at hy) hok.2.2, ?_⟩, fun rs hrow => ?_⟩
      · rw [node_val, ckV, if_neg (fun hh => hh hok.2.1), if_neg (by omega)]
      · rw [tyP, if_pos rfl, hok.1]
      · rw [cmP, if_pos rfl, cmP_op h1 h2, show l.map (cmP zs rs) = (l.map val3).map fun v => (v, 0) by
          rw [List.map_map]; exact List.map_congr_left fun y hy => (hvals y hy).2 rs]
        rw [comb_vals hvv hr2]
        exact Prod.ext hv.symm h0.symm
    · rw [if_neg hcond] at hv
      exact absurd hv (by simp)
  · have hops := ch_ops hc
    have h1 : op.data.toList ≠ [118, 97, 108] := by rcases hops with h | h | h <;> rw [h] <;> decide
    have h2 : op.data.toList ≠ [99, 111, 108] := by rcases hops with h | h | h <;> rw [h] <;> decide
    obtain ⟨hp, hr⟩ := rg_parts h h1 h2
    rw [e]
    have hfm : f ∈ l := by rw [hl]; exact List.mem_cons_self ..
    obtain ⟨fok, fcm⟩ := rg_val (hp f hfm) hf
    rcases hops with ho | ho | ho
    · rw [ho] at hr hy
      obtain ⟨a, b, hab, ta, tb, rfl⟩ := fd_rule2 hr (.inl rfl)
      rw [hl] at hab
      injection hab with e1 e2
      subst e1 e2 hl
      rw [ta] at fok
      have hyy : (f.vn == 1) = isY (val3 f) := rfl
      cases hY : isY (val3 f)
      · rw [hyy, hY] at hy
        obtain rfl : b = y := by simpa [chN] using hy
        have hb := hp b (by simp)
        rw [tb] at hb
        refine ⟨hb, fun rs hrow => ?_⟩
        rw [cmP_op h1 h2, ho, List.map_cons, List.map_cons, List.map_nil, or_no (by rw [fcm]; exact ⟨fok, rfl⟩) (rg_comes hrow hb) (by rw [fcm]; exact hY)]
      · rw [hyy, hY] at hy
        obtain rfl : f = y := by simpa [chN] using hy
        have hb := hp f (by simp)
        rw [ta] at hb
        refine ⟨hb, fun rs hrow => ?_⟩
        rw [cmP_op h1 h2, ho, List.map_cons, combP, fcm, if_neg (by simp), if_pos (by simp [hY])]
    · rw [ho] at hr hy
      obtain ⟨a, b, hab, ta, tb, rfl⟩ := fd_rule2 hr (.inr rfl)
      rw [hl] at hab
      injection hab with e1 e2
      subst e1 e2 hl
      rw [ta] at fok
      have hyy : (f.vn == 1) = isY (val3 f) := rfl
      cases hY : isY (val3 f)
      · rw [hyy, hY] at hy
        obtain rfl : f = y := by simpa [chN] using hy
        have hb := hp f (by simp)
        rw [ta] at hb
        refine ⟨hb, fun rs hrow => ?_⟩
        rw [cmP_op h1 h2, ho, List.map_cons, combP, fcm, if_neg (by simp), if_pos (by simp [hY])]
      · rw [hyy, hY] at hy
        obtain rfl : b = y := by simpa [chN] using hy
        have hb := hp b (by simp)
        rw [tb] at hb
        refine ⟨hb, fun rs hrow => ?_⟩
        rw [cmP_op h1 h2, ho, List.map_cons, List.map_cons, List.map_nil, and_yes (by rw [fcm]; exact ⟨fok, rfl⟩) (rg_comes hrow hb) (by rw [fcm]; exact hY)]
    · rw [ho] at hr hy
      obtain ⟨a, b, c, hab, ta, tb, tc⟩ := fd_rule3 hr
      rw [hl] at hab
      injection hab with e1 e2
      subst e1 e2 hl
      rw [ta] at fok
      have hyy : (f.vn == 1) = isY (val3 f) := rfl
      cases hY : isY (val3 f)
      · rw [hyy, hY] at hy
        obtain rfl : c = y := by simpa [chN] using hy
        have hb := hp c (by simp)
        rw [tc] at hb
        refine ⟨hb, fun rs hrow => ?_⟩
        rw [cmP_op h1 h2, ho, List.map_cons, combP, fcm, if_neg (by simp), if_neg (by simp), if_pos rfl, if_neg (by simp [hY])]
        rfl
      · rw [hyy, hY] at hy
        obtain rfl : b = y := by simpa [chN] using hy
        have hb := hp b (by simp)
        rw [tb] at hb
        refine ⟨hb, fun rs hrow => ?_⟩
        rw [cmP_op h1 h2, ho, List.map_cons, combP, fcm, if_neg (by simp), if_neg (by simp), if_pos rfl, if_pos (by simp [hY])]
        rfl
  · have h1 : op.data.toList ≠ [118, 97, 108] := by rw [ho]; decide
    have h2 : op.data.toList ≠ [99, 111, 108] := by rw [ho]; decide
    obtain ⟨hp, hr⟩ := rg_parts h h1 h2
    rw [ho] at hr
    obtain ⟨a, hab, ta, rfl⟩ := fd_rule1 hr
    rw [hl] at hab
    injection hab with e1 e2
    subst e1 e2 hl
    have hfR := hp f (by simp)
    rw [ta] at hfR
    rw [e]
    cases f with
    | node fo fn ft fk fs fp fl =>
      have ho' : fo.data.toList = [110, 111, 116] := hf
      have g1 : fo.data.toList ≠ [118, 97, 108] := by rw [ho']; decide
      have g2 : fo.data.toList ≠ [99, 111, 108] := by rw [ho']; decide
      obtain ⟨gp, gr⟩ := rg_parts hfR g1 g2
      rw [ho'] at gr
      obtain ⟨z, hz, tz, -⟩ := fd_rule1 gr
      subst hz
      obtain rfl : z = y := by simpa [Ex.args] using hy
      have hzR := gp z (by simp)
      rw [tz] at hzR
      refine ⟨hzR, fun rs hrow => ?_⟩
      rw [cmP_op h1 h2, ho, List.map_cons, List.map_nil, cmP_op g1 g2, ho', List.map_cons, List.map_nil, not_not (rg_comes hrow hzR)]
  · rw [e]; exact ⟨h, fun _ _ => rfl⟩
theorem node_args {op nm vs : ByteArray} {vt vn pos : Int} {l m : List Ex} (h : l.length = m.length) : nodeE (.node op nm vt vn vs pos l) = nodeE (.node op nm vt vn vs pos m) := by
  rw [nodeE, nodeE]
  simp only [Ex.op, Ex.nm, Ex.vt, Ex.vn, Ex.vs, Ex.args, h]
/-- Made short it is right, of the same type, and comes to the same. -/
theorem fd_right {zs : List (ByteArray × Int)} : ∀ (x : Ex) (T : Int), Rg zs T x → Rg zs T (fdP x) ∧ ∀ rs, RowR zs rs → cmP zs rs (fdP x) = cmP zs rs x := by
  refine Ex.ind fun op nm vt vn vs pos l ih T h => ?_
  rw [fdP_eq]
  by_cases hop : op.data.toList = [118, 97, 108] ∨ op.data.toList = [99, 111, 108]
  · have := leaf_args h.nd.self hop
    subst this
    exact ins_right h
  · obtain ⟨h1, h2⟩ := not_or.1 hop
    obtain ⟨hp, hr⟩ := rg_parts h h1 h2
    have hm : ∀ y ∈ l, Rg zs (tyP zs y).1 (fdP y) := fun y hy => (ih y hy _ (hp y hy)).1
    have h' : Rg zs T (.node op nm vt vn vs pos (l.map fdP)) := by
      refine rg_make h1 h2 (by rw [← h.nd.self]; exact node_args (by simp)) h.bd.self (fun y hy => ?_) ?_
      · obtain ⟨z, hz, rfl⟩ := List.mem_map.1 hy
        have := hm z hz
        rw [this.ty]; exact this
      · rw [List.map_map, ← hr]
        congr 1
        exact List.map_congr_left fun y hy => by show (tyP zs (fdP y)).1 = _; rw [(hm y hy).ty]
    obtain ⟨i1, i2⟩ := ins_right h'
    refine ⟨i1, fun rs hrow => ?_⟩
    rw [i2 rs hrow, cmP_op h1 h2, cmP_op h1 h2, List.map_map]
    congr 1
    exact List.map_congr_left fun y hy => (ih y hy _ (hp y hy)).2 rs hrow
--END
end Go.Proofs.YtknibfhoecgjlaaGreatDoor
namespace Go.Proofs.YtknibfhoecgjlaaGreatDoor
open Go.RowKit
set_option linter.unusedVariables false

theorem freshF_any (t n : Int) (s : ByteArray) (w : World) (hs : s.size ≤ 281474976710656) : Calls Tryz.prog 31 #[.agg #[.int .i64 t, .int .i64 n, .string s]] w fun e w' => e = .returned (.agg #[.int .i64 t, .int .i64 n, .string s]) ∧ Below w.heap.size w w' := by
  have c := fun W => clone_any s W hs
  have b1 : Below w.heap.size w ((w.alloc (.cells #[.int .i64 t, .int .i64 n, .string s] 23)).alloc (.cells #[.int .i64 0, .int .i64 0, .string ⟨#[]⟩] 23)) := ((Below.refl _ w).alloc (Nat.le_refl _) _).alloc (by simp) _
  go_enter Tryz.func31, Tryz.ntmps31
  go_wp2_with fail
  refine (c _).mono ?_
  rintro e w1 ⟨rfl, b2⟩
  obtain ⟨k1, k2, hl1⟩ := box_at _ _ _ b2 (by simp)
  obtain ⟨j1, j2, hl0⟩ := box_at w _ _ (((Below.refl _ (w.alloc (.cells #[.int .i64 t, .int .i64 n, .string s] 23))).alloc (Nat.le_refl _) _).trans (b2.mono (by simp))) (by simp)
  simp at k1 k2 hl1 j1 j2
  have f0 : w1.cell? ⟨w.heap.size + 1, 0, none⟩ = some (.int .i64 0) := k1 0
  have f1 : w1.cell? ⟨w.heap.size + 1, 1, none⟩ = some (.int .i64 0) := k1 1
  have f2 : w1.cell? ⟨w.heap.size + 1, 2, none⟩ = some (.string ⟨#[]⟩) := k1 2
  have g0 : w1.cell? ⟨w.heap.size, 0, none⟩ = some (.int .i64 t) := j1 0
  have g1 : w1.cell? ⟨w.heap.size, 1, none⟩ = some (.int .i64 n) := j1 1
  have g2 : w1.cell? ⟨w.heap.size, 2, none⟩ = some (.string s) := j1 2
  have b4 : Below w.heap.size w w1 := b1.trans (b2.mono b1.size)
  clear c b1 b2 k1 j1
  go_wp2
  refine bodyPost_ret (v := .agg #[.int .i64 t, .int .i64 n, .string s]) (by simp [results, Tryz.results31, go_sem, World.cell?_setCell_other, World.cell?_setCell_same, f0, f1, f2]) rfl ⟨rfl, ?_⟩
  exact (((b4.setCell (p := ⟨w.heap.size, 2, none⟩) (Nat.le_refl _) _).setCell (p := ⟨w.heap.size + 1, 0, none⟩) (by simp) _).setCell (p := ⟨w.heap.size + 1, 1, none⟩) (by simp) _).setCell (p := ⟨w.heap.size + 1, 2, none⟩) (by simp) _
set_option maxHeartbeats 1000000 in
set_option maxRecDepth 20000 in
theorem const_yes (o n : ByteArray) (t k : Int) (s : ByteArray) (p : Option Addr) (m c : Nat) (a : Int) (w : World) (ho : o.data.toList = [118, 97, 108]) (hs : s.size ≤ 281474976710656) :
    Calls Tryz.prog 14 #[.agg #[.string o, .string n, .int .i64 t, .int .i64 k, .string s, .slice p m c, .int .i64 a]] w fun e w' => e = .returned (.tuple #[.agg #[.int .i64 t, .int .i64 k, .string s], .bool true]) ∧ Below w.heap.size w w' := by
  have hq : (o.toList == [118, 97, 108]) = true := by rw [Lib.toList_data]; simpa using ho
  have cf := fun W => freshF_any t k s W hs
  have b1 : Below w.heap.size w ((w.alloc (.cells #[.string o, .string n, .int .i64 t, .int .i64 k, .string s, .slice p m c, .int .i64 a] 26)).alloc (.cells #[.int .i64 0, .int .i64 0, .string ⟨#[]⟩] 23)) := ((Below.refl _ w).alloc (Nat.le_refl _) _).alloc (by simp) _
  clear ho
  go_enter Tryz.func14, Tryz.ntmps14
  go_wp2_with fail
  refine (cf _).mono ?_
  rintro e w1 ⟨rfl, b2⟩
  obtain ⟨k1, k2, hl1⟩ := box_at _ _ _ b2 (by simp)
  simp at k1 k2 hl1
  have f0 : w1.cell? ⟨w.heap.size + 1, 0, none⟩ = some (.int .i64 0) := k1 0
  have f1 : w1.cell? ⟨w.heap.size + 1, 1, none⟩ = some (.int .i64 0) := k1 1
  have f2 : w1.cell? ⟨w.heap.size + 1, 2, none⟩ = some (.string ⟨#[]⟩) := k1 2
  have b4 : Below w.heap.size w w1 := b1.trans (b2.mono b1.size)
  clear cf b1 b2 k1
  go_wp2
  refine bodyPost_ret (v := .tuple #[.agg #[.int .i64 t, .int .i64 k, .string s], .bool true]) (by simp [results, Tryz.results14, go_sem, World.cell?_setCell_other, World.cell?_setCell_same, f0, f1, f2]) rfl ⟨rfl, ?_⟩
  exact ((b4.setCell (p := ⟨w.heap.size + 1, 0, none⟩) (by simp) _).setCell (p := ⟨w.heap.size + 1, 1, none⟩) (by simp) _).setCell (p := ⟨w.heap.size + 1, 2, none⟩) (by simp) _
theorem const_no (o n : ByteArray) (t k : Int) (s : ByteArray) (p : Option Addr) (m c : Nat) (a : Int) (w : World) (ho : o.data.toList ≠ [118, 97, 108]) :
    Calls Tryz.prog 14 #[.agg #[.string o, .string n, .int .i64 t, .int .i64 k, .string s, .slice p m c, .int .i64 a]] w fun e w' => e = .returned (.tuple #[.agg #[.int .i64 0, .int .i64 0, .string ⟨#[]⟩], .bool false]) ∧ Below w.heap.size w w' := by
  have hq : (o.toList == [118, 97, 108]) = false := by rw [Lib.toList_data]; simpa using ho
  have b1 : Below w.heap.size w ((w.alloc (.cells #[.string o, .string n, .int .i64 t, .int .i64 k, .string s, .slice p m c, .int .i64 a] 26)).alloc (.cells #[.int .i64 0, .int .i64 0, .string ⟨#[]⟩] 23)) := ((Below.refl _ w).alloc (Nat.le_refl _) _).alloc (by simp) _
  clear ho
  go_enter Tryz.func14, Tryz.ntmps14
  go_wp2
  exact bodyPost_ret (v := .tuple #[.agg #[.int .i64 0, .int .i64 0, .string ⟨#[]⟩], .bool false]) (by simp [results, Tryz.results14, go_sem]) rfl ⟨rfl, b1⟩
set_option maxHeartbeats 1000000 in
theorem chosenF_any (o : ByteArray) (y : Bool) (w : World) :
    Calls Tryz.prog 76 #[.string o, .bool y] w fun e w' => e = .returned (.int .i64 (chN o.data.toList y : Int)) ∧ w' = w := by
  by_cases h1 : o.data.toList = [105, 102]
  · have q1 : (o.toList == [105, 102]) = true := by rw [Lib.toList_data]; simpa using h1
    have q2 : (o.toList == [97, 110, 100]) = false := by rw [Lib.toList_data, h1]; rfl
    have q3 : (o.toList == [111, 114]) = false := by rw [Lib.toList_data, h1]; rfl
    rw [h1]
    cases y
    · rw [show ((chN [105, 102] false : Nat) : Int) = 2 from rfl]
      clear h1
      go_enter Tryz.func76, Tryz.ntmps76
      go_wp2
      go_ret
      exact ⟨rfl, rfl⟩
    · rw [show ((chN [105, 102] true : Nat) : Int) = 1 from rfl]
      clear h1
      go_enter Tryz.func76, Tryz.ntmps76
      go_wp2
      go_ret
      exact ⟨rfl, rfl⟩
  · have q1 : (o.toList == [105, 102]) = false := by rw [Lib.toList_data]; simpa using h1
    by_cases h2 : o.data.toList = [97, 110, 100]
    · have q2 : (o.toList == [97, 110, 100]) = true := by rw [Lib.toList_data]; simpa using h2
      have q3 : (o.toList == [111, 114]) = false := by rw [Lib.toList_data, h2]; rfl
      rw [h2]
      cases y
      · rw [show ((chN [97, 110, 100] false : Nat) : Int) = 0 from rfl]
        clear h1 h2
        go_enter Tryz.func76, Tryz.ntmps76
        go_wp2
        go_ret
        exact ⟨rfl, rfl⟩
      · rw [show ((chN [97, 110, 100] true : Nat) : Int) = 1 from rfl]
        clear h1 h2
        go_enter Tryz.func76, Tryz.ntmps76
        go_wp2
        go_ret
        exact ⟨rfl, rfl⟩
    · have q2 : (o.toList == [97, 110, 100]) = false := by rw [Lib.toList_data]; simpa using h2
      by_cases h3 : o.data.toList = [111, 114]
      · have q3 : (o.toList == [111, 114]) = true := by rw [Lib.toList_data]; simpa using h3
        rw [h3]
        cases y
        · rw [show ((chN [111, 114] false : Nat) : Int) = 1 from rfl]
          clear h1 h2 h3
          go_enter Tryz.func76, Tryz.ntmps76
          go_wp2
          go_ret
          exact ⟨rfl, rfl⟩
        · rw [show ((chN [111, 114] true : Nat) : Int) = 0 from rfl]
          clear h1 h2 h3
          go_enter Tryz.func76, Tryz.ntmps76
          go_wp2
          go_ret
          exact ⟨rfl, rfl⟩
      · have q3 : (o.toList == [111, 114]) = false := by rw [Lib.toList_data]; simpa using h3
        have hc : chN o.data.toList y = 1 := by unfold chN; rw [if_neg (fun h => h1 h.1), if_neg (fun h => h.elim (fun h => h2 h.1) (fun h => h3 h.1))]
        rw [hc, show ((1 : Nat) : Int) = 1 from rfl]
        clear h1 h2 h3 hc
        go_enter Tryz.func76, Tryz.ntmps76
        go_wp2
        go_ret
        exact ⟨rfl, rfl⟩
end Go.Proofs.YtknibfhoecgjlaaGreatDoor
namespace Go.Proofs.YtknibfhoecgjlaaGreatDoor
open Go.RowKit
set_option linter.unusedVariables false

theorem one_of {w : World} {b off j : Nat} {vs : List V3} (h : ∀ j (h : j < vs.length), w.cell? ⟨b, off + j * 3, none⟩ = some (.int .i64 vs[j].1) ∧ w.cell? ⟨b, off + j * 3 + 1, none⟩ = some (.int .i64 vs[j].2.1) ∧ w.cell? ⟨b, off + j * 3 + 2, none⟩ = some (.string vs[j].2.2)) (hj : j < vs.length) (o : Nat) (ho : o = off + j * 3) : One w b o vs[j].1 vs[j].2.1 vs[j].2.2 := by
  subst ho
  exact h j hj
theorem app_any (op : ByteArray) (p : Option Addr) (c N : Nat) (vs : List V3) (w : World) (hN : vs.length = N) (hvs : ValsAt w p vs) (hv : ∀ v ∈ vs, chk v.1 v.2.1 v.2.2.data.toList = 0) (hb : ∀ v ∈ vs, v.2.2.size ≤ maxLen ∧ inB v.2.1) (T : Int) (hr : ruleP op.data.toList (vs.map (·.1)) = (T, 0)) (t k : Int) (s : ByteArray) (e : Int) (hR : appP op.data.toList vs = ((t, k, s), e)) :
    Calls Tryz.prog 93 #[.string op, .slice p N c] w fun e' w' => e' = .returned (.tuple #[.agg #[.int .i64 t, .int .i64 k, .string s], errV e]) ∧ Below w.heap.size w w' := by
  obtain ⟨r, hf, hlen, hall, hT⟩ := ruleP_in hr
  rw [List.length_map] at hlen
  obtain ⟨hm, he⟩ := kdFind_mem hf
  have h1 := (kdCnt_ok r hm).1
  rcases hvs with h | ⟨b, off, rfl, hbl, hc⟩
  · omega
  obtain ⟨⟨l⟩⟩ := op
  simp only at he
  subst he
  clear hr hf h1
  simp only [kdRules, List.mem_cons, List.not_mem_nil, or_false] at hm
  have len1 : ∀ {l : List V3}, l.length = 1 → ∃ a, l = [a] := fun {l} h => by
    match l, h with
    | [a], _ => exact ⟨a, rfl⟩
  have len2 : ∀ {l : List V3}, l.length = 2 → ∃ a b, l = [a, b] := fun {l} h => by
    match l, h with
    | [a, b], _ => exact ⟨a, b, rfl⟩
  have len3 : ∀ {l : List V3}, l.length = 3 → ∃ a b c, l = [a, b, c] := fun {l} h => by
    match l, h with
    | [a, b, c], _ => exact ⟨a, b, c, rfl⟩
  have five : ∀ (op : ByteArray) (x y : V3), vs = [x, y] → ops5.contains op.data.toList = true → rkV op.data.toList x.2.1 y.2.1 = ((t, k, s), e) → Calls Tryz.prog 93 #[.string op, .slice (some ⟨b, off, none⟩) N c] w fun e' w' => e' = .returned (.tuple #[.agg #[.int .i64 t, .int .i64 k, .string s], errV e]) ∧ Below w.heap.size w w' := fun op x y hxy ho hR2 => by
    subst hxy
    exact app_five op b off c N (by rw [← hN]; exact Nat.le_refl _) _ _ _ _ _ _ w hbl (one_of hc (j := 0) (by simp) off (by omega)) (one_of hc (j := 1) (by simp) (off + 3) (by omega)) (hb x (by simp)).2 (hb y (by simp)).2 ho t k s e hR2
  have cmps : ∀ (op : ByteArray) (x y : V3), vs = [x, y] → (op = ⟨#[61]⟩ ∨ op = ⟨#[60, 62]⟩ ∨ op = ⟨#[60]⟩ ∨ op = ⟨#[60, 61]⟩ ∨ op = ⟨#[62]⟩ ∨ op = ⟨#[62, 61]⟩) → cmpV op.data.toList x y = ((t, k, s), e) → Calls Tryz.prog 93 #[.string op, .slice (some ⟨b, off, none⟩) N c] w fun e' w' => e' = .returned (.tuple #[.agg #[.int .i64 t, .int .i64 k, .string s], errV e]) ∧ Below w.heap.size w w' := fun op x y hxy ho hR2 => by
    subst hxy
    exact app_cmp op b off c N (by rw [← hN]; exact Nat.le_refl _) _ _ _ _ _ _ w hbl (one_of hc (j := 0) (by simp) off (by omega)) (one_of hc (j := 1) (by simp) (off + 3) (by omega)) (hb x (by simp)).1 (hb y (by simp)).1 ho t k s e hR2
  rcases hm with rfl | rfl | rfl | rfl | rfl | rfl | rfl | rfl | rfl | rfl | rfl | rfl | rfl | rfl | rfl | rfl | rfl
  · obtain ⟨x, y, rfl⟩ := len2 hlen
    replace hR : (truP (isY x || isY y), (0 : Int)) = ((t, k, s), e) := hR
    simp only [truP, Prod.mk.injEq] at hR
    obtain ⟨⟨rfl, hk, rfl⟩, rfl⟩ := hR
    exact app_or b off c N (by rw [← hN]; exact Nat.le_refl _) _ _ _ _ _ _ w hbl (one_of hc (j := 0) (by simp) off (by omega)) (one_of hc (j := 1) (by simp) (off + 3) (by omega)) k hk
  · obtain ⟨x, y, rfl⟩ := len2 hlen
    replace hR : (truP (isY x && isY y), (0 : Int)) = ((t, k, s), e) := hR
    simp only [truP, Prod.mk.injEq] at hR
    obtain ⟨⟨rfl, hk, rfl⟩, rfl⟩ := hR
    exact app_and b off c N (by rw [← hN]; exact Nat.le_refl _) _ _ _ _ _ _ w hbl (one_of hc (j := 0) (by simp) off (by omega)) (one_of hc (j := 1) (by simp) (off + 3) (by omega)) k hk
  · obtain ⟨x, rfl⟩ := len1 hlen
    replace hR : (truP (!isY x), (0 : Int)) = ((t, k, s), e) := hR
    simp only [truP, Prod.mk.injEq] at hR
    obtain ⟨⟨rfl, hk, rfl⟩, rfl⟩ := hR
    exact app_not b off c N (by rw [← hN]; exact Nat.le_refl _) _ _ _ w hbl (one_of hc (j := 0) (by simp) off (by omega)) k hk
  · obtain ⟨x, y, h⟩ := len2 hlen
    exact cmps ⟨#[61]⟩ x y h (by simp) (by subst h; exact hR)
  · obtain ⟨x, y, h⟩ := len2 hlen
    exact cmps ⟨#[60, 62]⟩ x y h (by simp) (by subst h; exact hR)
  · obtain ⟨x, y, h⟩ := len2 hlen
    exact cmps ⟨#[60]⟩ x y h (by simp) (by subst h; exact hR)
  · obtain ⟨x, y, h⟩ := len2 hlen
    exact cmps ⟨#[60, 61]⟩ x y h (by simp) (by subst h; exact hR)
  · obtain ⟨x, y, h⟩ := len2 hlen
    exact cmps ⟨#[62]⟩ x y h (by simp) (by subst h; exact hR)
  · obtain ⟨x, y, h⟩ := len2 hlen
    exact cmps ⟨#[62, 61]⟩ x y h (by simp) (by subst h; exact hR)
  · obtain ⟨x, y, h⟩ := len2 hlen
    exact five ⟨#[43]⟩ x y h (by decide) (by subst h; exact hR)
  · obtain ⟨x, y, h⟩ := len2 hlen
    exact five ⟨#[45]⟩ x y h (by decide) (by subst h; exact hR)
  · obtain ⟨x, y, h⟩ := len2 hlen
    exact five ⟨#[42]⟩ x y h (by decide) (by subst h; exact hR)
  · obtain ⟨x, y, h⟩ := len2 hlen
    exact five ⟨#[47]⟩ x y h (by decide) (by subst h; exact hR)
  · obtain ⟨x, y, h⟩ := len2 hlen
    exact five ⟨#[37]⟩ x y h (by decide) (by subst h; exact hR)
  · obtain ⟨x, rfl⟩ := len1 hlen
    exact app_neg b off c N (by rw [← hN]; exact Nat.le_refl _) _ _ _ w hbl (one_of hc (j := 0) (by simp) off (by omega)) (hb x (by simp)).2 t k s e hR
  · obtain ⟨x, rfl⟩ := len1 hlen
    replace hR : (((1 : Int), (x.2.2.size : Int), (⟨#[]⟩ : ByteArray)), (0 : Int)) = ((t, k, s), e) := hR
    simp only [Prod.mk.injEq] at hR
    obtain ⟨⟨rfl, rfl, rfl⟩, rfl⟩ := hR
    exact app_len b off c N (by rw [← hN]; exact Nat.le_refl _) _ _ _ w hbl (one_of hc (j := 0) (by simp) off (by omega))
  · obtain ⟨x, y, z, rfl⟩ := len3 hlen
    replace hR : (if isY x = true then y else z, (0 : Int)) = ((t, k, s), e) := hR
    have cI := app_if b off c N (by rw [← hN]; exact Nat.le_refl _) _ _ _ _ _ _ _ _ _ w hbl (one_of hc (j := 0) (by simp) off (by omega)) (one_of hc (j := 1) (by simp) (off + 3) (by omega)) (one_of hc (j := 2) (by simp) (off + 6) (by omega))
    refine cI.mono fun e' w' h => ⟨?_, h.2⟩
    rw [h.1]
    obtain ⟨hyz, rfl⟩ := Prod.mk.inj hR
    unfold isY at hyz
    simp only [List.getElem_cons_zero, List.getElem_cons_succ]
    split at hyz
    · rename_i hbb
      subst hyz
      rw [if_pos hbb]
      rfl
    · rename_i hbb
      subst hyz
      rw [if_neg hbb]
      rfl
end Go.Proofs.YtknibfhoecgjlaaGreatDoor
namespace Go.Proofs.YtknibfhoecgjlaaGreatDoor
open Go.RowKit Go.BigFrame
set_option linter.unusedVariables false

theorem vlE_at {vs : List V3} {k : Nat} (h : k < vs.length) : vlE (vs.drop k) = if chk vs[k].1 vs[k].2.1 vs[k].2.2.data.toList ≠ 0 then chk vs[k].1 vs[k].2.1 vs[k].2.2.data.toList else vlE (vs.drop (k + 1)) := by
  rw [List.drop_eq_getElem_cons h, vlE]
theorem map_take {vs : List V3} {k : Nat} (h : k < vs.length) : (vs.take k).map (·.1) ++ [vs[k].1] = (vs.take (k + 1)).map (·.1) := by
  rw [List.take_add_one, List.getElem?_eq_getElem h, List.map_append]
  rfl
set_option maxHeartbeats 8000000 in
set_option maxRecDepth 20000 in
theorem do_any (op : ByteArray) (p : Option Addr) (c N : Nat) (vs : List V3) (w : World) (henv : REnv w) (hN : vs.length = N) (hl : N ≤ 1048576) (hvs : ValsAt w p vs) (hsz : ∀ v ∈ vs, v.2.2.size ≤ maxLen ∧ inB v.2.1) (T K : Int) (S : ByteArray) (E : Int) (hR : doP op.data.toList vs = ((T, K, S), E)) :
    Calls Tryz.prog 69 #[.string op, .slice p N c] w fun e w' => e = .returned (.tuple #[.agg #[.int .i64 T, .int .i64 K, .string S], errV E]) ∧ Below w.heap.size w w' := by
  obtain ⟨i0, hi, hz0, hz1, hzz⟩ := info_parts info_int
  obtain ⟨b1, box⟩ := box_res w
  have HEN : Aside (REnv w) := henv
  have HVS : Aside (ValsAt w p vs) := hvs
  have HSZ : Aside (∀ v ∈ vs, v.2.2.size ≤ maxLen ∧ inB v.2.1) := hsz
  have HR : Hid (doP op.data.toList vs = ((T, K, S), E)) := hR
  have HN : Hid (vs.length = N) := hN
  have BOX : Hid (∀ W, Below (w.heap.size + 1) (w.alloc (.cells #[.int .i64 0, .int .i64 0, .string ⟨#[]⟩] 23)) W → (W.cell? ⟨w.heap.size, 0, none⟩ = some (.int .i64 0) ∧ W.cell? ⟨w.heap.size, 1, none⟩ = some (.int .i64 0) ∧ W.cell? ⟨w.heap.size, 2, none⟩ = some (.string ⟨#[]⟩) ∧ (∀ o, W.frozen? ⟨w.heap.size, o, none⟩ = false) ∧ w.heap.size < W.heap.size) ∧ Below w.heap.size w W) := box
  have hNz : (N : Int) ≤ 1048576 := by omega
  clear henv hvs hsz hR box hN b1
  go_enter Tryz.func69, Tryz.ntmps69
  go_wp2
  go_loopg [6, 8, 9, 16] N (fun gg s6 _ _ s16 wr => ∃ (kk : Nat) (acc : List Int) (q : Option Addr) (cp : Nat), kk ≤ N ∧ N - kk ≤ gg ∧ s16 = .int .i64 kk ∧ s6 = .slice q kk cp ∧ Aside (wr.ownsRow (w.heap.size + 1) 3 1 (.slice q kk cp) kk (acc.map fun t => .int .i64 t)) ∧ Aside (Below (w.heap.size + 1) (w.alloc (.cells #[.int .i64 0, .int .i64 0, .string ⟨#[]⟩] 23)) wr) ∧ Hid (vlE (vs.drop kk) = vlE vs ∧ acc = (vs.take kk).map (·.1)))
  case atStart => exact ⟨0, [], none, 0, Nat.zero_le _, by omega, rfl, rfl, (show Aside _ from ⟨rfl, .inl ⟨rfl, rfl⟩⟩), (show Aside _ from Below.refl _ _), (show Hid _ from ⟨rfl, rfl⟩)⟩
  case round =>
    obtain ⟨kk, acc, q, cp, hkk, hg, rfl, rfl, OW, BW, HG⟩ := hrel
    obtain ⟨⟨f0, f1, f2, ff, hl0⟩, bwr⟩ := BOX.out wr BW.out
    by_cases hlt : kk < N
    · have hltz : (kk : Int) < (N : Int) := by omega
      have h0z : (0 : Int) ≤ (kk : Int) := by omega
      have hk2 : kk < vs.length := by rw [HN.out]; exact hlt
      rcases HVS.out.on bwr with h | ⟨b, off, rfl, hbl, hc⟩
      · exact absurd h (by omega)
      obtain ⟨e0, e1, e2⟩ := hc kk hk2
      have hat := vlE_at hk2
      rw [HG.out.1] at hat
      have hszk := (HSZ.out _ (List.getElem_mem hk2)).1
      have hmt := map_take hk2
      generalize hve : vs[kk] = ve at e0 e1 e2 hat hszk hmt
      obtain ⟨t, n, s⟩ := ve
      simp only at e0 e1 e2 hat hszk hmt
      have HAT : Hid (vlE vs = if chk t n s.data.toList ≠ 0 then chk t n s.data.toList else vlE (vs.drop (kk + 1))) := hat
      have HMT : Hid (acc ++ [t] = (vs.take (kk + 1)).map (·.1)) := by rw [HG.out.2]; exact hmt
      have HKL : Hid (kk < N) := hlt
      clear hc hat hmt hk2 hve
      by_cases hck : chk t n s.data.toList = 0
      · have cC := check_ok t n s (wr.alloc (.cells #[.int .i64 t, .int .i64 n, .string s] 23)) hszk hck
        have HG2 : Hid (vlE (vs.drop (kk + 1)) = vlE vs ∧ acc ++ [t] = (vs.take (kk + 1)).map (·.1)) := by
          have h := HAT.out
          rw [if_neg (fun hh => hh hck)] at h
          exact ⟨h.symm, HMT.out⟩
        clear HAT HG hck
        go_wp2_with fail
        refine cC.mono ?_
        rintro e w4 ⟨rfl, b4⟩
        have hz4 : wr.heap.size + 1 ≤ w4.heap.size := by have := b4.size; simpa using this
        have hzr : w.heap.size + 1 ≤ wr.heap.size := hl0
        obtain ⟨k1, k2, hl1⟩ := box_at wr _ _ b4 (by simp)
        have g0 : w4.cell? ⟨wr.heap.size, 0, none⟩ = some (.int .i64 t) := k1 0
        have b5 : Below (w.heap.size + 1) wr w4 := ((Below.refl _ wr).alloc (by omega) _).trans (b4.mono (by simp; omega))
        have OW4 := own_but (OW.out.alloc (.cells #[.int .i64 t, .int .i64 n, .string s] 23)) (But.of_below' (r := 0) b4 (Nat.zero_le _)) (by omega)
        have BW5 : Aside (Below (w.heap.size + 1) (w.alloc (.cells #[.int .i64 0, .int .i64 0, .string ⟨#[]⟩] 23)) w4) := BW.out.trans b5
        clear cC b4 e0 e1 e2 OW k1 b5
        go_wp2_with (at_builtin; refine wpList_append_own _ rfl _ _ 81 rfl (w.heap.size + 1) 3 i0 (.int .i64 0) 1 8 Tryz.underlying81 hi hz0 hz1 hzz rfl (by decide) _ _ _ rfl (OW4.alloc _) ⟨w4.heap.size, 0, none⟩ 1 1 [.int .i64 t] rfl rfl ?c1 ?c2 ?c3 ?c4 ?c5 ?_)
        case c1 =>
          intro i u hu
          rw [Go.WideShapes.add_plain, World.cell?_alloc_at _ _ _ _ (by simp)]
          simpa using hu
        case c2 =>
          intro u hu
          simp at hu
          subst hu; rfl
        case c3 => simp [maxLen]; omega
        case c4 => omega
        case c5 => simp; omega
        · intro v' w5 hown' hgrow _
          have hlo3 : ∀ j, (Value.slice q kk cp).ownBlock = some j → w.heap.size + 1 ≤ j := fun j hj => (OW4.lt j hj).1
          have bg : Below (w.heap.size + 1) w4 w5 := ((Below.refl _ _).alloc (by omega) _).grown hgrow (by simp; omega) hlo3
          have BW6 : Aside (Below (w.heap.size + 1) (w.alloc (.cells #[.int .i64 0, .int .i64 0, .string ⟨#[]⟩] 23)) w5) := BW5.out.trans bg
          obtain ⟨q5, c5, rfl⟩ := lown_slice hown'
          have ow6 : w5.ownsRow (w.heap.size + 1) 3 1 (.slice q5 (kk + 1) c5) (kk + 1) ((acc ++ [t]).map fun t => .int .i64 t) := by rw [List.map_append]; exact hown'
          clear hown' hgrow OW4 bg BW5
          go_wp2
          go_roundg (N - (kk + 1))
          case measure => have := HKL.out; omega
          case rel => exact ⟨kk + 1, acc ++ [t], q5, c5, by have := HKL.out; omega, by omega, by go_num, rfl, (show Aside _ from ow6), BW6, HG2⟩
      · have cC := check_bad t n s (wr.alloc (.cells #[.int .i64 t, .int .i64 n, .string s] 23)) hszk hck
        have hfin := HR.out
        have hat := HAT.out
        rw [if_pos hck] at hat
        unfold doP at hfin
        rw [if_pos (by rw [hat]; exact hck), hat] at hfin
        simp only [noV, Prod.mk.injEq] at hfin
        obtain ⟨⟨rfl, rfl, rfl⟩, rfl⟩ := hfin
        have HCK : Hid (chk t n s.data.toList ≠ 0) := hck
        clear hat HAT hck HR
        go_wp2_with fail
        refine cC.mono ?_
        rintro e w4 ⟨rfl, b4⟩
        have b5 : Below (w.heap.size + 1) wr w4 := ((Below.refl _ wr).alloc (by omega) _).trans (b4.mono (by simp; omega))
        obtain ⟨⟨f0, f1, f2, ff, hl4⟩, b6⟩ := BOX.out w4 (BW.out.trans b5)
        clear cC b4 e0 e1 e2 b5
        go_wp2
        refine bodyPost_ret (v := .tuple #[.agg #[.int .i64 0, .int .i64 0, .string ⟨#[]⟩], .iface 57 (.int .i64 (chk t n s.data.toList))]) (by simp [results, Tryz.results69, go_sem, World.cell?_setCell_other, World.cell?_setCell_same, f0, f1, f2]) rfl ⟨by rw [errV, if_neg HCK.out], ?_⟩
        exact below3 b6 (Nat.le_refl _) _ _ _
    · have hltz : ¬ (kk : Int) < (N : Int) := by omega
      have hkN : kk = N := by omega
      subst hkN
      have hacc : acc = vs.map (·.1) := by rw [HG.out.2, List.take_of_length_le (by rw [HN.out]; exact Nat.le_refl _)]
      have hvz : vlE vs = 0 := by rw [← HG.out.1, List.drop_eq_nil_of_le (by rw [HN.out]; exact Nat.le_refl _)]; rfl
      have hla : acc.length = kk := by rw [hacc, List.length_map]; exact HN.out
      obtain ⟨RT, RE, hrr⟩ : ∃ RT RE, ruleP op.data.toList acc = (RT, RE) := ⟨_, _, rfl⟩
      have cR := rule_any op q cp kk acc wr (HEN.out.on bwr) hla (by omega) (ownInts hla OW.out) RT RE hrr
      have hfin := HR.out
      unfold doP at hfin
      rw [if_neg (fun hh => hh hvz), ← hacc, hrr] at hfin
      simp only at hfin
      by_cases hE : RE = 0
      · subst hE
        rw [if_neg (by simp)] at hfin
        rw [show errV 0 = .nilIface from rfl] at cR
        rw [hacc] at hrr
        have cA := fun W (hb : Below w.heap.size w W) => app_any op p c kk vs W HN.out (HVS.out.on hb) (vlE_zero.1 hvz) HSZ.out RT hrr T K S E hfin
        have hS : S.size ≤ 40 := by
          rcases app_comes (vlE_zero.1 hvz) (fun v hv => (HSZ.out v hv).2) hrr with h | h
          · rw [hfin] at h
            have := chk_size h.2.2.1
            simpa using this
          · rw [hfin] at h
            simp only [noV, Prod.mk.injEq] at h
            rw [h.1.2.2]
            decide
        have cF := fresh_any T K S
        clear hacc hvz hla hrr HR HG OW hfin HVS HSZ HN HEN
        go_wp2_with fail
        refine cR.mono ?_
        rintro e w4 ⟨rfl, b4⟩
        have B4 : Below (w.heap.size + 1) (w.alloc (.cells #[.int .i64 0, .int .i64 0, .string ⟨#[]⟩] 23)) w4 := BW.out.trans (b4.mono hl0)
        have cA4 := cA w4 (BOX.out w4 B4).2
        clear cR cA b4
        go_wp2_with fail
        refine cA4.mono ?_
        rintro e w5 ⟨rfl, b5⟩
        have B5 := B4.trans (b5.mono (BOX.out w4 B4).1.2.2.2.2)
        have B6 := B5.alloc (BOX.out w5 B5).1.2.2.2.2 (.cells #[.int .i64 T, .int .i64 K, .string S] 23)
        have cF6 := cF (w5.alloc (.cells #[.int .i64 T, .int .i64 K, .string S] 23)) hS
        have hl5 := (BOX.out w5 B5).1.2.2.2.2
        clear cA4 cF b5
        go_wp2_with fail
        refine cF6.mono ?_
        rintro e w7 ⟨rfl, b7⟩
        obtain ⟨⟨f0, f1, f2, ff, hl7⟩, b8⟩ := BOX.out w7 (B6.trans (b7.mono (by simp; omega)))
        clear cF6 b7 B4 B5 B6
        go_wp2
        refine bodyPost_ret (v := .tuple #[.agg #[.int .i64 T, .int .i64 K, .string S], errV E]) (by simp [results, Tryz.results69, go_sem, World.cell?_setCell_other, World.cell?_setCell_same, f0, f1, f2]) rfl ⟨rfl, ?_⟩
        exact below3 b8 (Nat.le_refl _) _ _ _
      · rw [if_pos hE] at hfin
        simp only [noV, Prod.mk.injEq] at hfin
        obtain ⟨⟨rfl, rfl, rfl⟩, rfl⟩ := hfin
        have cR2 : Calls Tryz.prog 74 #[.string op, .slice q kk cp] wr fun e w' => e = .returned (.tuple #[.int .i64 RT, .iface 57 (.int .i64 RE)]) ∧ Below wr.heap.size wr w' := cR.mono fun e w' h => by rw [errV, if_neg hE] at h; exact h
        have HCK : Hid (RE ≠ 0) := hE
        clear hacc hvz hla hrr HR HG OW HVS HSZ HN HEN cR hE
        go_wp2_with fail
        refine cR2.mono ?_
        rintro e w4 ⟨rfl, b4⟩
        obtain ⟨⟨f0, f1, f2, ff, hl4⟩, b6⟩ := BOX.out w4 (BW.out.trans (b4.mono hl0))
        clear cR2 b4
        go_wp2
        refine bodyPost_ret (v := .tuple #[.agg #[.int .i64 0, .int .i64 0, .string ⟨#[]⟩], .iface 57 (.int .i64 RE)]) (by simp [results, Tryz.results69, go_sem, World.cell?_setCell_other, World.cell?_setCell_same, f0, f1, f2]) rfl ⟨by rw [errV, if_neg HCK.out], ?_⟩
        exact below3 b6 (Nat.le_refl _) _ _ _
end Go.Proofs.YtknibfhoecgjlaaGreatDoor
