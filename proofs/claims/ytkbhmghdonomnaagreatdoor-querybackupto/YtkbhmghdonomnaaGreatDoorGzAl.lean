/-
  QuP, StA, QyM, QuC1, QyEnv, TreeTx, in one text.
-/
import Derived.Test.YtkbhmghdonomnaaGreatDoorGzAk
import Derived.Test.YtkbhmghdonomnaaGreatDoorGzAb
import Derived.Test.YtkbhmghdonomnaaGreatDoorGzAa
import Derived.OwnWalk
import Derived.Laws.AppendOwnNone
import Derived.Laws.OwnMore
import Derived.WalkSmall
import Derived.BigQuiet
import Derived.Deep.QuietTactic
import Derived.Deep.LoopGhost
import Derived.Lib.OthersKept
import Derived.Test.YtkbhmghdonomnaaGreatDoorZTreeWk
import Derived.Test.YtkbhmghdonomnaaGreatDoorZTreeCk
import Derived.Deep.MidRow
import Derived.Test.YtkbhmghdonomnaaGreatDoorGzAf
import Derived.Test.YtkbhmghdonomnaaGreatDoorGzAi
import Derived.LaidHandle
import Derived.LaidSub
namespace Go.Proofs.YtkbhmghdonomnaaGreatDoor
open Go.RowKit
set_option linter.unusedVariables false
def nuI (l : List UInt8) : Int := (val10 l : Nat)
abbrev wSelect : List UInt8 := [115, 101, 108, 101, 99, 116]
abbrev wAs : List UInt8 := [97, 115]
abbrev wFrom : List UInt8 := [102, 114, 111, 109]
abbrev wWhere : List UInt8 := [119, 104, 101, 114, 101]
abbrev wGroup : List UInt8 := [103, 114, 111, 117, 112]
abbrev wBy : List UInt8 := [98, 121]
abbrev wWindow : List UInt8 := [119, 105, 110, 100, 111, 119]
abbrev wSlide : List UInt8 := [115, 108, 105, 100, 101]
abbrev wCount : List UInt8 := [99, 111, 117, 110, 116]
def thU {α β : Type} (a : Option α × List Tok) (f : α → List Tok → Option β × List Tok) : Option β × List Tok := match a with
 | (some x, rs) => f x rs
 | (none, rs) => (none, rs)
def jU (g : List UInt8) (ts : List Tok) : Option Unit × List Tok := match nxT (sgT [g]) ts with
 | some (_, rs) => (some (), rs)
 | none => (none, ts)
def nU (ts : List Tok) : Option ByteArray × List Tok := match nxT nmT ts with
 | some (t, rs) => (some t.2.1, rs)
 | none => (none, ts)
def isNum (t : Tok) : Bool := decide (t.1 = 2)
def iU (ts : List Tok) : Option Int × List Tok := match nxT isNum ts with
 | some (t, rs) => (some (nuI t.2.1.data.toList), rs)
 | none => (none, ts)
def asU (ts : List Tok) : Option ByteArray × List Tok := thU (jU wAs ts) fun _ rs => nU rs
def colU (ts : List Tok) : Option (Ex × ByteArray) × List Tok := thU (readE ts) fun x rs => thU (asU rs) fun n rs => (some (x, n), rs)
def agB (t : Tok) : Bool := isAg t.2.1.data.toList
def brU (ts : List Tok) : Option Ex × List Tok := thU (jU [40] ts) fun _ rs => thU (readE rs) fun x rs => thU (jU [41] rs) fun _ rs => (some x, rs)
def argU (what : List UInt8) (ts : List Tok) : Option Ex × List Tok := if what = wCount then (some ex0, ts) else brU ts
def aggU (ts : List Tok) : Option Ag × List Tok := match nxT agB ts with
 | some (t, rs) => thU (argU t.2.1.data.toList rs) fun x rs => thU (asU rs) fun n rs => (some ⟨t.2.1, x, n⟩, rs)
 | none => (none, ts)
def sevU {α : Type} (part : List Tok → Option α × List Tok) : Nat → List α → List Tok → Option (List α) × List Tok
 | 0, _, ts => (none, ts)
 | k + 1, acc, ts => match part ts with
  | (none, rs) => (none, rs)
  | (some x, rs) => match nxT (sgT [[44]]) rs with
   | some (_, rs') => sevU part k (acc ++ [x]) rs'
   | none => (some (acc ++ [x]), rs)
def nextB (P : Tok → Bool) (ts : List Tok) : Bool := match ts with
 | [] => false
 | t :: _ => P t
def whU (ts : List Tok) : Option Ex × List Tok := match nxT (sgT [wWhere]) ts with
 | some (_, rs) => readE rs
 | none => (some ex0, ts)
def slU (sz : Int) (ts : List Tok) : Option Int × List Tok := match nxT (sgT [wSlide]) ts with
 | some (_, rs) => iU rs
 | none => (some sz, ts)
def frU (ts : List Tok) : Option (ByteArray × Ex) × List Tok := thU (jU wFrom ts) fun _ rs => thU (nU rs) fun f rs => thU (whU rs) fun x rs => (some (f, x), rs)
def grU (ts : List Tok) : Option (List ByteArray × Int × Int) × List Tok :=
 thU (jU wGroup ts) fun _ rs => thU (jU wBy rs) fun _ rs => thU (sevU nU (rs.length + 1) [] rs) fun g rs => thU (jU wWindow rs) fun _ rs => thU (iU rs) fun z rs => thU (slU z rs) fun s rs => (some (g, z, s), rs)
def qOneU (ts : List Tok) : Option Qy × List Tok := thU (sevU colU (ts.length + 1) [] ts) fun c rs => thU (frU rs) fun f rs => (some ⟨f.1, f.2, c.map (·.1), c.map (·.2), [], 0, 0, []⟩, rs)
def qTwoU (ts : List Tok) : Option Qy × List Tok := thU (sevU aggU (ts.length + 1) [] ts) fun a rs => thU (frU rs) fun f rs => thU (grU rs) fun g rs => (some ⟨f.1, f.2, [], [], g.1, g.2.1, g.2.2, a⟩, rs)
def qU (ts : List Tok) : Option Qy × List Tok := thU (jU wSelect ts) fun _ rs => if nextB agB rs = true then qTwoU rs else qOneU rs
def qyZ : Qy := ⟨⟨#[]⟩, ex0, [], [], [], 0, 0, []⟩
def exsQ (q : Qy) : List Ex := q.whr :: (q.cols ++ q.aggs.map (·.arg))
def noOp (x : Ex) : Bool := decide (x.op.data.toList = [])
def ofT (zs : List Cl) (x : Ex) : Int × Int := if (ofP zs x).2.1 ≠ 0 then (0, (ofP zs x).2.1) else ((ofP zs x).1, 0)
def grT (zs : List Cl) (ahead : List ByteArray) (g : ByteArray) : Int × Int :=
 if findN g.data.toList zs < 0 then (0, 5) else if (ahead.any fun a => a.data.toList == g.data.toList) = true then (0, 7) else ((zs[(findN g.data.toList zs).toNat]?.getD (⟨#[]⟩, 0)).2, 0)
def agQ (zs : List Cl) (a : Ag) : Int × Int :=
 if isAg a.what.data.toList = false then (0, 2)
 else if a.what.data.toList = wCount then (if noOp a.arg = true then (1, 0) else (0, 3))
 else if (ofP zs a.arg).2.1 ≠ 0 then (0, (ofP zs a.arg).2.1)
 else if a.what.data.toList = [115, 117, 109] ∧ (ofP zs a.arg).1 ≠ 1 then (0, 8)
 else ((ofP zs a.arg).1, 0)
def namesQ (q : Qy) : List ByteArray := q.names ++ (q.group ++ q.aggs.map (·.name))
def tyAt (zs : List Cl) (q : Qy) (i : Nat) : Int × Int :=
 if i < q.cols.length then ofT zs (q.cols[i]?.getD ex0)
 else if i < q.group.length then grT zs (q.group.take i) (q.group[i]?.getD ⟨#[]⟩)
 else agQ zs (q.aggs[i - q.group.length]?.getD ⟨⟨#[]⟩, ex0, ⟨#[]⟩⟩)
def clQ (zs : List Cl) (q : Qy) : Nat → List Cl → List ByteArray → List Cl × Int
 | _, out, [] => (out, 0)
 | i, out, n :: ns => if (tyAt zs q i).2 ≠ 0 then ([], (tyAt zs q i).2) else clQ zs q (i + 1) (out ++ [(n, (tyAt zs q i).1)]) ns
def togQ (q : Qy) : Bool :=
 if q.size ≠ 0 then decide (q.cols.length = 0) && decide (q.names.length = 0)
 else decide (q.slide = 0) && (decide (q.aggs.length = 0) && (decide (q.group.length = 0) && decide (q.names.length = q.cols.length)))
def formQ (q : Qy) : Int :=
 if togQ q = false then 3
 else if q.size ≠ 0 ∧ ¬ wdB q.size q.slide then 1
 else if q.cols.length + q.group.length + q.aggs.length = 0 then 5
 else if 6 < q.cols.length + q.group.length + q.aggs.length then 4
 else 0
def whQ (zs : List Cl) (x : Ex) : Int := if noOp x = true then 0 else if (ofP zs x).2.1 ≠ 0 then (ofP zs x).2.1 else if (ofP zs x).1 ≠ 2 then 8 else 0
def chQ (zs : List Cl) (q : Qy) : List Cl × Int :=
 if schE zs ≠ 0 then ([], schE zs)
 else if formQ q ≠ 0 then ([], formQ q)
 else if whQ zs q.whr ≠ 0 then ([], whQ zs q.whr)
 else if (clQ zs q 0 [] (namesQ q)).2 ≠ 0 then ([], (clQ zs q 0 [] (namesQ q)).2)
 else if schE (clQ zs q 0 [] (namesQ q)).1 ≠ 0 then ([], schE (clQ zs q 0 [] (namesQ q)).1)
 else ((clQ zs q 0 [] (namesQ q)).1, 0)

theorem clQ_names {zs : List Cl} {q : Qy} : ∀ (ns : List ByteArray) (i : Nat) (out r : List Cl), clQ zs q i out ns = (r, 0) → r.map (·.1) = out.map (·.1) ++ ns
 | [], i, out, r, h => by
  rw [clQ] at h
  obtain ⟨rfl, -⟩ := Prod.mk.inj h
  simp
 | n :: ns, i, out, r, h => by
  rw [clQ] at h
  split at h
  ·rename_i h1
   exact absurd (Prod.mk.inj h).2 h1
  ·have := clQ_names ns _ _ _ h
   rw [this]; simp
theorem chQ_says (zs : List Cl) (q : Qy) : ((chQ zs q).2 ≠ 0 ∧ (chQ zs q).1 = []) ∨ ((chQ zs q).2 = 0 ∧ (chQ zs q).1.map (·.1) = namesQ q ∧ schE (chQ zs q).1 = 0 ∧ formQ q = 0) := by
 rw [chQ]
 split
 ·rename_i h; exact .inl ⟨h, rfl⟩
 ·split
  ·rename_i h; exact .inl ⟨h, rfl⟩
  ·split
   ·rename_i h; exact .inl ⟨h, rfl⟩
   ·split
    ·rename_i h; exact .inl ⟨h, rfl⟩
    ·split
     ·rename_i h; exact .inl ⟨h, rfl⟩
     ·rename_i h1 h2 h3 h4 h5
      refine .inr ⟨rfl, ?_, Classical.not_not.1 h5, Classical.not_not.1 h2⟩
      have e : clQ zs q 0 [] (namesQ q) = ((clQ zs q 0 [] (namesQ q)).1, 0) := Prod.ext rfl (Classical.not_not.1 h4)
      have := clQ_names _ _ _ _ e
      simpa using this
theorem info_strA : (Tryz.prog.info? 9).map (fun i => (i.zero, i.size, i.bytes)) = some (some (.string ⟨#[]⟩), 1, 16) := by kernel_rfl
def StsA (w : World) (v : Value) (ts : List ByteArray) : Prop := ∃ p c, v = .slice p ts.length c ∧ (ts.length ≤ c ∧ ts.length ≤ 1048576) ∧ (p = none → c = 0) ∧ ∀ a, p = some a → ts.length = 0 ∨ ∃ g off, a = ⟨g, off, none⟩ ∧ g < w.heap.size ∧ ∀ j (h : j < ts.length), w.cell? ⟨g, off + j, none⟩ = some (.string ts[j])
theorem StsA.on {w w' : World} {v : Value} {ts : List ByteArray} (h : StsA w v ts) (hb : Below w.heap.size w w') : StsA w' v ts := by
 obtain ⟨p, c, e, h1, h2, h3⟩ := h
 refine ⟨p, c, e, h1, h2, fun a ha => ?_⟩
 rcases h3 a ha with h0 | ⟨g, off, e2, h5, h6⟩
 ·exact .inl h0
 ·exact .inr ⟨g, off, e2, by have := hb.size; omega, fun j hj => by rw [hb.cell (p := ⟨g, off + j, none⟩) h5]; exact h6 j hj⟩
theorem StsA.nil (w : World) : StsA w (.slice none 0 0) [] := ⟨none, 0, rfl, ⟨Nat.le_refl _, Nat.zero_le _⟩, fun _ => rfl, fun a h => nomatch h⟩
theorem sts_own {w : World} {B : Nat} {v : Value} {n : Nat} {ts : List ByteArray} (hn : ts.length = n) (hl : n ≤ 1048576) (h : w.ownsRow B 9 1 v n (ts.map .string)) : StsA w v ts := by
 subst hn
 rcases id h.2 with ⟨rfl, e⟩ | ⟨g, cap, cur, rfl, hb, hg, hm, hx, hs, ht⟩
 ·exact ⟨none, 0, by rw [e], ⟨by omega, by omega⟩, fun _ => rfl, fun a ha => nomatch ha⟩
 ·refine ⟨some ⟨g, 0, none⟩, cap, rfl, ⟨by omega, hl⟩, (fun hp => nomatch hp), fun a ha => ?_⟩
  injection ha with ha
  subst ha
  refine .inr ⟨g, 0, rfl, (Array.getElem?_eq_some_iff.1 hg).1, fun j hj => ?_⟩
  have := h.cells (g := g) rfl j (.string ts[j]) (by rw [List.getElem?_map, List.getElem?_eq_getElem hj]; rfl)
  rw [Go.WideShapes.add_plain] at this
  exact this
theorem sts_some {w : World} {q : Option Addr} {n c m : Nat} {bs : List ByteArray} (h : StsA w (.slice q n c) bs) (hm : m < bs.length) : ∃ g off, q = some ⟨g, off, none⟩ ∧ g < w.heap.size ∧ ∀ j (h : j < bs.length), w.cell? ⟨g, off + j, none⟩ = some (.string bs[j]) := by
 obtain ⟨p', c', e, ⟨h1, h64⟩, h2, h3⟩ := h
 injection e with e1 e2 e3
 subst e1 e3
 cases q with
 | none => have := h2 rfl; omega
 | some a =>
  rcases h3 a rfl with h0 | ⟨g, off, rfl, h5, h6⟩
  ·omega
  ·exact ⟨g, off, rfl, h5, h6⟩
theorem addr_zero (a : Addr) : a.add 0 = a := by cases a; simp [Addr.add]
theorem sts_slice_h {w : World} {p : Option Addr} {n c l : Nat} {ts : List ByteArray} (h : StsA w (.slice p n c) ts) (hn : ts.length = n) (hl : l ≤ n) : ∃ p1 c1, (∀ W, Sem.run Tryz.prog (Instr.slice 27 (.slice p n c) none (some (.int .i64 (l : Int))) none) W = .ok (.slice p1 l c1) W) ∧ StsA w (.slice p1 l c1) (ts.take l) := by
 subst hn
 obtain ⟨p', c', e, ⟨h1, h64⟩, h2, h3⟩ := h
 injection e with e1 e2 e3
 subst e1 e3
 have hr : ∀ W, Sem.run Tryz.prog (Instr.slice 27 (.slice p ts.length c) none (some (.int .i64 (l : Int))) none) W = .ok (sliced p 0 l c 1) W := fun W => by
  have g0 : (0 : Int) ≤ (l : Int) := by omega
  have g1 : (l : Int) ≤ (c : Int) := by omega
  have g2 : Sem.run Tryz.prog (Go.sizeOf (Tryz.prog.elem 27)) W = .ok 1 W := by kernel_rfl
  rw [run_slice_h W 27 p ts.length c (by kernel_rfl) .i64 l g0 g1, g2]
  rfl
 have hlen : (ts.take l).length = l := by rw [List.length_take]; omega
 refine ⟨p, c, fun W => ?_, p, c, by rw [hlen], ⟨by omega, by omega⟩, h2, fun a ha => ?_⟩
 ·rw [hr W, sliced]
  cases p with
  | none => simp
  | some a => simp [addr_zero]
 ·rcases h3 a ha with h0 | ⟨g, off, e2, h5, h6⟩
  ·exact .inl (by omega)
  refine .inr ⟨g, off, e2, h5, fun j hj => ?_⟩
  rw [List.getElem_take]
  exact h6 j (by omega)
theorem wpList_append_sts {w : World} {ops : Array Oper} {rest : List Oper} {o : Oper} {a : Act} {Q : Exit → Act → World → Prop} (hgd : o.guard = none) (s x : Operand)
  (ho : o.op = .call { callee := .builtin .append, args := #[s, x], argTypes := #[27, 27] })
  (base : Nat) (v : Value) (n : Nat) (xs : List ByteArray) (hs : a.eval s = v) (hown : w.ownsRow base 9 1 v n (xs.map .string))
  (u : Value) (ts : List ByteArray) (hx : a.eval x = u) (hst : StsA w u ts) (n' : Nat) (cs' : List Value) (hn' : n + ts.length = n') (hcs : (xs ++ ts).map .string = cs') (hsm : n' ≤ 1048576) (hbase : base ≤ w.heap.size)
  (h : ∀ v' w', w'.ownsRow base 9 1 v' n' cs' → Below base w w' → wpList Tryz.prog ops Q rest (a.put o.dst v') w') : wpList Tryz.prog ops Q (o :: rest) a w := by
 subst hn' hcs
 obtain ⟨i0, hi, hz0, hz1, hzz⟩ := info_parts info_strA
 obtain ⟨p, c, rfl, h1, h2, h3⟩ := hst
 cases p with
 | none =>
  have hc := h2 rfl
  subst hc
  have hl : ts.length = 0 := by omega
  have : ts = [] := List.length_eq_zero_iff.1 hl
  subst this
  refine wpList_append_own_none hgd s x 27 ho base 9 i0 1 Tryz.underlying27 hi v n (xs.map .string) hs hown hx (h v w ?_ (Below.refl _ _))
  simpa using hown
 | some ad =>
  refine wpList_append_own w hgd s x 27 ho base 9 i0 (.string ⟨#[]⟩) 1 16 Tryz.underlying27 hi hz0 hz1 hzz rfl (by decide) v n (xs.map .string) hs hown ad ts.length c (ts.map .string) hx (by simp) (fun j y hy => ?_) (fun y hy => ?_) (by unfold maxLen; omega) (by omega) hbase (fun v' w' o1 o2 _ => ?_)
  ·rw [List.getElem?_map] at hy
   obtain ⟨t, ht, rfl⟩ := Option.map_eq_some_iff.1 hy
   obtain ⟨hj, rfl⟩ := List.getElem?_eq_some_iff.1 ht
   rcases h3 ad rfl with h0 | ⟨g, off, rfl, h5, h6⟩
   ·omega
   ·rw [Go.WideShapes.add_plain]
    exact h6 j hj
  ·rw [List.mem_map] at hy
   obtain ⟨t, _, rfl⟩ := hy
   rfl
  ·refine h v' w' ?_ ((Below.refl _ w).grown o2 hbase (fun j hj => (hown.lt j hj).1))
   rw [List.map_append]; exact o1
theorem sts_one (w : World) (s : ByteArray) (g : Nat) (hg : g = w.heap.size) : StsA (w.alloc (.cells #[.string s] 9)) (.slice (some ⟨g, 0, none⟩) 1 1) [s] := by
 subst hg
 refine ⟨_, 1, rfl, ⟨Nat.le_refl _, by simp⟩, (fun hp => nomatch hp), fun a ha => ?_⟩
 injection ha with ha
 subst ha
 refine .inr ⟨w.heap.size, 0, rfl, by simp, fun j hj => ?_⟩
 obtain rfl : j = 0 := by simp at hj; omega
 rw [World.cell?_alloc_at _ _ _ _ rfl]; rfl
theorem sts_form {w : World} {v : Value} {ts : List ByteArray} (h : StsA w v ts) : ∃ q c, v = .slice q ts.length c := by
 obtain ⟨p, c, e, -⟩ := h
 exact ⟨p, c, e⟩
set_option maxHeartbeats 2000000 in
theorem texts_sts (u v : Value) (bs : List ByteArray) (w : World) (hu : StsA w u bs) (hv : StsA w v bs) :
  Calls Tryz.prog 21 #[u, v] w fun e w' => e = .returned (.bool true) ∧ Below w.heap.size w w' := by
 obtain ⟨p, c, rfl⟩ := sts_form hu
 obtain ⟨q, d, rfl⟩ := sts_form hv
 obtain ⟨N, hN⟩ : ∃ N, bs.length = N := ⟨_, rfl⟩
 have HN : Hid (bs.length = N) := hN
 simp only [hN] at hu hv ⊢
 have HU : Aside (StsA w (.slice p N c) bs) := hu
 have HV : Aside (StsA w (.slice q N d) bs) := hv
 have hN2 : N ≤ 1048576 := by
  obtain ⟨p', c', e, ⟨_, h⟩, _⟩ := hu
  omega
 have hNz : (N : Int) ≤ 1048576 := by omega
 have qn : ((N : Int) != (N : Int)) = false := by simp
 clear hu hv hN
 go_enter Tryz.func21, Tryz.ntmps21
 go_wp2
 go_loopg [5] N (fun gg s5 wr => ∃ kk : Nat, kk ≤ N ∧ N - kk ≤ gg ∧ s5 = .int .i64 kk ∧ Aside (Below w.heap.size w wr))
 case atStart => exact ⟨0, Nat.zero_le _, by omega, rfl, (show Aside _ from Below.refl _ _)⟩
 case round =>
  obtain ⟨kk, hkk, hg, rfl, BW⟩ := hrel
  by_cases hlt : kk < N
  ·have hltz : (kk : Int) < (N : Int) := by omega
   have h0z : (0 : Int) ≤ (kk : Int) := by omega
   have hk2 : kk < bs.length := by rw [HN.out]; exact hlt
   obtain ⟨b1, o1, rfl, l1, h1⟩ := sts_some HU.out hk2
   obtain ⟨b2, o2, rfl, l2, h2⟩ := sts_some HV.out hk2
   have e1 : wr.cell? ⟨b1, o1 + kk, none⟩ = some (.string bs[kk]) := by rw [BW.out.cell (p := ⟨b1, _, none⟩) l1]; exact h1 kk hk2
   have e2 : wr.cell? ⟨b2, o2 + kk, none⟩ = some (.string bs[kk]) := by rw [BW.out.cell (p := ⟨b2, _, none⟩) l2]; exact h2 kk hk2
   clear h1 h2
   generalize bs[kk] = S at e1 e2
   have qs : (S.toList == S.toList) = true := by simp
   go_wp2
   go_quiet (fail)
   go_wp2
   go_roundg (N - (kk + 1))
   case measure => omega
   case rel => exact ⟨kk + 1, by omega, by omega, by go_num, (show Aside _ from below_drewN BW.out _)⟩
  ·have hltz : ¬ (kk : Int) < (N : Int) := by omega
   go_wp2
   go_ret
   exact ⟨rfl, BW.out⟩
abbrev exV (x : Ex) (p : Option Addr) (c : Nat) : Value := .agg #[.string x.op, .string x.nm, .int .i64 x.vt, .int .i64 x.vn, .string x.vs, .slice p x.args.length c, .int .i64 x.pos]
def AgsIn (w : World) (lo : Nat → Prop) (b off : Nat) (l : List Ag) : Prop := ∀ j (h : j < l.length), ∃ ap ac, w.cell? ⟨b, off + j * 9, none⟩ = some (.string l[j].what) ∧ w.cell? ⟨b, off + j * 9 + 1, none⟩ = some (.string l[j].arg.op) ∧ w.cell? ⟨b, off + j * 9 + 2, none⟩ = some (.string l[j].arg.nm) ∧ w.cell? ⟨b, off + j * 9 + 3, none⟩ = some (.int .i64 l[j].arg.vt) ∧ w.cell? ⟨b, off + j * 9 + 4, none⟩ = some (.int .i64 l[j].arg.vn) ∧ w.cell? ⟨b, off + j * 9 + 5, none⟩ = some (.string l[j].arg.vs) ∧ w.cell? ⟨b, off + j * 9 + 6, none⟩ = some (.slice ap l[j].arg.args.length ac) ∧ w.cell? ⟨b, off + j * 9 + 7, none⟩ = some (.int .i64 l[j].arg.pos) ∧ w.cell? ⟨b, off + j * 9 + 8, none⟩ = some (.string l[j].name) ∧ ExIn w lo (exV l[j].arg ap ac) l[j].arg
def AgsIs (w : World) (lo : Nat → Prop) (p : Option Addr) (l : List Ag) : Prop := l.length ≤ 1048576 ∧ (l.length = 0 ∨ ∃ b off, p = some ⟨b, off, none⟩ ∧ b < w.heap.size ∧ lo b ∧ AgsIn w lo b off l)
abbrev qyC (q : Qy) (wp : Option Addr) (wc : Nat) (cp : Option Addr) (cc : Nat) (np : Option Addr) (nc : Nat) (gp : Option Addr) (gc : Nat) (ap : Option Addr) (ac : Nat) : Array Value :=
 #[.string q.frm, .string q.whr.op, .string q.whr.nm, .int .i64 q.whr.vt, .int .i64 q.whr.vn, .string q.whr.vs, .slice wp q.whr.args.length wc, .int .i64 q.whr.pos, .slice cp q.cols.length cc, .slice np q.names.length nc, .slice gp q.group.length gc, .int .i64 q.size, .int .i64 q.slide, .slice ap q.aggs.length ac]
structure QyBe (w : World) (lo : Nat → Prop) (q : Qy) (wp : Option Addr) (wc : Nat) (cp : Option Addr) (cc : Nat) (np : Option Addr) (nc : Nat) (gp : Option Addr) (gc : Nat) (ap : Option Addr) (ac : Nat) : Prop where
 whr : ExIn w lo (exV q.whr wp wc) q.whr
 cols : ArgsIs w lo (.slice cp q.cols.length cc) q.cols
 clen : q.cols.length ≤ 1048576
 names : StsA w (.slice np q.names.length nc) q.names
 group : StsA w (.slice gp q.group.length gc) q.group
 aggs : AgsIs w lo ap q.aggs
def QyIn (w : World) (lo : Nat → Prop) (v : Value) (q : Qy) : Prop := ∃ wp wc cp cc np nc gp gc ap ac, v = .agg (qyC q wp wc cp cc np nc gp gc ap ac) ∧ QyBe w lo q wp wc cp cc np nc gp gc ap ac
theorem AgsIn.on {w w' : World} {lo : Nat → Prop} {b off : Nat} {l : List Ag} (h : AgsIn w lo b off l) (hlt : b < w.heap.size) (hb : Below w.heap.size w w') : AgsIn w' lo b off l := fun j hj => by
 obtain ⟨ap, ac, c0, c1, c2, c3, c4, c5, c6, c7, c8, hx⟩ := h j hj
 have k : ∀ o, w'.cell? ⟨b, o, none⟩ = w.cell? ⟨b, o, none⟩ := fun o => hb.cell (p := ⟨b, o, none⟩) hlt
 exact ⟨ap, ac, by rw [k]; exact c0, by rw [k]; exact c1, by rw [k]; exact c2, by rw [k]; exact c3, by rw [k]; exact c4, by rw [k]; exact c5, by rw [k]; exact c6, by rw [k]; exact c7, by rw [k]; exact c8, hx.on hb⟩
theorem AgsIs.on {w w' : World} {lo : Nat → Prop} {p : Option Addr} {l : List Ag} (h : AgsIs w lo p l) (hb : Below w.heap.size w w') : AgsIs w' lo p l := by
 obtain ⟨h1, h2⟩ := h
 refine ⟨h1, ?_⟩
 rcases h2 with h2 | ⟨b, off, e, hl, hlo, h3⟩
 ·exact .inl h2
 ·exact .inr ⟨b, off, e, by have := hb.size; omega, hlo, h3.on hl hb⟩
theorem ArgsIs.onB {w w' : World} {lo : Nat → Prop} {v : Value} {l : List Ex} (h : ArgsIs w lo v l) (hb : Below w.heap.size w w') : ArgsIs w' lo v l := h.keep hb.size (fun b o _ hl => hb.cell (p := ⟨b, o, none⟩) hl)
theorem QyBe.on {w w' : World} {lo : Nat → Prop} {q : Qy} {wp : Option Addr} {wc : Nat} {cp : Option Addr} {cc : Nat} {np : Option Addr} {nc : Nat} {gp : Option Addr} {gc : Nat} {ap : Option Addr} {ac : Nat} (h : QyBe w lo q wp wc cp cc np nc gp gc ap ac) (hb : Below w.heap.size w w') : QyBe w' lo q wp wc cp cc np nc gp gc ap ac :=
 ⟨h.whr.on hb, h.cols.onB hb, h.clen, h.names.on hb, h.group.on hb, h.aggs.on hb⟩
theorem QyIn.on {w w' : World} {lo : Nat → Prop} {v : Value} {q : Qy} (h : QyIn w lo v q) (hb : Below w.heap.size w w') : QyIn w' lo v q := by
 obtain ⟨wp, wc, cp, cc, np, nc, gp, gc, ap, ac, e, h⟩ := h
 exact ⟨wp, wc, cp, cc, np, nc, gp, gc, ap, ac, e, h.on hb⟩
theorem rangeQ7 {W : World} {b o : Nat} {v0 v1 v2 v3 v4 v5 v6 : Value} (h0 : W.cell? ⟨b, o, none⟩ = some v0) (h1 : W.cell? ⟨b, o + 1, none⟩ = some v1) (h2 : W.cell? ⟨b, o + 2, none⟩ = some v2) (h3 : W.cell? ⟨b, o + 3, none⟩ = some v3) (h4 : W.cell? ⟨b, o + 4, none⟩ = some v4) (h5 : W.cell? ⟨b, o + 5, none⟩ = some v5) (h6 : W.cell? ⟨b, o + 6, none⟩ = some v6) : W.rangeAt b o [v0, v1, v2, v3, v4, v5, v6] := fun j v hv => by
 have hj : j < 7 := by have := (List.getElem?_eq_some_iff.1 hv).1; simpa using this
 have : j = 0 ∨ j = 1 ∨ j = 2 ∨ j = 3 ∨ j = 4 ∨ j = 5 ∨ j = 6 := by omega
 rcases this with rfl | rfl | rfl | rfl | rfl | rfl | rfl
 all_goals (simp at hv; subst hv; assumption)
theorem partQ_at {w : World} {lo : Nat → Prop} {p : Option Addr} {n c : Nat} {l : List Ex} (h : ArgsIs w lo (.slice p n c) l) {j : Nat} (hj : j < l.length) : ∃ ba oa yp yc, p = some ⟨ba, oa, none⟩ ∧ ba < w.heap.size ∧ lo ba ∧ w.rangeAt ba (oa + j * 7) [.string l[j].op, .string l[j].nm, .int .i64 l[j].vt, .int .i64 l[j].vn, .string l[j].vs, .slice yp l[j].args.length yc, .int .i64 l[j].pos] ∧ ExIn w lo (exV l[j] yp yc) l[j] := by
 obtain ⟨p', c', e, -, h⟩ := h
 injection e with e1 e2 e3
 subst e1
 rcases h with h0 | ⟨ba, oa, e, hbl, hlo, hE⟩
 ·exact absurd h0 (by omega)
 ·obtain ⟨v0, v1, v2, v3, v4, v5, v6, e0, e1, e2, e3, e4, e5, e6, hy⟩ := exsIn_at w lo ba l oa hE j hj
  obtain ⟨yp, yc, hw, -⟩ := hy.whole
  injection hw with hw
  simp only [Array.mk.injEq, List.cons.injEq, and_true] at hw
  obtain ⟨rfl, rfl, rfl, rfl, rfl, rfl, rfl⟩ := hw
  exact ⟨ba, oa, yp, yc, e, hbl, hlo, rangeQ7 e0 e1 e2 e3 e4 e5 e6, hy⟩
end Go.Proofs.YtkbhmghdonomnaaGreatDoor
namespace Go.Proofs.YtkbhmghdonomnaaGreatDoor
open Go.RowKit Go.BigFrame
set_option linter.unusedVariables false
def aggsL : List (List UInt8) := [[99, 111, 117, 110, 116], [115, 117, 109], [108, 101, 97, 115, 116], [109, 111, 115, 116]]
def aggsC : Array Value := #[.string ⟨#[99, 111, 117, 110, 116]⟩, .string ⟨#[115, 117, 109]⟩, .string ⟨#[108, 101, 97, 115, 116]⟩, .string ⟨#[109, 111, 115, 116]⟩]
structure AEnv (w : World) : Prop where
 big : 15 ≤ w.heap.size
 ags : ∃ t fr, w.heap[3]? = some (.cells aggsC t fr)
theorem AEnv.onB {w w' : World} {n : Nat} (h : AEnv w) (hb : Below n w w') (hn : 15 ≤ n) (hs : w.heap.size ≤ w'.heap.size) : AEnv w' := by
 refine ⟨by have := h.big; omega, ?_⟩
 obtain ⟨t, fr, h1⟩ := h.ags
 exact ⟨t, fr, by rw [hb.block _ (by omega)]; exact h1⟩
theorem AEnv.on {w w' : World} (h : AEnv w) (hb : Below w.heap.size w w') : AEnv w' := h.onB hb h.big hb.size
theorem agg_at (k : Nat) (hk : k < 4) : ∃ S : ByteArray, (∀ W : World, Sem.run Tryz.prog (Instr.index 187 (.agg aggsC) (.int .i64 (k : Int))) W = .ok (.string S) W) ∧ aggsL[k]'hk = S.data.toList := by
 have h : k = 0 ∨ k = 1 ∨ k = 2 ∨ k = 3 := by omega
 rcases h with rfl | rfl | rfl | rfl
 ·exact ⟨⟨#[99, 111, 117, 110, 116]⟩, fun W => by kernel_rfl, rfl⟩
 ·exact ⟨⟨#[115, 117, 109]⟩, fun W => by kernel_rfl, rfl⟩
 ·exact ⟨⟨#[108, 101, 97, 115, 116]⟩, fun W => by kernel_rfl, rfl⟩
 ·exact ⟨⟨#[109, 111, 115, 116]⟩, fun W => by kernel_rfl, rfl⟩
theorem isAg_any (s : List UInt8) : isAg s = aggsL.any (· == s) := by
 have e : ∀ a : List UInt8, decide (s = a) = (a == s) := fun a => by
  by_cases h : s = a
  ·subst h; simp
  ·have h2 : ¬ a = s := fun h2 => h h2.symm
   simp [h, h2]
 simp only [isAg, aggsL, List.any_cons, List.any_nil, Bool.or_false, e]
set_option maxHeartbeats 1000000 in
set_option maxRecDepth 20000 in
theorem isAgg_any (x : ByteArray) (w : World) (henv : AEnv w) :
  Calls Tryz.prog 108 #[.string x] w fun e w' => e = .returned (.bool (isAg x.data.toList)) ∧ w' = w := by
 obtain ⟨tt, fr, hgl⟩ := henv.ags
 rw [isAg_any]
 obtain ⟨R, hR⟩ : ∃ R, aggsL.any (· == x.data.toList) = R := ⟨_, rfl⟩
 have HR : Hid (aggsL.any (· == x.data.toList) = R) := hR
 rw [hR]
 clear hR
 go_enter Tryz.func108, Tryz.ntmps108
 go_wp2_with (refine wpList_load_row rfl 187 _ rfl 3 rfl tt _ fr _ hgl Tryz.underlying187 rfl (by kernel_rfl) ?_)
 have hat := agg_at
 generalize Value.agg aggsC = AR at hat ⊢
 clear hgl
 go_loopg [4, 6] 4 (fun gg _ s6 wr => ∃ kk : Nat, kk ≤ 4 ∧ 4 - kk ≤ gg ∧ s6 = .int .i64 kk ∧ wr = w ∧ Hid ((aggsL.drop kk).any (· == x.data.toList) = R))
 case atStart => exact ⟨0, Nat.zero_le _, by omega, rfl, rfl, HR⟩
 case round =>
  obtain ⟨kk, hkk, hg, rfl, rfl, HE⟩ := hrel
  clear HR
  by_cases hlt : kk < 4
  ·have hltz : (kk : Int) < 4 := by omega
   obtain ⟨S, hS, hS1⟩ := hat kk hlt
   clear hat
   have hd : aggsL.drop kk = S.data.toList :: aggsL.drop (kk + 1) := by
    rw [List.drop_eq_getElem_cons (show kk < aggsL.length from hlt)]
    exact congrArg (· :: _) hS1
   have HS : Hid ((S.data.toList :: aggsL.drop (kk + 1)).any (· == x.data.toList) = R) := by show _ = _; rw [← hd]; exact HE.out
   clear hd hS1 HE
   by_cases he : S.data.toList = x.data.toList
   ·have hq : (S.toList == x.toList) = true := by rw [Lib.toList_data, Lib.toList_data]; simpa using he
    have hR2 : true = R := by
     have hb : (S.data.toList == x.data.toList) = true := by simpa using he
     rw [← HS.out, List.any_cons, hb]; rfl
    subst hR2
    clear HS
    go_wp2
    go_ret
    exact ⟨rfl, rfl⟩
   ·have hq : (S.toList == x.toList) = false := by rw [Lib.toList_data, Lib.toList_data]; simpa using he
    have HS2 : Hid ((aggsL.drop (kk + 1)).any (· == x.data.toList) = R) := by
     show _ = _
     have hb : (S.data.toList == x.data.toList) = false := by simpa using he
     rw [← HS.out, List.any_cons, hb, Bool.false_or]
    clear HS
    go_wp2
    go_roundg (4 - (kk + 1))
    case measure => omega
    case rel => exact ⟨kk + 1, by omega, by omega, by go_num, rfl, HS2⟩
  ·have hltz : ¬ (kk : Int) < 4 := by omega
   have hR2 : false = R := by rw [← HE.out, List.drop_eq_nil_of_le (by show 4 ≤ kk; omega)]; rfl
   subst hR2
   clear HE
   go_wp2
   go_ret
   exact ⟨rfl, rfl⟩
theorem isNothing_any (x : Ex) (lo : Nat → Prop) (v : Value) (w : World) (hx : ExIn w lo v x) :
  Calls Tryz.prog 46 #[v] w fun e w' => e = .returned (.bool (noOp x)) ∧ Below w.heap.size w w' := by
 obtain ⟨xp, xc, rfl, -⟩ := hx.whole
 obtain ⟨NO, hNO⟩ : ∃ NO, noOp x = NO := ⟨_, rfl⟩
 have hd : decide (x.op.data.toList = []) = NO := hNO
 rw [hNO]
 clear hNO hx
 obtain ⟨op, nm, vt, vn, vs, pos, l⟩ := x
 simp only [Ex.op, Ex.nm, Ex.vt, Ex.vn, Ex.vs, Ex.args, Ex.pos] at hd ⊢
 cases NO
 ·have h : ¬ op.data.toList = [] := by simpa using hd
  have hq : (op.toList == []) = false := by rw [Lib.toList_data]; simpa using h
  clear hd h
  go_enter Tryz.func46, Tryz.ntmps46
  go_wp2
  go_ret
  exact ⟨rfl, (Below.refl _ _).alloc (Nat.le_refl _) _⟩
 ·have h : op.data.toList = [] := by simpa using hd
  have hq : (op.toList == []) = true := by rw [Lib.toList_data]; simpa using h
  clear hd h
  go_enter Tryz.func46, Tryz.ntmps46
  go_wp2
  go_ret
  exact ⟨rfl, (Below.refl _ _).alloc (Nat.le_refl _) _⟩
theorem cols_form {w : World} {v : Value} {zs : List Cl} (h : ColsV w v zs) : ∃ q c, v = .slice q zs.length c := by
 obtain ⟨q, c, e, -⟩ := h
 exact ⟨q, c, e⟩
set_option maxHeartbeats 2000000 in
theorem typeOf_q (x : Ex) (lo : Nat → Prop) (v vl : Value) (zs : List Cl) (w : World) (henv : KEnv w) (hx : ExIn w lo v x) (hsz : (x.pre 1).length ≤ 1048576) (hcv : ColsV w vl zs) (T E : Int) (hR : ofT zs x = (T, E)) :
  Calls Tryz.prog 57 #[v, vl] w fun e w' => e = .returned (.tuple #[.int .i64 T, errV E]) ∧ Below w.heap.size w w' := by
 obtain ⟨T0, H0, P0, hO⟩ : ∃ T0 H0 P0, ofP zs x = (T0, H0, P0) := ⟨_, _, _, rfl⟩
 rw [ofT, hO] at hR
 simp only at hR
 have b1 := fun o => (Below.refl w.heap.size w).alloc (Nat.le_refl _) o
 obtain ⟨xp, xc, hxe, -⟩ := id hx.whole
 obtain ⟨q, c, hvl⟩ := cols_form hcv
 have cO := fun o => of_any x lo v vl zs (w.alloc o) (henv.on (b1 o)) (hx.on (b1 o)) hsz (hcv.on (b1 o)) T0 H0 P0 hO
 clear hx hcv henv hO
 subst hxe hvl
 generalize zs.length = NZ at cO ⊢
 obtain ⟨op, nm, vt, vn, vs, pos, l⟩ := x
 simp only [Ex.op, Ex.nm, Ex.vt, Ex.vn, Ex.vs, Ex.args, Ex.pos] at cO ⊢
 generalize l.length = NL at cO ⊢
 have fin : ∀ {o : Obj} {w1 : World}, Below (w.alloc o).heap.size (w.alloc o) w1 → ∀ o2, Below w.heap.size w (w1.alloc o2) := fun {o w1} b2 o2 => (((Below.refl w.heap.size w).alloc (Nat.le_refl _) o).trans (b2.mono (by simp))).alloc (by have := b2.size; simp at this; omega) _
 by_cases hh : H0 = 0
 ·subst hh
  rw [if_neg (by simp)] at hR
  obtain ⟨rfl, rfl⟩ := Prod.mk.inj hR
  rw [errV, if_pos rfl]
  go_enter Tryz.func57, Tryz.ntmps57
  go_wp2_with fail
  refine (cO _).mono ?_
  rintro e w1 ⟨rfl, b2⟩
  have F := fin b2
  clear b1 cO fin
  go_wp2
  go_ret2
  exact ⟨rfl, F _⟩
 ·rw [if_pos hh] at hR
  obtain ⟨rfl, rfl⟩ := Prod.mk.inj hR
  rw [errV, if_neg hh]
  have hb : (H0 != 0) = true := by simpa using hh
  go_enter Tryz.func57, Tryz.ntmps57
  go_wp2_with fail
  refine (cO _).mono ?_
  rintro e w1 ⟨rfl, b2⟩
  have F := fin b2
  clear b1 cO fin
  go_wp2
  go_quiet (fail)
  go_wp2
  go_ret2
  exact ⟨rfl, below_drewN (F _) _⟩
theorem sts_hit {ts : List ByteArray} {x : ByteArray} {k : Nat} (h : k < ts.length) (e : ts[k].data.toList = x.data.toList) : (ts.any fun a => a.data.toList == x.data.toList) = true := by
 rw [List.any_eq_true]
 exact ⟨ts[k], List.getElem_mem h, by simpa using e⟩
theorem sts_miss {ts : List ByteArray} {x : ByteArray} (h : ∀ j (hj : j < ts.length), ts[j].data.toList ≠ x.data.toList) : (ts.any fun a => a.data.toList == x.data.toList) = false := by
 rw [List.any_eq_false]
 intro g hg
 obtain ⟨j, hj, rfl⟩ := List.getElem_of_mem hg
 simpa using h j hj
set_option maxHeartbeats 1000000 in
theorem index_sts (x : ByteArray) (p : Option Addr) (n c : Nat) (ts : List ByteArray) (w : World) (hn : ts.length = n) (h : StsA w (.slice p n c) ts) (h100 : n ≤ 100) :
  Calls Tryz.prog 127 #[.slice p n c, .string x] w fun e w' => ∃ n : Int, e = .returned (.int .i64 n) ∧ Hid (decide (0 ≤ n) = ts.any fun a => a.data.toList == x.data.toList) ∧ w' = w := by
 have HS : Aside (StsA w (.slice p n c) ts) := h
 have HN : Hid (ts.length = n) := hn
 obtain ⟨R, hR⟩ : ∃ R, (ts.any fun a => a.data.toList == x.data.toList) = R := ⟨_, rfl⟩
 have HR : Hid ((ts.any fun a => a.data.toList == x.data.toList) = R) := hR
 rw [hR]
 clear h hn hR
 go_enter Tryz.func127, Tryz.ntmps127
 go_wp2
 go_loopg [5, 8] n (fun gg _ s8 wr => ∃ kk : Nat, kk ≤ n ∧ n - kk ≤ gg ∧ s8 = .int .i64 kk ∧ wr = w ∧ Aside (∀ j (hj : j < ts.length), j < kk → ts[j].data.toList ≠ x.data.toList))
 case atStart => exact ⟨0, Nat.zero_le _, by omega, rfl, rfl, (show Aside _ from fun j _ hj => absurd hj (Nat.not_lt_zero _))⟩
 case round =>
  obtain ⟨kk, hkk, hg, rfl, rfl, A⟩ := hrel
  by_cases hlt : kk < n
  ·have hltz : (kk : Int) < (n : Int) := by omega
   have hk2 : kk < ts.length := by rw [HN.out]; exact hlt
   obtain ⟨b, off, rfl, hbl, hce⟩ := sts_some HS.out hk2
   have hcell := hce kk hk2
   clear hce
   generalize hy : ts[kk] = y at hcell
   have HY : Hid (ts[kk] = y) := hy
   clear hy
   by_cases he : y.data.toList = x.data.toList
   ·have hq : (x.toList == y.toList) = true := by rw [Lib.toList_data, Lib.toList_data]; simpa using he.symm
    have hq2 : (y.toList == x.toList) = true := by rw [Lib.toList_data, Lib.toList_data]; simpa using he
    go_wp2
    go_ret
    refine ⟨kk, rfl, ?_, rfl⟩
    show _ = _
    rw [← HR.out, sts_hit hk2 (by rw [HY.out]; exact he)]
    simp
   ·have he2 : ¬ x.data.toList = y.data.toList := fun h => he h.symm
    have hq : (x.toList == y.toList) = false := by rw [Lib.toList_data, Lib.toList_data]; simpa using he2
    have hq2 : (y.toList == x.toList) = false := by rw [Lib.toList_data, Lib.toList_data]; simpa using he
    go_wp2
    go_roundg (n - (kk + 1))
    case measure => omega
    case rel =>
     refine ⟨kk + 1, by omega, by omega, by go_num, rfl, (show Aside _ from fun j hj hjk => ?_)⟩
     by_cases e : j = kk
     ·subst e
      rw [HY.out]; exact he
     ·exact A.out j hj (by omega)
  ·have hltz : ¬ (kk : Int) < (n : Int) := by omega
   go_wp2
   go_ret
   refine ⟨-1, rfl, ?_, rfl⟩
   show _ = _
   rw [← HR.out, sts_miss (fun j hj => A.out j hj (by have := HN.out; omega))]
   rfl
theorem contains_sts (x : ByteArray) (p : Option Addr) (n c : Nat) (ts : List ByteArray) (w : World) (hn : ts.length = n) (h : StsA w (.slice p n c) ts) (h100 : n ≤ 100) :
  Calls Tryz.prog 107 #[.slice p n c, .string x] w fun e w' => e = .returned (.bool (ts.any fun a => a.data.toList == x.data.toList)) ∧ w' = w := by
 have cI := index_sts x p n c ts w hn h h100
 generalize (ts.any fun a => a.data.toList == x.data.toList) = R at cI
 clear h hn
 go_enter Tryz.func107, Tryz.ntmps107
 go_wp2_with fail
 refine cI.mono ?_
 rintro e w' ⟨n, rfl, HR, rfl⟩
 go_wp2
 go_ret
 exact ⟨ret_bool HR.out, rfl⟩
set_option maxHeartbeats 2000000 in
theorem typeOfGroup_q (g : ByteArray) (p : Option Addr) (n c : Nat) (ts : List ByteArray) (vl : Value) (zs : List Cl) (w : World) (hn : ts.length = n) (hst : StsA w (.slice p n c) ts) (h100 : n ≤ 100) (hcv : ColsV w vl zs) (hz : zs.length ≠ 0) (h6 : zs.length ≤ 6) (T E : Int) (hR : grT zs ts g = (T, E)) :
  Calls Tryz.prog 91 #[.string g, .slice p n c, vl] w fun e w' => e = .returned (.tuple #[.int .i64 T, errV E]) ∧ Below w.heap.size w w' := by
 obtain ⟨q, cc, rfl, hc⟩ := hcv
 rcases hc with h0 | ⟨b, off, rfl, hcap, hsz, hin⟩
 ·exact absurd h0 hz
 rw [grT] at hR
 have cC := fun W (hb : Below w.heap.size w W) => contains_sts g p n c ts W hn (hst.on hb) h100
 generalize (ts.any fun a => a.data.toList == g.data.toList) = R at cC hR
 rcases findN_cases g.data.toList zs with ⟨hf, -⟩ | ⟨k, hf, hk, -⟩
 ·have cF := find_none g b off cc zs w (by omega) hin hf
  rw [hf, if_pos (by decide)] at hR
  obtain ⟨rfl, rfl⟩ := Prod.mk.inj hR
  rw [errV, if_neg (by decide)]
  clear hin hst
  generalize zs.length = NZ at cF hcap ⊢
  go_enter Tryz.func91, Tryz.ntmps91
  go_wp2_with fail
  refine cF.mono ?_
  rintro e w1 ⟨rfl, b1⟩
  go_wp2
  go_ret2
  exact ⟨rfl, b1⟩
 ·have cF := find_any g b off cc zs w (by omega) hin k hf
  rw [hf, if_neg (by omega)] at hR
  have hcell := (hin.2 k hk).2
  have hbl := hin.1
  have hg : (zs[(k : Int).toNat]?.getD (⟨#[]⟩, 0)).2 = zs[k].2 := by simp [List.getElem?_eq_getElem hk]
  rw [hg] at hR
  generalize zs[k].2 = TT at hcell hR
  have hkz : (k : Int) < (zs.length : Int) := by omega
  have h0z : (0 : Int) ≤ (k : Int) := by omega
  clear hin hst hg hsz
  generalize zs.length = NZ at cF hcap hkz ⊢
  cases R
  ·rw [if_neg (by decide)] at hR
   obtain ⟨rfl, rfl⟩ := Prod.mk.inj hR
   rw [errV, if_pos rfl]
   go_enter Tryz.func91, Tryz.ntmps91
   go_wp2_with fail
   refine cF.mono ?_
   rintro e w1 ⟨rfl, b1⟩
   go_wp2_with fail
   refine (cC _ b1).mono ?_
   rintro e w2 ⟨rfl, rfl⟩
   rw [← b1.cell (p := ⟨b, off + k * 2 + 1, none⟩) hbl] at hcell
   go_wp2
   go_ret2
   exact ⟨rfl, b1⟩
  ·rw [if_pos rfl] at hR
   obtain ⟨rfl, rfl⟩ := Prod.mk.inj hR
   rw [errV, if_neg (by decide)]
   go_enter Tryz.func91, Tryz.ntmps91
   go_wp2_with fail
   refine cF.mono ?_
   rintro e w1 ⟨rfl, b1⟩
   go_wp2_with fail
   refine (cC _ b1).mono ?_
   rintro e w2 ⟨rfl, rfl⟩
   go_wp2
   go_ret2
   exact ⟨rfl, b1⟩
abbrev agV (a : Ag) (ap : Option Addr) (ac : Nat) : Value := .agg #[.string a.what, .string a.arg.op, .string a.arg.nm, .int .i64 a.arg.vt, .int .i64 a.arg.vn, .string a.arg.vs, .slice ap a.arg.args.length ac, .int .i64 a.arg.pos, .string a.name]
end Go.Proofs.YtkbhmghdonomnaaGreatDoor
namespace Go.Proofs.YtkbhmghdonomnaaGreatDoor
open Go.ChangeShapes Go.WideShapes Go.ChangeAt Go.RowKit Go.Joins
open Go.ChangeMaps (open_string shut_string)

namespace qyEnv
theorem et : Tryz.prog.globalNamed "errors.errorType" = some 5 := by kernel_rfl
theorem rt : (Tryz.prog.cutTypes.find? (·.1 == "internal/reflectlite.rtype")).map (·.2) = some 133 := by kernel_rfl
theorem oneRow : ((List.range 304).filter fun t => Tryz.prog.rowNamed t [101, 114, 114, 111, 114]) = [38] := by kernel_rfl
theorem size : Tryz.prog.types.size = 304 := by kernel_rfl
theorem handleQueryBack {W : World} (h : laidMetH Tryz.prog Rows.queryBackUptoRow.laid W) : W.cell? ⟨5, 0, none⟩ = some (.iface 133 (.agg #[.pointer (some ⟨15, 38, none⟩)])) := by
 have h2 := (laidMetH_iff.1 h).2
 obtain ⟨name, u, ty, e1, e2, e3, e4, e5⟩ := h2 _ (List.mem_singleton.2 rfl)
 have en : name = [101, 114, 114, 111, 114] := (Option.some.inj e1).symm
 subst en
 obtain rfl := Option.some.inj (rt.symm.trans e2)
 have hm : ty ∈ (List.range 304).filter fun t => Tryz.prog.rowNamed t [101, 114, 114, 111, 114] := List.mem_filter.2 ⟨List.mem_range.2 (by rw [← size]; exact e3), e4⟩
 rw [oneRow] at hm
 obtain rfl := List.mem_singleton.1 hm
 have hh : typeHandle Tryz.prog 38 = .pointer (some ⟨15, 38, none⟩) := by kernel_rfl
 rw [hh] at e5
 simpa using World.var?_cell et e5 0
theorem g_rul : Tryz.prog.globalNamed "sluicebook/kind.rules" = some 9 := by kernel_rfl
theorem t_rul : (Tryz.prog.globals[9]?).map (·.type) = some 255 := by kernel_rfl
theorem g_ags : Tryz.prog.globalNamed "sluicebook/query.aggs" = some 3 := by kernel_rfl
theorem t_ags : (Tryz.prog.globals[3]?).map (·.type) = some 187 := by kernel_rfl
set_option maxRecDepth 100000 in
theorem rul_of {W : World} {rest : List (String × DataW Unit)} (h : laidMet Tryz.prog (("sluicebook/kind.rules", Rows.laid_sluicebook_kind_rules) :: rest) W) : REnv W :=
 var_of rulesC h g_rul t_rul Tryz.underlying255 (by kernel_rfl) (by kernel_rfl)
set_option maxRecDepth 100000 in
theorem ags_of {W : World} {rest : List (String × DataW Unit)} (h : laidMet Tryz.prog (("sluicebook/query.aggs", Rows.laid_sluicebook_query_aggs) :: rest) W) : ∃ t fr, W.heap[3]? = some (.cells aggsC t fr) :=
 var_of aggsC h g_ags t_ags Tryz.underlying187 (by kernel_rfl) (by kernel_rfl)
theorem big_of {W : World} (hsh : W.ShapedOpen Tryz.prog) : 15 ≤ W.heap.size := by
 obtain ⟨o, o0, h, _⟩ := hsh.2 15 (Nat.le_of_eq (by kernel_rfl)) (of_decide_eq_true (by kernel_rfl))
 exact Nat.le_of_lt (Array.getElem?_eq_some_iff.1 h).1
open treeEnv in
/-- What package query asks of the variables. -/
theorem env {W : World} {r1 r2 : List (String × DataW Unit)} (h2 : laidMet Tryz.prog (("internal/strconv.uint64pow10", Rows.laid_internal_strconv_uint64pow10) :: r1) W) (h4 : laidMet Tryz.prog (("strconv.ErrRange", Rows.laid_strconv_ErrRange) :: ("strconv.ErrSyntax", Rows.laid_strconv_ErrSyntax) :: ("sluicebook/lex.signs", Rows.laid_sluicebook_lex_signs) :: ("sluicebook/row.typeWords", Rows.laid_sluicebook_row_typeWords) :: ("sluicebook/tree.words", Rows.laid_sluicebook_tree_words) :: ("sluicebook/tree.operations", Rows.laid_sluicebook_tree_operations) :: ("sluicebook/kind.rules", Rows.laid_sluicebook_kind_rules) :: ("sluicebook/query.aggs", Rows.laid_sluicebook_query_aggs) :: r2) W)
  (het : W.cell? ⟨5, 0, none⟩ = some (.iface 133 (.agg #[.pointer (some ⟨15, 38, none⟩)]))) (hsh : W.ShapedOpen Tryz.prog) : KEnv W ∧ AEnv W ∧ SG W := by
 have h5 : laidMet Tryz.prog (("strconv.ErrSyntax", Rows.laid_strconv_ErrSyntax) :: _) W := h4.tail
 have h6 : laidMet Tryz.prog (("sluicebook/lex.signs", Rows.laid_sluicebook_lex_signs) :: _) W := h5.tail
 have h7 : laidMet Tryz.prog (("sluicebook/row.typeWords", Rows.laid_sluicebook_row_typeWords) :: _) W := h6.tail
 have h8 : laidMet Tryz.prog (("sluicebook/tree.words", Rows.laid_sluicebook_tree_words) :: _) W := h7.tail
 have h9 : laidMet Tryz.prog (("sluicebook/tree.operations", Rows.laid_sluicebook_tree_operations) :: _) W := h8.tail
 have h10 : laidMet Tryz.prog (("sluicebook/kind.rules", Rows.laid_sluicebook_kind_rules) :: _) W := h9.tail
 have h11 : laidMet Tryz.prog (("sluicebook/query.aggs", Rows.laid_sluicebook_query_aggs) :: _) W := h10.tail
 obtain ⟨a0, s0, hv0, _⟩ := laid_sentinel h4 g_ran tRan Tryz.underlying38 rowES Tryz.underlying258 Tryz.underlying260 rfl rfl Tryz.underlying9 cellsES cellsS
 obtain ⟨a1, s1, hv1, _⟩ := laid_sentinel h5 g_syn tSyn Tryz.underlying38 rowES Tryz.underlying258 Tryz.underlying260 rfl rfl Tryz.underlying9 cellsES cellsS
 have htab : Lib.TabIs Tryz.prog W "internal/strconv.uint64pow10" .u64 Lib.pow10Tab := Lib.tabIs_of_head g_tab tTab Tryz.underlying246 Tryz.underlying214 cellsU cellsT h2
 have hmx : ∃ m : Int, W.cell? ⟨12, 0, none⟩ = some (.int .i64 m) := cell_of_shapedOpen_int (zero := #[.int .i64 0]) (t := 3) hsh (of_decide_eq_true (by kernel_rfl)) (by kernel_rfl) rfl (by kernel_rfl) (by kernel_rfl) Tryz.underlying3
 have hbig := big_of hsh
 have hT : TEnv W := ⟨⟨htab, ⟨_, _, hv1⟩, ⟨_, _, hv0⟩, hmx, by omega, by omega, by omega, by omega⟩, hbig, ops_of h9, wds_of h8⟩
 exact ⟨⟨hT, tw_of h7, het, rul_of h10⟩, ⟨hbig, ags_of h11⟩, sg_of h6⟩
def lay (w : World) (b : Nat) : World :=
 treeEnv.layAt (treeEnv.layAt (treeEnv.layAt (treeEnv.layAt (treeEnv.lay w b) 1 (treeEnv.flat 5 Rows.laid_sluicebook_row_typeWords)) 9 (treeEnv.flat 5 Rows.laid_sluicebook_kind_rules)) 3 (treeEnv.flat 5 Rows.laid_sluicebook_query_aggs)) 5 [.iface 133 (.agg #[.pointer (some ⟨15, 38, none⟩)])]
end qyEnv
end Go.Proofs.YtkbhmghdonomnaaGreatDoor
namespace Go.Proofs.YtkbhmghdonomnaaGreatDoor
set_option linter.unusedVariables false
def inter (bt : List UInt8) : List (List UInt8) → List UInt8
 | [] => []
 | [t] => t
 | t :: u :: ts => t ++ bt ++ inter bt (u :: ts)
theorem inter_snoc (bt t : List UInt8) : ∀ ts : List (List UInt8), inter bt (ts ++ [t]) = if ts.length = 0 then t else inter bt ts ++ bt ++ t
 | [] => rfl
 | [u] => by simp [inter]
 | u :: v :: ts => by
  have ih := inter_snoc bt t (v :: ts)
  simp only [List.cons_append, inter, List.length_cons] at ih ⊢
  rw [ih]
  simp
def argsT (bt : List UInt8) (ts : List (List UInt8)) : List UInt8 := 40 :: (inter bt ts ++ [41])
def aheadT (s t : List UInt8) : List UInt8 := 40 :: (s ++ 32 :: (t ++ [41]))
mutual
/-- An expression as it is written. -/
def txP : Ex → List UInt8
 | .node op nm vt vn vs _ l =>
  if op.data.toList = [118, 97, 108] then prS vt vn vs.data.toList
  else if op.data.toList = [99, 111, 108] then nm.data.toList
  else if op.data.toList = [108, 101, 110] ∨ op.data.toList = [105, 102] then op.data.toList ++ argsT [44, 32] (txsP l)
  else if op.data.toList = [110, 111, 116] then aheadT [110, 111, 116] ((txsP l).headD [])
  else if op.data.toList = [110, 101, 103] then aheadT [45] ((txsP l).headD [])
  else argsT (32 :: (op.data.toList ++ [32])) (txsP l)
def txsP : List Ex → List (List UInt8)
 | [] => []
 | x :: xs => txP x :: txsP xs
end
theorem txsP_map : ∀ l : List Ex, txsP l = l.map txP
 | [] => by rw [txsP]; rfl
 | x :: xs => by rw [txsP, txsP_map xs]; rfl
theorem inter_take {bt : List UInt8} {ts : List (List UInt8)} {k : Nat} (h : k < ts.length) : inter bt (ts.take (k + 1)) = (if k = 0 then [] else inter bt (ts.take k) ++ bt) ++ ts[k] := by
 rw [List.take_succ_eq_append_getElem h, inter_snoc]
 by_cases h0 : k = 0
 ·subst h0; simp
 ·rw [if_neg (by rw [List.length_take]; omega), if_neg h0]
theorem inter_take_len {bt : List UInt8} {ts : List (List UInt8)} : ∀ k, k ≤ ts.length → (inter bt (ts.take k)).length ≤ (inter bt ts).length := by
 intro k hk
 have key : ∀ d k, k + d = ts.length → (inter bt (ts.take k)).length ≤ (inter bt ts).length := by
  intro d
  induction d with
  | zero => intro k h; rw [List.take_of_length_le (by omega)]; exact Nat.le_refl _
  | succ d ih =>
   intro k h
   have h1 := ih (k + 1) (by omega)
   rw [inter_take (show k < ts.length by omega)] at h1
   by_cases h0 : k = 0
   ·subst h0; simp [inter]
   ·rw [if_neg h0] at h1
    simp only [List.length_append] at h1
    omega
 exact key (ts.length - k) k (by omega)
end Go.Proofs.YtkbhmghdonomnaaGreatDoor
