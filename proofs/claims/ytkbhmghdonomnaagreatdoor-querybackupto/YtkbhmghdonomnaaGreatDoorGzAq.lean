/-
  QrA, QuC2, WdA, WdC, WdX, QuC3, in one text.
-/
import Derived.Test.YtkbhmghdonomnaaGreatDoorGzAm
import Derived.Test.YtkbhmghdonomnaaGreatDoorGzAl
import Derived.Test.YtkbhmghdonomnaaGreatDoorZTreeRB
import Derived.Test.YtkbhmghdonomnaaGreatDoorGzAp
import Derived.Deep.RegionWith
import Derived.Deep.RegionHeld3
import Derived.Deep.MidRow
import Derived.Test.YtkbhmghdonomnaaGreatDoorGzAa
import Derived.OwnWalk
import Derived.Laws.AppendOwnNone
import Derived.Laws.OwnMore
import Derived.WalkSmall
import Derived.BigQuiet
import Derived.Deep.QuietTactic
import Derived.Deep.LoopGhost
import Derived.Lib.OthersKept
import Derived.Test.YtkbhmghdonomnaaGreatDoorGzAk
import Derived.Deep.OwnRows
namespace Go.Proofs.YtkbhmghdonomnaaGreatDoor
open Go.RowKit Go.BigFrame
set_option linter.unusedVariables false
set_option linter.unusedSimpArgs false
structure Fr (tr : Nat) (S : Nat → Prop) (w w' : World) : Prop where
 below : Below tr w w'
 kept : ∀ k, k < w.heap.size → k ≠ tr → ¬ S k → w'.heap[k]? = w.heap[k]?
theorem Fr.size {tr : Nat} {S : Nat → Prop} {w w' : World} (h : Fr tr S w w') : w.heap.size ≤ w'.heap.size := h.below.size
theorem Fr.refl (tr : Nat) (S : Nat → Prop) (w : World) : Fr tr S w w := ⟨Below.refl _ _, fun _ _ _ _ => rfl⟩
theorem Fr.trans {tr : Nat} {S : Nat → Prop} {w w1 w2 : World} (h : Fr tr S w w1) (k : Fr tr S w1 w2) : Fr tr S w w2 :=
 ⟨h.below.trans k.below, fun b hb hr hs => by rw [k.kept b (by have := h.size; omega) hr hs, h.kept b hb hr hs]⟩
theorem Fr.mono {tr : Nat} {S S' : Nat → Prop} {w w1 : World} (h : Fr tr S w w1) (hs : ∀ k, k < w.heap.size → S k → S' k) : Fr tr S' w w1 := ⟨h.below, fun b hb hr hn => h.kept b hb hr (fun e => hn (hs b hb e))⟩
theorem Fr.of_but {tr : Nat} {S : Nat → Prop} {w w1 : World} (h : But tr w w1) : Fr tr S w w1 := ⟨h.below, fun b hb hr _ => h.kept b hb hr⟩
theorem Fr.of_below {tr : Nat} {S : Nat → Prop} {w w1 : World} (h : Below w.heap.size w w1) (hr : tr ≤ w.heap.size) : Fr tr S w w1 := Fr.of_but (But.of_below' h hr)
theorem Fr.set {tr : Nat} {S : Nat → Prop} {w w1 : World} (h : Fr tr S w w1) {b : Nat} (o : Nat) (v : Value) (hb : tr ≤ b) (hs : b < w.heap.size → S b) : Fr tr S w (w1.setCell ⟨b, o, none⟩ v) :=
 ⟨h.below.setCell (p := ⟨b, o, none⟩) hb v, fun k hk hkr hn => by rw [Below.heap_setCell _ _ _ _ (fun e => by simp at e; subst e; exact hn (hs hk))]; exact h.kept k hk hkr hn⟩
theorem Fr.cells {tr : Nat} {S : Nat → Prop} {w : World} {b : Nat} (hb : tr ≤ b) (hs : b < w.heap.size → S b) : ∀ (vs : List Value) (o : Nat) (w1 : World), Fr tr S w w1 → Fr tr S w (w1.setCells b o vs)
 | [], _, _, h => h
 | v :: r, o, w1, h => Fr.cells hb hs r (o + 1) _ (h.set o v hb hs)
theorem Fr.drew {tr : Nat} {S : Nat → Prop} {w w1 : World} (h : Fr tr S w w1) : Fr tr S w w1.drew := ⟨Below.drew h.below, h.kept⟩
theorem Fr.on {tr : Nat} {S : Nat → Prop} {w w1 w2 : World} (h : Fr tr S w w1) (k : Below w1.heap.size w1 w2) (hr : tr ≤ w1.heap.size) : Fr tr S w w2 := h.trans (Fr.of_below k hr)
theorem Fr.cell {tr : Nat} {S : Nat → Prop} {w w1 : World} (h : Fr tr S w w1) {b : Nat} (o : Nat) (hb : b < w.heap.size) (hr : b ≠ tr) (hs : ¬ S b) : w1.cell? ⟨b, o, none⟩ = w.cell? ⟨b, o, none⟩ := by
 simp only [World.cell?, h.kept b hb hr hs]
theorem Blk.fr {tr : Nat} {S : Nat → Prop} {w w1 : World} {b : Nat} {cs : Array Value} {t : TypeId} (h : Blk w b cs t) (hf : Fr tr S w w1) (hr : b ≠ tr) (hs : ¬ S b) : Blk w1 b cs t := h.keep (hf.kept b h.lt hr hs)
def NumT (ts : List Tok) : Prop := ∀ t ∈ ts, isNum t = true → Lib.atoiAll t.2.1.data.toList = .ok (nuI t.2.1.data.toList)
theorem NumT.suf {ts rs : List Tok} (h : NumT ts) (hs : rs <:+ ts) : NumT rs := fun t ht => h t (hs.mem ht)
structure QH (WZ : World) (en : Nat) (W : World) (tr rb : Nat) (ts : List Tok) : Prop where
 rd : RdAt en W tr ts
 p0 : W.cell? ⟨rb, 0, none⟩ = some (.pointer (some ⟨tr, 0, none⟩))
 lt : rb < W.heap.size
 ne : tr < rb
 env : TEnv W
 aenv : AEnv W
 gt : 15 ≤ tr
 fit : Fit ts
 num : NumT ts
 old : Below tr WZ W
variable {en : Nat} {WZ : World}
theorem QH.go {W w' : World} {tr rb : Nat} {S : Nat → Prop} {ts ts' : List Tok} (h : QH WZ en W tr rb ts) (hf : Fr tr S W w') (hr : RdAt en w' tr ts') (hs : ts' <:+ ts) (hp : w'.cell? ⟨rb, 0, none⟩ = some (.pointer (some ⟨tr, 0, none⟩))) : QH WZ en w' tr rb ts' :=
 ⟨hr, hp, by have := hf.size; have := h.lt; omega, h.ne, h.env.onB hf.below h.gt hf.size, h.aenv.onB hf.below h.gt hf.size, h.gt, h.fit.suf hs, h.num.suf hs, h.old.trans hf.below⟩
theorem QH.fr {W w' : World} {tr rb : Nat} {S : Nat → Prop} {ts ts' : List Tok} (h : QH WZ en W tr rb ts) (hf : Fr tr S W w') (hr : RdAt en w' tr ts') (hs : ts' <:+ ts) (hS : ¬ S rb) : QH WZ en w' tr rb ts' :=
 h.go hf hr hs (by rw [hf.cell 0 h.lt (by have := h.ne; omega) hS]; exact h.p0)
theorem nx_suf {P : Tok → Bool} {ts r : List Tok} {t : Tok} (h : nxT P ts = some (t, r)) : r <:+ ts := by rw [(nxT_len h).1]; exact List.suffix_cons t r
theorem jU_suf (g : List UInt8) (ts : List Tok) : (jU g ts).2 <:+ ts := by
 rw [jU]
 cases h : nxT (sgT [g]) ts with
 | none => exact List.suffix_rfl
 | some p => exact nx_suf h
theorem nU_suf (ts : List Tok) : (nU ts).2 <:+ ts := by
 rw [nU]
 cases h : nxT nmT ts with
 | none => exact List.suffix_rfl
 | some p => exact nx_suf h
theorem iU_suf (ts : List Tok) : (iU ts).2 <:+ ts := by
 rw [iU]
 cases h : nxT isNum ts with
 | none => exact List.suffix_rfl
 | some p => exact nx_suf h
theorem readE_suf (ts : List Tok) : (readE ts).2 <:+ ts := uE_suf _ _ _
theorem strs_at {V : World} {b : Nat} {g : List UInt8} (h : V.cell? ⟨b, 0, none⟩ = some (.string ⟨g.toArray⟩)) (hb : b < V.heap.size) : StrsIn V b [g] := ⟨hb, fun j hj => match j, hj with
 | 0, _ => h⟩
theorem below_alloc {B : Nat} {w V : World} (h : Below B w V) (hB : B ≤ w.heap.size) (o : Obj) : Below B w (V.alloc o) := h.alloc (Nat.le_trans hB h.size) o
structure Box3 (w : World) (b : Nat) (a0 a1 a2 : Value) : Prop where
 c0 : w.cell? ⟨b, 0, none⟩ = some a0
 c1 : w.cell? ⟨b, 1, none⟩ = some a1
 c2 : w.cell? ⟨b, 2, none⟩ = some a2
 fz : ∀ o, w.frozen? ⟨b, o, none⟩ = false
 lt : b < w.heap.size
theorem Box3.on {w w' : World} {b : Nat} {a0 a1 a2 : Value} (h : Box3 w b a0 a1 a2) (hb : Below w.heap.size w w') : Box3 w' b a0 a1 a2 := by
 obtain ⟨c0, c1, c2, fz, lt⟩ := h
 exact ⟨by rw [hb.cell (p := ⟨b, 0, none⟩) lt]; exact c0, by rw [hb.cell (p := ⟨b, 1, none⟩) lt]; exact c1, by rw [hb.cell (p := ⟨b, 2, none⟩) lt]; exact c2, fun o => by rw [hb.frozen (p := ⟨b, o, none⟩) lt]; exact fz o, by have := hb.size; omega⟩
theorem Box3.but {w w' : World} {r b : Nat} {a0 a1 a2 : Value} (h : Box3 w b a0 a1 a2) (hb : But r w w') (hr : b ≠ r) : Box3 w' b a0 a1 a2 := by
 obtain ⟨c0, c1, c2, fz, lt⟩ := h
 exact ⟨by rw [hb.cell _ lt hr]; exact c0, by rw [hb.cell _ lt hr]; exact c1, by rw [hb.cell _ lt hr]; exact c2, fun o => by rw [but_frozen hb o lt hr]; exact fz o, by have := hb.size; omega⟩
theorem Fr.set3 {tr : Nat} {S : Nat → Prop} {w w1 : World} (h : Fr tr S w w1) {b : Nat} (u0 u1 u2 : Value) (hb : tr ≤ b) (hs : b < w.heap.size → S b) : Fr tr S w (((w1.setCell ⟨b, 0, none⟩ u0).setCell ⟨b, 1, none⟩ u1).setCell ⟨b, 2, none⟩ u2) := ((h.set 0 u0 hb hs).set 1 u1 hb hs).set 2 u2 hb hs
theorem RdAt.set3 {w : World} {r : Nat} {ts : List Tok} (h : RdAt en w r ts) {z : Nat} (hz : r < z) (v0 v1 v2 : Value) : RdAt en (((w.setCell ⟨z, 0, none⟩ v0).setCell ⟨z, 1, none⟩ v1).setCell ⟨z, 2, none⟩ v2) r ts :=
 h.onB ((((Below.refl (r + 1) w).setCell (p := ⟨z, 0, none⟩) hz v0).setCell (p := ⟨z, 1, none⟩) hz v1).setCell (p := ⟨z, 2, none⟩) hz v2) (by simp [World.setCell])
set_option maxHeartbeats 4000000 in
set_option maxRecDepth 20000 in
theorem just_q (g : List UInt8) (W : World) (tr rb : Nat) (ts : List Tok) (h : QH WZ en W tr rb ts) (R : Bool) (rs : List Tok) (hR : jU g ts = (if R = true then some () else none, rs)) :
  Calls Tryz.prog 28 #[.pointer (some ⟨rb, 0, none⟩), .string ⟨g.toArray⟩] W fun e w' => e = .returned (.bool R) ∧ Aside (QH WZ en w' tr rb rs) ∧ Aside (Fr tr (fun _ => False) W w') := by
 have HH : Aside (QH WZ en W tr rb ts) := h
 have hp0 := h.p0
 have hlt := h.lt
 have hne := h.ne
 have hrl := h.rd.lt
 have cO1 : ∀ (V : World) (b : Nat), Below W.heap.size W V → W.heap.size ≤ b → V.cell? ⟨b, 0, none⟩ = some (.string ⟨g.toArray⟩) → b < V.heap.size → Calls Tryz.prog 68 #[.slice (some ⟨b, 0, none⟩) 1 1] V fun e w' => (∃ p, e = .returned (signV p) ∧ SignBut w' tr p [g]) ∧ Below W.heap.size W w' ∧ w'.cell? ⟨rb, 0, none⟩ = some (.pointer (some ⟨tr, 0, none⟩)) ∧ rb ≠ w'.heap.size ∧ w'.heap.size ≠ rb := fun V b hb hn hc hl => (oneOf_but b 1 tr [g] V (by simp) (strs_at hc hl) (by omega) (by have := hb.size; omega)).mono (fun e w' hh => by
  have B2 := hb.trans (hh.2.mono hb.size)
  exact ⟨hh.1, B2, by rw [B2.cell (p := ⟨rb, 0, none⟩) hlt]; exact hp0, by have := B2.size; omega, by have := B2.size; omega⟩)
 have cO2 : ∀ (V : World) (b z : Nat), Below W.heap.size W V → W.heap.size ≤ b → V.cell? ⟨b, 0, none⟩ = some (.string ⟨g.toArray⟩) → b < V.heap.size → Box3 V z (.int .i64 0) (.string ⟨#[]⟩) (.int .i64 0) → Calls Tryz.prog 68 #[.slice (some ⟨b, 0, none⟩) 1 1] V fun e w' => (∃ p, e = .returned (signV p) ∧ SignBut w' tr p [g]) ∧ Below W.heap.size W w' ∧ w'.cell? ⟨rb, 0, none⟩ = some (.pointer (some ⟨tr, 0, none⟩)) ∧ Box3 w' z (.int .i64 0) (.string ⟨#[]⟩) (.int .i64 0) := fun V b z hb hn hc hl hz => (oneOf_but b 1 tr [g] V (by simp) (strs_at hc hl) (by omega) (by have := hb.size; omega)).mono (fun e w' hh => by
  have B2 := hb.trans (hh.2.mono hb.size)
  exact ⟨hh.1, B2, by rw [B2.cell (p := ⟨rb, 0, none⟩) hlt]; exact hp0, hz.on hh.2⟩)
 have cT : ∀ (V : World) (p : Nat), RdAt en V tr ts → SignIn V p [g] → Calls Tryz.prog 67 #[.pointer (some ⟨tr, 0, none⟩), signV p] V fun e w' => (∃ (k : Int) (x : ByteArray) (a : Int), e = .returned (.tuple #[.agg #[.int .i64 k, .string x, .int .i64 a], .bool R])) ∧ RdAt en w' tr rs ∧ But tr V w' := fun V p hr hs => by
  rw [jU] at hR
  cases hn : nxT (sgT [g]) ts with
  | none =>
   rw [hn] at hR
   have h1 := (Prod.mk.inj hR).1
   have h2 := (Prod.mk.inj hR).2
   have : R = false := by cases R; rfl; simp at h1
   subst this h2
   exact (take_sign_none [g] p V tr ts hr hs hn).mono fun e w' hh => ⟨⟨_, _, _, hh.1⟩, hh.2.1, hh.2.2⟩
  | some q =>
   obtain ⟨t, qs⟩ := q
   rw [hn] at hR
   have h1 := (Prod.mk.inj hR).1
   have h2 := (Prod.mk.inj hR).2
   have : R = true := by cases R; simp at h1; rfl
   subst this h2
   exact (take_sign_some [g] p V tr t ts qs hr hs hn).mono fun e w' hh => ⟨⟨_, _, _, hh.1⟩, hh.2.1, hh.2.2⟩
 have cT1 : ∀ (V : World) (p : Nat), Below W.heap.size W V → SignIn V p [g] → Calls Tryz.prog 67 #[.pointer (some ⟨tr, 0, none⟩), signV p] V fun e w' => (∃ (k : Int) (x : ByteArray) (a : Int), e = .returned (.tuple #[.agg #[.int .i64 k, .string x, .int .i64 a], .bool R])) ∧ RdAt en w' tr rs ∧ Fr tr (fun _ => False) W w' ∧ w'.cell? ⟨rb, 0, none⟩ = some (.pointer (some ⟨tr, 0, none⟩)) := fun V p hb hs => (cT V p (HH.out.rd.on hb) hs).mono fun e w' hh => by
  have F := (Fr.of_below (S := fun _ => False) hb (tr := tr) (by omega)).trans (Fr.of_but hh.2.2)
  exact ⟨hh.1, hh.2.1, F, by rw [F.cell 0 hlt (by omega) (fun h => h)]; exact hp0⟩
 have cT2 : ∀ (V : World) (p z : Nat), Below W.heap.size W V → SignIn V p [g] → Box3 V z (.int .i64 0) (.string ⟨#[]⟩) (.int .i64 0) → W.heap.size ≤ z → Calls Tryz.prog 67 #[.pointer (some ⟨tr, 0, none⟩), signV p] V fun e w' => (∃ (k : Int) (x : ByteArray) (a : Int), e = .returned (.tuple #[.agg #[.int .i64 k, .string x, .int .i64 a], .bool R])) ∧ RdAt en w' tr rs ∧ Fr tr (fun _ => False) W w' ∧ w'.cell? ⟨rb, 0, none⟩ = some (.pointer (some ⟨tr, 0, none⟩)) ∧ Box3 w' z (.int .i64 0) (.string ⟨#[]⟩) (.int .i64 0) := fun V p z hb hs hz hzW => (cT V p (HH.out.rd.on hb) hs).mono fun e w' hh => by
  have F := (Fr.of_below (S := fun _ => False) hb (tr := tr) (by omega)).trans (Fr.of_but hh.2.2)
  exact ⟨hh.1, hh.2.1, F, by rw [F.cell 0 hlt (by omega) (fun h => h)]; exact hp0, hz.but hh.2.2 (by omega)⟩
 have hsuf : rs <:+ ts := by have := jU_suf g ts; rw [hR] at this; exact this
 have fin : ∀ w3, Fr tr (fun _ => False) W w3 → RdAt en w3 tr rs → Aside (QH WZ en w3 tr rb rs) ∧ Aside (Fr tr (fun _ => False) W w3) := fun w3 F hr => ⟨HH.out.fr F hr hsuf (fun h => h), F⟩
 have n0 : rb ≠ W.heap.size := by omega
 have n0' : W.heap.size ≠ rb := by omega
 have n1' : W.heap.size + 1 ≠ rb := by omega
 have n1 : rb ≠ W.heap.size + 1 := by omega
 clear h hR cT
 go_enter Tryz.func28, Tryz.ntmps28
 go_wp2
 go_region_held3 (fun w' => w'.cell? ⟨rb, 0, none⟩ = some (.pointer (some ⟨tr, 0, none⟩))) (go_keep) (first
  | (go_at_call 68; refine (cO2 _ _ W.heap.size ?_ ?_ ?_ ?_ ?_).mono ?_; (repeat (first | exact Below.refl _ _ | refine Below.drew ?_ | refine below_alloc ?_ (Nat.le_refl _) _)); (first | exact Nat.le_refl _ | exact Nat.le_succ _); (focus (simp; done)); (focus (first | (simp; done) | (simp; omega))); (focus (refine ⟨?_, ?_, ?_, ?_, ?_⟩; (focus (simp; done)); (focus (simp; done)); (focus (simp; done)); (focus (intro o; simp; done)); (first | (simp; done) | (simp; omega)))); rintro e' w1 ⟨⟨p, rfl, hp⟩, BW1, q0, XX⟩)
  | (go_at_call 68; refine (cO2 _ _ (W.heap.size + 1) ?_ ?_ ?_ ?_ ?_).mono ?_; (repeat (first | exact Below.refl _ _ | refine Below.drew ?_ | refine below_alloc ?_ (Nat.le_refl _) _)); (first | exact Nat.le_refl _ | exact Nat.le_succ _); (focus (simp; done)); (focus (first | (simp; done) | (simp; omega))); (focus (refine ⟨?_, ?_, ?_, ?_, ?_⟩; (focus (simp; done)); (focus (simp; done)); (focus (simp; done)); (focus (intro o; simp; done)); (first | (simp; done) | (simp; omega)))); rintro e' w1 ⟨⟨p, rfl, hp⟩, BW1, q0, XX⟩)
  | (go_at_call 68; refine (cO1 _ _ ?_ ?_ ?_ ?_).mono ?_; (repeat (first | exact Below.refl _ _ | refine Below.drew ?_ | refine below_alloc ?_ (Nat.le_refl _) _)); (first | exact Nat.le_refl _ | exact Nat.le_succ _); (focus (simp; done)); (focus (first | (simp; done) | (simp; omega))); rintro e' w1 ⟨⟨p, rfl, hp⟩, BW1, q0, nq, nq'⟩)
  | (go_at_call 67; refine (cT2 _ p _ ?_ ?_ XX ?_).mono ?_; (repeat (first | exact BW1 | refine Below.drew ?_ | refine below_alloc ?_ (Nat.le_refl _) _)); exact hp.sign; (first | exact Nat.le_refl _ | exact Nat.le_succ _); rintro e' w2 ⟨⟨tk, tx, ta, rfl⟩, hr2, F2, q2, ⟨x0, x1, x2, xf, xl⟩⟩)
  | (go_at_call 67; refine (cT2 _ p w1.heap.size ?_ ?_ ?_ ?_).mono ?_; (repeat (first | exact BW1 | refine Below.drew ?_ | refine below_alloc ?_ (Nat.le_refl _) _)); refine hp.sign.on ?_; (repeat (first | exact Below.refl _ _ | refine Below.drew ?_ | refine below_alloc ?_ (Nat.le_refl _) _)); (focus (refine ⟨?_, ?_, ?_, ?_, ?_⟩; (focus (simp; done)); (focus (simp; done)); (focus (simp; done)); (focus (intro o; simp; done)); (first | (simp; done) | (simp; omega)))); exact BW1.size; rintro e' w2 ⟨⟨tk, tx, ta, rfl⟩, hr2, F2, q2, ⟨x0, x1, x2, xf, xl⟩⟩)
  | (go_at_call 67; refine (cT1 _ p ?_ ?_).mono ?_; (repeat (first | exact BW1 | refine Below.drew ?_)); exact hp.sign; rintro e' w2 ⟨⟨tk, tx, ta, rfl⟩, hr2, F2, q2⟩))
 all_goals
  go_wp2
  go_ret
  refine ⟨rfl, ?_⟩
  have sz := F2.size
  have bz := BW1.size
  first
   | exact fin _ (F2.on (al _ _) (by omega)) (hr2.on (al _ _))
   | exact fin _ (F2.set3 _ _ _ (by omega) (fun h => by omega)) (hr2.set3 (by omega) _ _ _)
end Go.Proofs.YtkbhmghdonomnaaGreatDoor
namespace Go.Proofs.YtkbhmghdonomnaaGreatDoor
open Go.RowKit Go.BigFrame
set_option linter.unusedVariables false
set_option linter.unusedSimpArgs false
theorem ofT_form (zs : List Cl) (x : Ex) : ∃ T E, ofT zs x = (T, E) ∧ ((ofP zs x).2.1 = E) ∧ (E = 0 → (ofP zs x).1 = T) ∧ (E ≠ 0 → T = 0) := by
 rw [ofT]
 split
 ·rename_i h
  exact ⟨_, _, rfl, rfl, fun h0 => absurd h0 h, fun _ => rfl⟩
 ·rename_i h
  exact ⟨_, _, rfl, Classical.not_not.1 h, fun _ => rfl, fun h0 => absurd rfl h0⟩
set_option maxHeartbeats 4000000 in
set_option maxRecDepth 20000 in
theorem typeOfAgg_q (a : Ag) (lo : Nat → Prop) (ap : Option Addr) (ac : Nat) (vl : Value) (zs : List Cl) (w : World) (henv : KEnv w) (haenv : AEnv w) (hx : ExIn w lo (exV a.arg ap ac) a.arg) (hsz : (a.arg.pre 1).length ≤ 1048576) (hcv : ColsV w vl zs) (T E : Int) (hR : agQ zs a = (T, E)) :
  Calls Tryz.prog 92 #[agV a ap ac, vl] w fun e w' => e = .returned (.tuple #[.int .i64 T, errV E]) ∧ Below w.heap.size w w' := by
 have b1 := fun o => (Below.refl w.heap.size w).alloc (Nat.le_refl _) o
 obtain ⟨q, c, rfl⟩ := cols_form hcv
 obtain ⟨T1, E1, h1, h2, h3, h4⟩ := ofT_form zs a.arg
 rw [agQ, h2] at hR
 obtain ⟨what, ⟨op, nm, vt, vn, vs, pos, l⟩, name⟩ := a
 have cA := fun o => isAgg_any what (w.alloc o) (haenv.on (b1 o))
 have cN := fun o => isNothing_any _ lo _ (w.alloc o) (hx.on (b1 o))
 have cT := fun o => typeOf_q _ lo _ _ zs (w.alloc o) (henv.on (b1 o)) (hx.on (b1 o)) hsz (hcv.on (b1 o)) T1 E1 h1
 simp only [Ex.op, Ex.nm, Ex.vt, Ex.vn, Ex.vs, Ex.args, Ex.pos] at cA cN cT hR ⊢
 clear hx hcv henv haenv h1
 generalize zs.length = NZ at cT ⊢
 have H3 : Hid (E1 = 0 → (ofP zs (.node op nm vt vn vs pos l)).1 = T1) := h3
 have H4 : Hid (E1 ≠ 0 → T1 = 0) := h4
 clear h2 h3 h4
 generalize noOp (.node op nm vt vn vs pos l) = NO at cN hR
 generalize (ofP zs (.node op nm vt vn vs pos l)).1 = T2 at hR H3
 generalize l.length = NL at cN cT ⊢
 cases hI : isAg what.data.toList
 ·rw [hI] at cA
  rw [hI, if_pos rfl] at hR
  obtain ⟨rfl, rfl⟩ := Prod.mk.inj hR
  rw [errV, if_neg (by decide)]
  go_enter Tryz.func92, Tryz.ntmps92
  go_wp2_with fail
  refine (cA _).mono ?_
  rintro e w1 ⟨rfl, rfl⟩
  clear cA cN cT
  go_wp2
  go_ret2
  exact ⟨rfl, b1 _⟩
 ·rw [hI] at cA
  rw [hI, if_neg (by decide)] at hR
  by_cases hC : what.data.toList = wCount
  ·rw [if_pos hC] at hR
   have hq : (what.toList == [99, 111, 117, 110, 116]) = true := by rw [Lib.toList_data]; simpa using hC
   cases NO
   ·rw [if_neg (by decide)] at hR
    obtain ⟨rfl, rfl⟩ := Prod.mk.inj hR
    rw [errV, if_neg (by decide)]
    go_enter Tryz.func92, Tryz.ntmps92
    go_wp2_with fail
    refine (cA _).mono ?_
    rintro e w1 ⟨rfl, rfl⟩
    go_wp2_with fail
    refine (cN _).mono ?_
    rintro e w2 ⟨rfl, b2⟩
    clear cA cN cT
    go_wp2
    go_ret2
    exact ⟨rfl, (b1 _).trans (b2.mono (by simp))⟩
   ·rw [if_pos rfl] at hR
    obtain ⟨rfl, rfl⟩ := Prod.mk.inj hR
    rw [errV, if_pos rfl]
    go_enter Tryz.func92, Tryz.ntmps92
    go_wp2_with fail
    refine (cA _).mono ?_
    rintro e w1 ⟨rfl, rfl⟩
    go_wp2_with fail
    refine (cN _).mono ?_
    rintro e w2 ⟨rfl, b2⟩
    have k0 := b2.cell (p := ⟨w.heap.size, 0, none⟩) (by simp)
    rw [World.cell?_alloc_at _ _ _ _ rfl] at k0
    simp at k0
    have hl : w.heap.size < w2.heap.size := by have := b2.size; simp at this; omega
    clear cA cN cT
    go_wp2
    go_ret2
    exact ⟨rfl, (b1 _).trans (b2.mono (by simp))⟩
  ·rw [if_neg hC] at hR
   have hq : (what.toList == [99, 111, 117, 110, 116]) = false := by rw [Lib.toList_data]; simpa using hC
   by_cases hE : E1 = 0
   ·subst hE
    obtain rfl := H3.out rfl
    rw [if_neg (by simp)] at hR
    rw [errV, if_pos rfl] at cT
    by_cases hS : what.data.toList = [115, 117, 109]
    ·have hq2 : (what.toList == [115, 117, 109]) = true := by rw [Lib.toList_data]; simpa using hS
     by_cases hT : T2 = 1
     ·subst hT
      rw [if_neg (by simp)] at hR
      obtain ⟨rfl, rfl⟩ := Prod.mk.inj hR
      rw [errV, if_pos rfl]
      go_enter Tryz.func92, Tryz.ntmps92
      go_wp2_with fail
      refine (cA _).mono ?_
      rintro e w1 ⟨rfl, rfl⟩
      go_wp2_with fail
      refine (cT _).mono ?_
      rintro e w2 ⟨rfl, b2⟩
      have k0 := b2.cell (p := ⟨w.heap.size, 0, none⟩) (by simp)
      rw [World.cell?_alloc_at _ _ _ _ rfl] at k0
      simp at k0
      have hl : w.heap.size < w2.heap.size := by have := b2.size; simp at this; omega
      clear cA cN cT
      go_wp2
      go_ret2
      exact ⟨rfl, (b1 _).trans (b2.mono (by simp))⟩
     ·rw [if_pos ⟨hS, hT⟩] at hR
      obtain ⟨rfl, rfl⟩ := Prod.mk.inj hR
      rw [errV, if_neg (by decide)]
      have hb : (T2 != 1) = true := by simpa using hT
      go_enter Tryz.func92, Tryz.ntmps92
      go_wp2_with fail
      refine (cA _).mono ?_
      rintro e w1 ⟨rfl, rfl⟩
      go_wp2_with fail
      refine (cT _).mono ?_
      rintro e w2 ⟨rfl, b2⟩
      have k0 := b2.cell (p := ⟨w.heap.size, 0, none⟩) (by simp)
      rw [World.cell?_alloc_at _ _ _ _ rfl] at k0
      simp at k0
      have hl : w.heap.size < w2.heap.size := by have := b2.size; simp at this; omega
      clear cA cN cT
      go_wp2
      go_ret2
      exact ⟨rfl, (b1 _).trans (b2.mono (by simp))⟩
    ·have hq2 : (what.toList == [115, 117, 109]) = false := by rw [Lib.toList_data]; simpa using hS
     rw [if_neg (fun h => hS h.1)] at hR
     obtain ⟨rfl, rfl⟩ := Prod.mk.inj hR
     rw [errV, if_pos rfl]
     go_enter Tryz.func92, Tryz.ntmps92
     go_wp2_with fail
     refine (cA _).mono ?_
     rintro e w1 ⟨rfl, rfl⟩
     go_wp2_with fail
     refine (cT _).mono ?_
     rintro e w2 ⟨rfl, b2⟩
     have k0 := b2.cell (p := ⟨w.heap.size, 0, none⟩) (by simp)
     rw [World.cell?_alloc_at _ _ _ _ rfl] at k0
     simp at k0
     have hl : w.heap.size < w2.heap.size := by have := b2.size; simp at this; omega
     clear cA cN cT
     go_wp2
     go_ret2
     exact ⟨rfl, (b1 _).trans (b2.mono (by simp))⟩
   ·obtain rfl := H4.out hE
    rw [if_pos hE] at hR
    obtain ⟨rfl, rfl⟩ := Prod.mk.inj hR
    rw [errV, if_neg hE] at cT
    rw [errV, if_neg hE]
    go_enter Tryz.func92, Tryz.ntmps92
    go_wp2_with fail
    refine (cA _).mono ?_
    rintro e w1 ⟨rfl, rfl⟩
    go_wp2_with fail
    refine (cT _).mono ?_
    rintro e w2 ⟨rfl, b2⟩
    have k0 := b2.cell (p := ⟨w.heap.size, 0, none⟩) (by simp)
    rw [World.cell?_alloc_at _ _ _ _ rfl] at k0
    simp at k0
    have hl : w.heap.size < w2.heap.size := by have := b2.size; simp at this; omega
    clear cA cN cT
    go_wp2
    go_ret2
    exact ⟨rfl, (b1 _).trans (b2.mono (by simp))⟩
set_option maxHeartbeats 2000000 in
theorem checkWhere_q (x : Ex) (lo : Nat → Prop) (v vl : Value) (zs : List Cl) (w : World) (henv : KEnv w) (hx : ExIn w lo v x) (hsz : (x.pre 1).length ≤ 1048576) (hcv : ColsV w vl zs) (E : Int) (hR : whQ zs x = E) :
  Calls Tryz.prog 24 #[v, vl] w fun e w' => e = .returned (errV E) ∧ Below w.heap.size w w' := by
 have b1 := fun o => (Below.refl w.heap.size w).alloc (Nat.le_refl _) o
 obtain ⟨q, c, rfl⟩ := cols_form hcv
 obtain ⟨xp, xc, hxe, -⟩ := id hx.whole
 obtain ⟨T1, E1, h1, h2, h3, h4⟩ := ofT_form zs x
 rw [whQ, h2] at hR
 have cN := fun o => isNothing_any x lo v (w.alloc o) (hx.on (b1 o))
 have cT := fun o W (hb : Below w.heap.size (w.alloc o) W) => typeOf_q x lo v _ zs W (henv.on ((b1 o).trans hb)) (hx.on ((b1 o).trans hb)) hsz (hcv.on ((b1 o).trans hb)) T1 E1 h1
 clear hx hcv henv h1
 subst hxe
 obtain ⟨op, nm, vt, vn, vs, pos, l⟩ := x
 simp only [Ex.op, Ex.nm, Ex.vt, Ex.vn, Ex.vs, Ex.args, Ex.pos] at cN cT hR ⊢
 generalize zs.length = NZ at cT ⊢
 have H3 : Hid (E1 = 0 → (ofP zs (.node op nm vt vn vs pos l)).1 = T1) := h3
 clear h2 h3 h4
 generalize noOp (.node op nm vt vn vs pos l) = NO at cN hR
 generalize (ofP zs (.node op nm vt vn vs pos l)).1 = T2 at hR H3
 generalize l.length = NL at cN cT ⊢
 cases NO
 ·rw [if_neg (by decide)] at hR
  by_cases hE : E1 = 0
  ·subst hE
   obtain rfl := H3.out rfl
   rw [if_neg (by simp)] at hR
   by_cases hT : T2 = 2
   ·subst hT
    rw [if_neg (by simp)] at hR
    subst hR
    rw [errV, if_pos rfl] at cT ⊢
    go_enter Tryz.func24, Tryz.ntmps24
    go_wp2_with fail
    refine (cN _).mono ?_
    rintro e w1 ⟨rfl, b2⟩
    have kk := fun i => b2.cell (p := ⟨w.heap.size, i, none⟩) (by simp)
    have k0 := kk 0
    have k1 := kk 1
    have k2 := kk 2
    have k3 := kk 3
    have k4 := kk 4
    have k5 := kk 5
    have k6 := kk 6
    rw [World.cell?_alloc_at _ _ _ _ rfl] at k0 k1 k2 k3 k4 k5 k6
    simp at k0 k1 k2 k3 k4 k5 k6
    have hl : w.heap.size < w1.heap.size := by have := b2.size; simp at this; omega
    have c2 := cT _ w1 (b2.mono (by simp))
    clear cN cT kk
    go_wp2_with fail
    refine c2.mono ?_
    rintro e w2 ⟨rfl, b3⟩
    go_wp2
    go_ret
    exact ⟨rfl, ((b1 _).trans (b2.mono (by simp))).trans (b3.mono (by have := b2.size; simp at this; omega))⟩
   ·rw [if_pos hT] at hR
    subst hR
    have hb : (T2 != 2) = true := by simpa using hT
    rw [errV, if_pos rfl] at cT
    rw [errV, if_neg (by decide)]
    go_enter Tryz.func24, Tryz.ntmps24
    go_wp2_with fail
    refine (cN _).mono ?_
    rintro e w1 ⟨rfl, b2⟩
    have kk := fun i => b2.cell (p := ⟨w.heap.size, i, none⟩) (by simp)
    have k0 := kk 0
    have k1 := kk 1
    have k2 := kk 2
    have k3 := kk 3
    have k4 := kk 4
    have k5 := kk 5
    have k6 := kk 6
    rw [World.cell?_alloc_at _ _ _ _ rfl] at k0 k1 k2 k3 k4 k5 k6
    simp at k0 k1 k2 k3 k4 k5 k6
    have hl : w.heap.size < w1.heap.size := by have := b2.size; simp at this; omega
    have c2 := cT _ w1 (b2.mono (by simp))
    clear cN cT kk
    go_wp2_with fail
    refine c2.mono ?_
    rintro e w2 ⟨rfl, b3⟩
    go_wp2
    go_ret
    exact ⟨rfl, ((b1 _).trans (b2.mono (by simp))).trans (b3.mono (by have := b2.size; simp at this; omega))⟩
  ·rw [if_pos hE] at hR
   subst hR
   rw [errV, if_neg hE] at cT ⊢
   go_enter Tryz.func24, Tryz.ntmps24
   go_wp2_with fail
   refine (cN _).mono ?_
   rintro e w1 ⟨rfl, b2⟩
   have kk := fun i => b2.cell (p := ⟨w.heap.size, i, none⟩) (by simp)
   have k0 := kk 0
   have k1 := kk 1
   have k2 := kk 2
   have k3 := kk 3
   have k4 := kk 4
   have k5 := kk 5
   have k6 := kk 6
   rw [World.cell?_alloc_at _ _ _ _ rfl] at k0 k1 k2 k3 k4 k5 k6
   simp at k0 k1 k2 k3 k4 k5 k6
   have hl : w.heap.size < w1.heap.size := by have := b2.size; simp at this; omega
   have c2 := cT _ w1 (b2.mono (by simp))
   clear cN cT kk
   go_wp2_with fail
   refine c2.mono ?_
   rintro e w2 ⟨rfl, b3⟩
   go_wp2
   go_ret
   exact ⟨rfl, ((b1 _).trans (b2.mono (by simp))).trans (b3.mono (by have := b2.size; simp at this; omega))⟩
 ·rw [if_pos rfl] at hR
  subst hR
  rw [errV, if_pos rfl]
  go_enter Tryz.func24, Tryz.ntmps24
  go_wp2_with fail
  refine (cN _).mono ?_
  rintro e w1 ⟨rfl, b2⟩
  clear cN cT
  go_wp2
  go_ret
  exact ⟨rfl, (b1 _).trans (b2.mono (by simp))⟩
end Go.Proofs.YtkbhmghdonomnaaGreatDoor
namespace Go.Proofs.YtkbhmghdonomnaaGreatDoor
open Go.RowKit
set_option linter.unusedVariables false
def IntA (w : World) (v : Value) (ts : List Int) : Prop := ∃ p c, v = .slice p ts.length c ∧ (ts.length ≤ c ∧ ts.length ≤ 1048576) ∧ (p = none → c = 0) ∧ ∀ a, p = some a → ∃ g off, a = ⟨g, off, none⟩ ∧ g < w.heap.size ∧ ∀ j (h : j < ts.length), w.cell? ⟨g, off + j, none⟩ = some (.int .i64 ts[j])
theorem IntA.on {w w' : World} {v : Value} {ts : List Int} (h : IntA w v ts) (hb : Below w.heap.size w w') : IntA w' v ts := by
 obtain ⟨p, c, e, h1, h2, h3⟩ := h
 refine ⟨p, c, e, h1, h2, fun a ha => ?_⟩
 obtain ⟨g, off, e2, h5, h6⟩ := h3 a ha
 exact ⟨g, off, e2, by have := hb.size; omega, fun j hj => by rw [hb.cell (p := ⟨g, off + j, none⟩) h5]; exact h6 j hj⟩
theorem IntA.nil (w : World) : IntA w (.slice none 0 0) [] := ⟨none, 0, rfl, ⟨Nat.le_refl _, Nat.zero_le _⟩, fun _ => rfl, fun a h => nomatch h⟩
def inM (x : Int) : Prop := -9223372036854775808 ≤ x ∧ x ≤ 9223372036854775807
def ChkC : Prop := ∀ (size slide : Int) (w : World), inM size → inM slide → Calls Tryz.prog 56 #[.int .i64 size, .int .i64 slide] w fun e w' => e = .returned (errV (wdE size slide)) ∧ Below w.heap.size w w'
theorem wd_zero {size slide : Int} (h : wdB size slide) : wdE size slide = 0 := by rw [wdE, if_pos h]
theorem wd_one {size slide : Int} (h : ¬ wdB size slide) : wdE size slide = 1 := by rw [wdE, if_neg h]
theorem within_any (n l m : Int) (w : World) : Calls Tryz.prog 88 #[.int .i64 n, .int .i64 l, .int .i64 m] w fun e w' => e = .returned (.bool (decide (l ≤ n ∧ n ≤ m))) ∧ w' = w := by
 by_cases h1 : l ≤ n
 ·by_cases h2 : n ≤ m
  ·have hd : decide (l ≤ n ∧ n ≤ m) = true := decide_eq_true ⟨h1, h2⟩
   rw [hd]
   clear hd
   go_enter Tryz.func88, Tryz.ntmps88
   go_wp2
   go_ret
   exact ⟨rfl, rfl⟩
  ·have hd : decide (l ≤ n ∧ n ≤ m) = false := decide_eq_false (fun h => h2 h.2)
   rw [hd]
   clear hd
   go_enter Tryz.func88, Tryz.ntmps88
   go_wp2
   go_ret
   exact ⟨rfl, rfl⟩
 ·have hd : decide (l ≤ n ∧ n ≤ m) = false := decide_eq_false (fun h => h1 h.1)
  rw [hd]
  clear hd
  go_enter Tryz.func88, Tryz.ntmps88
  go_wp2
  go_ret
  exact ⟨rfl, rfl⟩
theorem chkX : ChkC := fun size slide w m1 m2 => by
 have c1 := within_any size 1 1000
 have c2 := within_any slide 1 size
 by_cases h1 : 1 ≤ size ∧ size ≤ 1000
 ·rw [decide_eq_true h1] at c1
  by_cases h2 : 1 ≤ slide ∧ slide ≤ size
  ·rw [decide_eq_true h2] at c2
   obtain ⟨a1, a2⟩ := h1
   obtain ⟨b1, b2⟩ := h2
   have hw : IntKind.i64.wrap (10 * slide) = 10 * slide := by rw [IntKind.wrap_i64]; omega
   by_cases h3 : size ≤ 10 * slide
   ·rw [wd_zero ⟨a1, a2, b1, b2, h3⟩, show errV 0 = .nilIface from rfl]
    go_enter Tryz.func56, Tryz.ntmps56
    go_wp2_with fail
    refine (c1 _).mono ?_
    rintro e w1 ⟨rfl, rfl⟩
    clear c1
    go_wp2_with fail
    refine (c2 _).mono ?_
    rintro e w1 ⟨rfl, rfl⟩
    clear c2
    go_wp2
    go_ret
    exact ⟨rfl, Below.refl _ _⟩
   ·rw [wd_one (fun h => h3 h.2.2.2.2), show errV 1 = .iface 32 (.int .i64 1) from rfl]
    go_enter Tryz.func56, Tryz.ntmps56
    go_wp2_with fail
    refine (c1 _).mono ?_
    rintro e w1 ⟨rfl, rfl⟩
    clear c1
    go_wp2_with fail
    refine (c2 _).mono ?_
    rintro e w1 ⟨rfl, rfl⟩
    clear c2
    go_wp2
    go_ret
    exact ⟨rfl, Below.refl _ _⟩
  ·rw [decide_eq_false h2] at c2
   rw [wd_one (fun h => h2 ⟨h.2.2.1, h.2.2.2.1⟩), show errV 1 = .iface 32 (.int .i64 1) from rfl]
   clear h1 h2
   go_enter Tryz.func56, Tryz.ntmps56
   go_wp2_with fail
   refine (c1 _).mono ?_
   rintro e w1 ⟨rfl, rfl⟩
   clear c1
   go_wp2_with fail
   refine (c2 _).mono ?_
   rintro e w1 ⟨rfl, rfl⟩
   clear c2
   go_wp2
   go_ret
   exact ⟨rfl, Below.refl _ _⟩
 ·rw [decide_eq_false h1] at c1
  rw [wd_one (fun h => h1 ⟨h.1, h.2.1⟩), show errV 1 = .iface 32 (.int .i64 1) from rfl]
  clear h1 c2
  go_enter Tryz.func56, Tryz.ntmps56
  go_wp2_with fail
  refine (c1 _).mono ?_
  rintro e w1 ⟨rfl, rfl⟩
  clear c1
  go_wp2
  go_ret
  exact ⟨rfl, Below.refl _ _⟩
end Go.Proofs.YtkbhmghdonomnaaGreatDoor
namespace Go.Proofs.YtkbhmghdonomnaaGreatDoor
open Go.RowKit Go.BigFrame
set_option linter.unusedVariables false
set_option linter.unusedSimpArgs false
theorem size_qyU : (Tryz.prog.info? 30).map (·.size) = some 14 := by kernel_rfl
theorem size_exU : (Tryz.prog.info? 26).map (·.size) = some 7 := by kernel_rfl
theorem size_agU : (Tryz.prog.info? 49).map (·.size) = some 9 := by kernel_rfl
theorem box_blk (w : World) (cs : Array Value) (t : TypeId) : (w.alloc (.cells cs t)).heap[w.heap.size]? = some (.cells cs t (0, 0)) := by
 show (w.heap.push _)[_]? = _
 rw [Array.getElem?_push_size]
structure QV (QC : Array Value) (q : Qy) (cp : Option Addr) (cc : Nat) (np : Option Addr) (nc : Nat) (gp : Option Addr) (gc : Nat) (ap : Option Addr) (ac : Nat) : Prop where
 size : QC.size = 14
 c8 : QC[8]? = some (.slice cp q.cols.length cc)
 c9 : QC[9]? = some (.slice np q.names.length nc)
 c10 : QC[10]? = some (.slice gp q.group.length gc)
 c11 : QC[11]? = some (.int .i64 q.size)
 c12 : QC[12]? = some (.int .i64 q.slide)
 c13 : QC[13]? = some (.slice ap q.aggs.length ac)
theorem qv_of (q : Qy) (wp : Option Addr) (wc : Nat) (cp : Option Addr) (cc : Nat) (np : Option Addr) (nc : Nat) (gp : Option Addr) (gc : Nat) (ap : Option Addr) (ac : Nat) : QV (qyC q wp wc cp cc np nc gp gc ap ac) q cp cc np nc gp gc ap ac := ⟨rfl, rfl, rfl, rfl, rfl, rfl, rfl⟩
set_option maxHeartbeats 2000000 in
set_option maxRecDepth 20000 in
theorem goTogether_q (QC : Array Value) (q : Qy) (cp : Option Addr) (cc : Nat) (np : Option Addr) (nc : Nat) (gp : Option Addr) (gc : Nat) (ap : Option Addr) (ac : Nat) (w : World) (h : QV QC q cp cc np nc gp gc ap ac) :
  Calls Tryz.prog 55 #[.agg QC] w fun e w' => e = .returned (.bool (togQ q)) ∧ Below w.heap.size w w' := by
 obtain ⟨hs, h8, h9, h10, h11, h12, h13⟩ := h
 clear hs
 obtain ⟨R, hR⟩ : ∃ R, togQ q = R := ⟨_, rfl⟩
 have hR2 := hR
 rw [togQ] at hR2
 rw [hR]
 clear hR
 obtain ⟨frm, whr, cols, names, group, size, slide, aggs⟩ := q
 simp only at h8 h9 h10 h11 h12 h13 hR2
 generalize cols.length = NC at h8 hR2
 generalize names.length = NN at h9 hR2
 generalize group.length = NG at h10 hR2
 generalize aggs.length = NA at h13 hR2
 by_cases hz : size = 0
 ·subst hz
  rw [if_neg (by simp)] at hR2
  by_cases g1 : slide = 0
  ·subst g1
   by_cases g2 : NA = 0
   ·subst g2
    by_cases g3 : NG = 0
    ·subst g3
     by_cases g4 : NN = NC
     ·subst g4
      obtain rfl : true = R := by simpa using hR2
      go_enter Tryz.func55, Tryz.ntmps55
      go_wp2
      go_ret
      exact ⟨rfl, (Below.refl _ _).alloc (Nat.le_refl _) _⟩
     ·obtain rfl : false = R := by simpa [g4] using hR2
      have hb : ((NN : Int) == (NC : Int)) = false := by simp; omega
      clear hR2 g4
      go_enter Tryz.func55, Tryz.ntmps55
      go_wp2
      go_ret
      exact ⟨rfl, (Below.refl _ _).alloc (Nat.le_refl _) _⟩
    ·obtain rfl : false = R := by simpa [g3] using hR2
     have hb : ((NG : Int) == 0) = false := by simp; omega
     clear hR2 g3
     go_enter Tryz.func55, Tryz.ntmps55
     go_wp2
     go_ret
     exact ⟨rfl, (Below.refl _ _).alloc (Nat.le_refl _) _⟩
   ·obtain rfl : false = R := by simpa [g2] using hR2
    have hb : ((NA : Int) == 0) = false := by simp; omega
    clear hR2 g2
    go_enter Tryz.func55, Tryz.ntmps55
    go_wp2
    go_ret
    exact ⟨rfl, (Below.refl _ _).alloc (Nat.le_refl _) _⟩
  ·obtain rfl : false = R := by simpa [g1] using hR2
   have hb : (slide == 0) = false := by simpa using g1
   clear hR2 g1
   go_enter Tryz.func55, Tryz.ntmps55
   go_wp2
   go_ret
   exact ⟨rfl, (Below.refl _ _).alloc (Nat.le_refl _) _⟩
 ·rw [if_pos hz] at hR2
  have hb : (size != 0) = true := by simpa using hz
  by_cases h1 : NC = 0
  ·subst h1
   by_cases h2 : NN = 0
   ·subst h2
    obtain rfl : true = R := by simpa using hR2
    clear hz hR2
    go_enter Tryz.func55, Tryz.ntmps55
    go_wp2
    go_ret
    exact ⟨rfl, (Below.refl _ _).alloc (Nat.le_refl _) _⟩
   ·obtain rfl : false = R := by simpa [h2] using hR2
    have hb2 : ((NN : Int) == 0) = false := by simp; omega
    clear hz hR2 h2
    go_enter Tryz.func55, Tryz.ntmps55
    go_wp2
    go_ret
    exact ⟨rfl, (Below.refl _ _).alloc (Nat.le_refl _) _⟩
  ·obtain rfl : false = R := by simpa [h1] using hR2
   have hb2 : ((NC : Int) == 0) = false := by simp; omega
   clear hz hR2 h1
   go_enter Tryz.func55, Tryz.ntmps55
   go_wp2
   go_ret
   exact ⟨rfl, (Below.refl _ _).alloc (Nat.le_refl _) _⟩
set_option maxHeartbeats 4000000 in
set_option maxRecDepth 20000 in
theorem checkForm_q (QC : Array Value) (q : Qy) (cp : Option Addr) (cc : Nat) (np : Option Addr) (nc : Nat) (gp : Option Addr) (gc : Nat) (ap : Option Addr) (ac : Nat) (w : World) (h : QV QC q cp cc np nc gp gc ap ac) (m1 : inM q.size) (m2 : inM q.slide) (l1 : q.cols.length ≤ 1048576) (l2 : q.group.length ≤ 1048576) (l3 : q.aggs.length ≤ 1048576) (E : Int) (hE : formQ q = E) :
  Calls Tryz.prog 23 #[.agg QC] w fun e w' => e = .returned (errV E) ∧ Below w.heap.size w w' := by
 have b1 := (Below.refl w.heap.size w).alloc (Nat.le_refl _) (.cells QC 30)
 have cG := goTogether_q QC q cp cc np nc gp gc ap ac (w.alloc (.cells QC 30)) h
 have cW := fun W => chkX q.size q.slide W m1 m2
 have hblk := box_blk w QC 30
 have hs14 : (Tryz.prog.info? 30).map (·.size) = some QC.size := by rw [h.size]; exact size_qyU
 obtain ⟨hs, h8, h9, h10, h11, h12, h13⟩ := h
 clear hs
 rw [formQ] at hE
 obtain ⟨frm, whr, cols, names, group, size, slide, aggs⟩ := q
 simp only at h8 h9 h10 h11 h12 h13 hE cW l1 l2 l3
 generalize togQ ⟨frm, whr, cols, names, group, size, slide, aggs⟩ = TG at cG hE
 generalize cols.length = NC at h8 hE l1
 generalize group.length = NG at h10 hE l2
 generalize aggs.length = NA at h13 hE l3
 generalize names.length = NN at h9
 clear m1 m2
 obtain ⟨CC, hCC⟩ : ∃ CC, CC = QC := ⟨_, rfl⟩
 have hld : ∀ {ops : Array Oper} {rest : List Oper} {op : Oper} {a : Act} {Q : Exit → Act → World → Prop} (hgd : op.guard = none) (x : Operand) (ho : op.op = .load 30 x) (hx : a.eval x = .pointer (some ⟨w.heap.size, 0, none⟩)), wpList Tryz.prog ops Q rest (a.put op.dst (.agg QC)) (w.alloc (.cells QC 30)) → wpList Tryz.prog ops Q (op :: rest) a (w.alloc (.cells QC 30)) := fun hgd x ho hx => wpList_load_row hgd 30 x ho w.heap.size hx _ QC _ _ hblk Tryz.underlying30 rfl hs14
 clear hblk hs14 hCC
 cases TG
 ·rw [if_pos rfl] at hE
  subst hE
  rw [errV, if_neg (by decide)]
  go_enter Tryz.func23, Tryz.ntmps23
  go_wp2_with (refine hld rfl _ rfl rfl ?_)
  go_wp2_with fail
  refine cG.mono ?_
  rintro e w1 ⟨rfl, b2⟩
  clear hld cG cW
  go_wp2
  go_ret
  exact ⟨rfl, b1.trans (b2.mono (by simp))⟩
 ·rw [if_neg (by decide)] at hE
  have KK : ∀ W, Below (w.alloc (.cells QC 30)).heap.size (w.alloc (.cells QC 30)) W → W.cell? ⟨w.heap.size, 8, none⟩ = some (.slice cp NC cc) ∧ W.cell? ⟨w.heap.size, 10, none⟩ = some (.slice gp NG gc) ∧ W.cell? ⟨w.heap.size, 11, none⟩ = some (.int .i64 size) ∧ W.cell? ⟨w.heap.size, 12, none⟩ = some (.int .i64 slide) ∧ W.cell? ⟨w.heap.size, 13, none⟩ = some (.slice ap NA ac) := fun W hb => by
   have kk := fun i => hb.cell (p := ⟨w.heap.size, i, none⟩) (by simp)
   refine ⟨?_, ?_, ?_, ?_, ?_⟩
   all_goals (rw [kk, World.cell?_alloc_at _ _ _ _ rfl]; assumption)
  by_cases hz : size = 0
  ·subst hz
   rw [if_neg (by simp)] at hE
   by_cases h0 : NC + NG + NA = 0
   ·rw [if_pos h0] at hE
    subst hE
    rw [errV, if_neg (by decide)]
    obtain ⟨rfl, rfl, rfl⟩ : NC = 0 ∧ NG = 0 ∧ NA = 0 := by omega
    go_enter Tryz.func23, Tryz.ntmps23
    go_wp2_with (refine hld rfl _ rfl rfl ?_)
    go_wp2_with fail
    refine cG.mono ?_
    rintro e w1 ⟨rfl, b2⟩
    have B1 : Below w.heap.size w w1 := b1.trans (b2.mono (by simp))
    have hl1 : w.heap.size < w1.heap.size := by have := b2.size; simp at this; omega
    obtain ⟨k8, k10, k11, k12, k13⟩ := KK _ b2
    clear hld cG
    clear cW
    go_wp2
    go_ret
    exact ⟨rfl, B1⟩
   ·rw [if_neg h0] at hE
    by_cases h6 : 6 < NC + NG + NA
    ·rw [if_pos h6] at hE
     subst hE
     rw [errV, if_neg (by decide)]
     have hn0 : ((NC : Int) + (NG : Int) + (NA : Int) == 0) = false := by simp; omega
     have hn6 : (6 : Int) < (NC : Int) + (NG : Int) + (NA : Int) := by omega
     go_enter Tryz.func23, Tryz.ntmps23
     go_wp2_with (refine hld rfl _ rfl rfl ?_)
     go_wp2_with fail
     refine cG.mono ?_
     rintro e w1 ⟨rfl, b2⟩
     have B1 : Below w.heap.size w w1 := b1.trans (b2.mono (by simp))
     have hl1 : w.heap.size < w1.heap.size := by have := b2.size; simp at this; omega
     obtain ⟨k8, k10, k11, k12, k13⟩ := KK _ b2
     clear hld cG
     clear cW
     go_wp2
     go_ret
     exact ⟨rfl, B1⟩
    ·rw [if_neg h6] at hE
     subst hE
     rw [errV, if_pos rfl]
     have hn0 : ((NC : Int) + (NG : Int) + (NA : Int) == 0) = false := by simp; omega
     have hn6 : ¬ (6 : Int) < (NC : Int) + (NG : Int) + (NA : Int) := by omega
     go_enter Tryz.func23, Tryz.ntmps23
     go_wp2_with (refine hld rfl _ rfl rfl ?_)
     go_wp2_with fail
     refine cG.mono ?_
     rintro e w1 ⟨rfl, b2⟩
     have B1 : Below w.heap.size w w1 := b1.trans (b2.mono (by simp))
     have hl1 : w.heap.size < w1.heap.size := by have := b2.size; simp at this; omega
     obtain ⟨k8, k10, k11, k12, k13⟩ := KK _ b2
     clear hld cG
     clear cW
     go_wp2
     go_ret
     exact ⟨rfl, B1⟩
  ·have hb : (size != 0) = true := by simpa using hz
   by_cases hw : wdB size slide
   ·rw [if_neg (fun h => h.2 hw)] at hE
    rw [wd_zero hw, errV, if_pos rfl] at cW
    by_cases h0 : NC + NG + NA = 0
    ·rw [if_pos h0] at hE
     subst hE
     rw [errV, if_neg (by decide)]
     obtain ⟨rfl, rfl, rfl⟩ : NC = 0 ∧ NG = 0 ∧ NA = 0 := by omega
     go_enter Tryz.func23, Tryz.ntmps23
     go_wp2_with (refine hld rfl _ rfl rfl ?_)
     go_wp2_with fail
     refine cG.mono ?_
     rintro e w1 ⟨rfl, b2⟩
     have B1 : Below w.heap.size w w1 := b1.trans (b2.mono (by simp))
     have hl1 : w.heap.size < w1.heap.size := by have := b2.size; simp at this; omega
     obtain ⟨k8, k10, k11, k12, k13⟩ := KK _ b2
     clear hld cG
     go_wp2_with fail
     refine (cW w1).mono ?_
     rintro e w2 ⟨rfl, b3⟩
     clear cW
     have B2 : Below w.heap.size w w2 := B1.trans (b3.mono (by omega))
     have hl2 : w.heap.size < w2.heap.size := by have := b3.size; omega
     rw [← b3.cell (p := ⟨w.heap.size, 8, none⟩) hl1] at k8
     rw [← b3.cell (p := ⟨w.heap.size, 10, none⟩) hl1] at k10
     rw [← b3.cell (p := ⟨w.heap.size, 13, none⟩) hl1] at k13
     go_wp2
     go_ret
     exact ⟨rfl, B2⟩
    ·rw [if_neg h0] at hE
     by_cases h6 : 6 < NC + NG + NA
     ·rw [if_pos h6] at hE
      subst hE
      rw [errV, if_neg (by decide)]
      have hn0 : ((NC : Int) + (NG : Int) + (NA : Int) == 0) = false := by simp; omega
      have hn6 : (6 : Int) < (NC : Int) + (NG : Int) + (NA : Int) := by omega
      go_enter Tryz.func23, Tryz.ntmps23
      go_wp2_with (refine hld rfl _ rfl rfl ?_)
      go_wp2_with fail
      refine cG.mono ?_
      rintro e w1 ⟨rfl, b2⟩
      have B1 : Below w.heap.size w w1 := b1.trans (b2.mono (by simp))
      have hl1 : w.heap.size < w1.heap.size := by have := b2.size; simp at this; omega
      obtain ⟨k8, k10, k11, k12, k13⟩ := KK _ b2
      clear hld cG
      go_wp2_with fail
      refine (cW w1).mono ?_
      rintro e w2 ⟨rfl, b3⟩
      clear cW
      have B2 : Below w.heap.size w w2 := B1.trans (b3.mono (by omega))
      have hl2 : w.heap.size < w2.heap.size := by have := b3.size; omega
      rw [← b3.cell (p := ⟨w.heap.size, 8, none⟩) hl1] at k8
      rw [← b3.cell (p := ⟨w.heap.size, 10, none⟩) hl1] at k10
      rw [← b3.cell (p := ⟨w.heap.size, 13, none⟩) hl1] at k13
      go_wp2
      go_ret
      exact ⟨rfl, B2⟩
     ·rw [if_neg h6] at hE
      subst hE
      rw [errV, if_pos rfl]
      have hn0 : ((NC : Int) + (NG : Int) + (NA : Int) == 0) = false := by simp; omega
      have hn6 : ¬ (6 : Int) < (NC : Int) + (NG : Int) + (NA : Int) := by omega
      go_enter Tryz.func23, Tryz.ntmps23
      go_wp2_with (refine hld rfl _ rfl rfl ?_)
      go_wp2_with fail
      refine cG.mono ?_
      rintro e w1 ⟨rfl, b2⟩
      have B1 : Below w.heap.size w w1 := b1.trans (b2.mono (by simp))
      have hl1 : w.heap.size < w1.heap.size := by have := b2.size; simp at this; omega
      obtain ⟨k8, k10, k11, k12, k13⟩ := KK _ b2
      clear hld cG
      go_wp2_with fail
      refine (cW w1).mono ?_
      rintro e w2 ⟨rfl, b3⟩
      clear cW
      have B2 : Below w.heap.size w w2 := B1.trans (b3.mono (by omega))
      have hl2 : w.heap.size < w2.heap.size := by have := b3.size; omega
      rw [← b3.cell (p := ⟨w.heap.size, 8, none⟩) hl1] at k8
      rw [← b3.cell (p := ⟨w.heap.size, 10, none⟩) hl1] at k10
      rw [← b3.cell (p := ⟨w.heap.size, 13, none⟩) hl1] at k13
      go_wp2
      go_ret
      exact ⟨rfl, B2⟩
   ·rw [if_pos ⟨hz, hw⟩] at hE
    subst hE
    rw [wd_one hw] at cW
    rw [errV, if_neg (by decide)] at cW ⊢
    go_enter Tryz.func23, Tryz.ntmps23
    go_wp2_with (refine hld rfl _ rfl rfl ?_)
    go_wp2_with fail
    refine cG.mono ?_
    rintro e w1 ⟨rfl, b2⟩
    have B1 : Below w.heap.size w w1 := b1.trans (b2.mono (by simp))
    have hl1 : w.heap.size < w1.heap.size := by have := b2.size; simp at this; omega
    obtain ⟨k8, k10, k11, k12, k13⟩ := KK _ b2
    clear hld cG
    go_wp2_with fail
    refine (cW w1).mono ?_
    rintro e w2 ⟨rfl, b3⟩
    clear cW
    go_wp2
    go_ret
    exact ⟨rfl, B1.trans (b3.mono (by omega))⟩
end Go.Proofs.YtkbhmghdonomnaaGreatDoor
