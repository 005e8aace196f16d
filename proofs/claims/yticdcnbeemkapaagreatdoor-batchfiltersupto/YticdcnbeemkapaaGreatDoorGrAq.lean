/-
  QyM, QuC1, QuC2, WdA, WdC, in one text.
-/
import Derived.Test.YticdcnbeemkapaaGreatDoorGrAo
import Derived.Test.YticdcnbeemkapaaGreatDoorGrAp
import Derived.Test.YticdcnbeemkapaaGreatDoorQTreeWk
import Derived.Test.YticdcnbeemkapaaGreatDoorQTreeCk
import Derived.Deep.MidRow
import Derived.Test.YticdcnbeemkapaaGreatDoorGrAk
import Derived.Deep.QuietTactic
import Derived.Test.YticdcnbeemkapaaGreatDoorGrAa
import Derived.OwnWalk
import Derived.Laws.AppendOwnNone
import Derived.Laws.OwnMore
import Derived.WalkSmall
import Derived.BigQuiet
import Derived.Deep.LoopGhost
import Derived.Lib.OthersKept
namespace Go.Proofs.YticdcnbeemkapaaGreatDoor
open Go.RowKit
set_option linter.unusedVariables false

/-- An expression's seven cells, its parts' slice at p with room c. -/
abbrev exV (x : Ex) (p : Option Addr) (c : Nat) : Value := .agg #[.string x.op, .string x.nm, .int .i64 x.vt, .int .i64 x.vn, .string x.vs, .slice p x.args.length c, .int .i64 x.pos]
/-- Aggregates one behind the other. -/
def AgsIn (w : World) (lo : Nat → Prop) (b off : Nat) (l : List Ag) : Prop := ∀ j (h : j < l.length), ∃ ap ac, w.cell? ⟨b, off + j * 9, none⟩ = some (.string l[j].what) ∧ w.cell? ⟨b, off + j * 9 + 1, none⟩ = some (.string l[j].arg.op) ∧ w.cell? ⟨b, off + j * 9 + 2, none⟩ = some (.string l[j].arg.nm) ∧ w.cell? ⟨b, off + j * 9 + 3, none⟩ = some (.int .i64 l[j].arg.vt) ∧ w.cell? ⟨b, off + j * 9 + 4, none⟩ = some (.int .i64 l[j].arg.vn) ∧ w.cell? ⟨b, off + j * 9 + 5, none⟩ = some (.string l[j].arg.vs) ∧ w.cell? ⟨b, off + j * 9 + 6, none⟩ = some (.slice ap l[j].arg.args.length ac) ∧ w.cell? ⟨b, off + j * 9 + 7, none⟩ = some (.int .i64 l[j].arg.pos) ∧ w.cell? ⟨b, off + j * 9 + 8, none⟩ = some (.string l[j].name) ∧ ExIn w lo (exV l[j].arg ap ac) l[j].arg
def AgsIs (w : World) (lo : Nat → Prop) (p : Option Addr) (l : List Ag) : Prop := l.length ≤ 1048576 ∧ (l.length = 0 ∨ ∃ b off, p = some ⟨b, off, none⟩ ∧ b < w.heap.size ∧ lo b ∧ AgsIn w lo b off l)
/-- A query's fourteen cells. -/
abbrev qyC (q : Qy) (wp : Option Addr) (wc : Nat) (cp : Option Addr) (cc : Nat) (np : Option Addr) (nc : Nat) (gp : Option Addr) (gc : Nat) (ap : Option Addr) (ac : Nat) : Array Value :=
  #[.string q.frm, .string q.whr.op, .string q.whr.nm, .int .i64 q.whr.vt, .int .i64 q.whr.vn, .string q.whr.vs, .slice wp q.whr.args.length wc, .int .i64 q.whr.pos, .slice cp q.cols.length cc, .slice np q.names.length nc, .slice gp q.group.length gc, .int .i64 q.size, .int .i64 q.slide, .slice ap q.aggs.length ac]
/-- What lies behind a query's cells. -/
structure QyBe (w : World) (lo : Nat → Prop) (q : Qy) (wp : Option Addr) (wc : Nat) (cp : Option Addr) (cc : Nat) (np : Option Addr) (nc : Nat) (gp : Option Addr) (gc : Nat) (ap : Option Addr) (ac : Nat) : Prop where
  whr : ExIn w lo (exV q.whr wp wc) q.whr
  cols : ArgsIs w lo (.slice cp q.cols.length cc) q.cols
  clen : q.cols.length ≤ 1048576
  names : StsA w (.slice np q.names.length nc) q.names
  group : StsA w (.slice gp q.group.length gc) q.group
  aggs : AgsIs w lo ap q.aggs
/-- A query that is handed in. -/
def QyIn (w : World) (lo : Nat → Prop) (v : Value) (q : Qy) : Prop := ∃ wp wc cp cc np nc gp gc ap ac, v = .agg (qyC q wp wc cp cc np nc gp gc ap ac) ∧ QyBe w lo q wp wc cp cc np nc gp gc ap ac
theorem AgsIn.on {w w' : World} {lo : Nat → Prop} {b off : Nat} {l : List Ag} (h : AgsIn w lo b off l) (hlt : b < w.heap.size) (hb : Below w.heap.size w w') : AgsIn w' lo b off l := fun j hj => by
  obtain ⟨ap, ac, c0, c1, c2, c3, c4, c5, c6, c7, c8, hx⟩ := h j hj
  have k : ∀ o, w'.cell? ⟨b, o, none⟩ = w.cell? ⟨b, o, none⟩ := fun o => hb.cell (p := ⟨b, o, none⟩) hlt
  exact ⟨ap, ac, by rw [k]; exact c0, by rw [k]; exact c1, by rw [k]; exact c2, by rw [k]; exact c3, by rw [k]; exact c4, by rw [k]; exact c5, by rw [k]; exact c6, by rw [k]; exact c7, by rw [k]; exact c8, hx.on hb⟩
theorem AgsIs.on {w w' : World} {lo : Nat → Prop} {p : Option Addr} {l : List Ag} (h : AgsIs w lo p l) (hb : Below w.heap.size w w') : AgsIs w' lo p l := by
  obtain ⟨h1, h2⟩ := h
  refine ⟨h1, ?_⟩
  rcases h2 with h2 | ⟨b, off, e, hl, hlo, h3⟩
  · exact .inl h2
  · exact .inr ⟨b, off, e, by have := hb.size; omega, hlo, h3.on hl hb⟩
theorem ArgsIs.onB {w w' : World} {lo : Nat → Prop} {v : Value} {l : List Ex} (h : ArgsIs w lo v l) (hb : Below w.heap.size w w') : ArgsIs w' lo v l := h.keep hb.size (fun b o _ hl => hb.cell (p := ⟨b, o, none⟩) hl)
theorem QyBe.on {w w' : World} {lo : Nat → Prop} {q : Qy} {wp : Option Addr} {wc : Nat} {cp : Option Addr} {cc : Nat} {np : Option Addr} {nc : Nat} {gp : Option Addr} {gc : Nat} {ap : Option Addr} {ac : Nat} (h : QyBe w lo q wp wc cp cc np nc gp gc ap ac) (hb : Below w.heap.size w w') : QyBe w' lo q wp wc cp cc np nc gp gc ap ac :=
  ⟨h.whr.on hb, h.cols.onB hb, h.clen, h.names.on hb, h.group.on hb, h.aggs.on hb⟩
theorem QyIn.on {w w' : World} {lo : Nat → Prop} {v : Value} {q : Qy} (h : QyIn w lo v q) (hb : Below w.heap.size w w') : QyIn w' lo v q := by
  obtain ⟨wp, wc, cp, cc, np, nc, gp, gc, ap, ac, e, h⟩ := h
  exact ⟨wp, wc, cp, cc, np, nc, gp, gc, ap, ac, e, h.on hb⟩
theorem rangeQ7 {W : World} {b o : Nat} {v0 v1 v2 v3 v4 v5 v6 : Value} (h0 : W.cell? ⟨b, o, none⟩ = some v0) (h1 : W.cell? ⟨b, o + 1, none⟩ = some v1) (h2 : W.cell? ⟨b, o + 2, none⟩ = some v2) (h3 : W.cell? ⟨b, o + 3, none⟩ = some v3) (h4 : W.cell? ⟨b, o + 4, none⟩ = some v4) (h5 : W.cell? ⟨b, o + 5, none⟩ = some v5) (h6 : W.cell? ⟨b, o + 6, none⟩ = some v6) : W.rangeAt b o [v0, v1, v2, v3, v4, v5, v6] := fun j v hv => by
  have hj : j < 7 := by have := (List.getElem?_eq_some_iff.1 hv).1; simpa using this
  have : j = 0 ∨ j = 1 ∨ j = 2 ∨ j = 3 ∨ j = 4 ∨ j = 5 ∨ j = 6 := by omega
  rcases this with rfl | rfl | rfl | rfl | rfl | rfl | rfl
  all_goals (simp at hv; subst hv; assumption)
/-- A part's cells, of a list of expressions that is handed in. -/
theorem partQ_at {w : World} {lo : Nat → Prop} {p : Option Addr} {n c : Nat} {l : List Ex} (h : ArgsIs w lo (.slice p n c) l) {j : Nat} (hj : j < l.length) : ∃ ba oa yp yc, p = some ⟨ba, oa, none⟩ ∧ ba < w.heap.size ∧ lo ba ∧ w.rangeAt ba (oa + j * 7) [.string l[j].op, .string l[j].nm, .int .i64 l[j].vt, .int .i64 l[j].vn, .string l[j].vs, .slice yp l[j].args.length yc, .int .i64 l[j].pos] ∧ ExIn w lo (exV l[j] yp yc) l[j] := by
  obtain ⟨p', c', e, -, h⟩ := h
  injection e with e1 e2 e3
  subst e1
  rcases h with h0 | ⟨ba, oa, e, hbl, hlo, hE⟩
  · exact absurd h0 (by omega)
  · obtain ⟨v0, v1, v2, v3, v4, v5, v6, e0, e1, e2, e3, e4, e5, e6, hy⟩ := exsIn_at w lo ba l oa hE j hj
    obtain ⟨yp, yc, hw, -⟩ := hy.whole
    injection hw with hw
    simp only [Array.mk.injEq, List.cons.injEq, and_true] at hw
    obtain ⟨rfl, rfl, rfl, rfl, rfl, rfl, rfl⟩ := hw
    exact ⟨ba, oa, yp, yc, e, hbl, hlo, rangeQ7 e0 e1 e2 e3 e4 e5 e6, hy⟩
end Go.Proofs.YticdcnbeemkapaaGreatDoor
namespace Go.Proofs.YticdcnbeemkapaaGreatDoor
open Go.RowKit Go.BigFrame
set_option linter.unusedVariables false

theorem isNothing_any (x : Ex) (lo : Nat → Prop) (v : Value) (w : World) (hx : ExIn w lo v x) :
    Calls Tryz.prog 73 #[v] w fun e w' => e = .returned (.bool (noOp x)) ∧ Below w.heap.size w w' := by
  obtain ⟨xp, xc, rfl, -⟩ := hx.whole
  obtain ⟨NO, hNO⟩ : ∃ NO, noOp x = NO := ⟨_, rfl⟩
  have hd : decide (x.op.data.toList = []) = NO := hNO
  rw [hNO]
  clear hNO hx
  obtain ⟨op, nm, vt, vn, vs, pos, l⟩ := x
  simp only [Ex.op, Ex.nm, Ex.vt, Ex.vn, Ex.vs, Ex.args, Ex.pos] at hd ⊢
  cases NO
  · have h : ¬ op.data.toList = [] := by simpa using hd
    have hq : (op.toList == []) = false := by rw [Lib.toList_data]; simpa using h
    clear hd h
    go_enter Tryz.func73, Tryz.ntmps73
    go_wp2
    go_ret
    exact ⟨rfl, (Below.refl _ _).alloc (Nat.le_refl _) _⟩
  · have h : op.data.toList = [] := by simpa using hd
    have hq : (op.toList == []) = true := by rw [Lib.toList_data]; simpa using h
    clear hd h
    go_enter Tryz.func73, Tryz.ntmps73
    go_wp2
    go_ret
    exact ⟨rfl, (Below.refl _ _).alloc (Nat.le_refl _) _⟩
theorem cols_form {w : World} {v : Value} {zs : List Cl} (h : ColsV w v zs) : ∃ q c, v = .slice q zs.length c := by
  obtain ⟨q, c, e, -⟩ := h
  exact ⟨q, c, e⟩
set_option maxHeartbeats 2000000 in
theorem typeOf_q (x : Ex) (lo : Nat → Prop) (v vl : Value) (zs : List Cl) (w : World) (henv : KEnv w) (hx : ExIn w lo v x) (hsz : (x.pre 1).length ≤ 1048576) (hcv : ColsV w vl zs) (T E : Int) (hR : ofT zs x = (T, E)) :
    Calls Tryz.prog 74 #[v, vl] w fun e w' => e = .returned (.tuple #[.int .i64 T, errV E]) ∧ Below w.heap.size w w' := by
  obtain ⟨T0, H0, P0, hO⟩ : ∃ T0 H0 P0, ofP zs x = (T0, H0, P0) := ⟨_, _, _, rfl⟩
  rw [ofT, hO] at hR
  simp only at hR
  have b1 := fun o => (Below.refl w.heap.size w).alloc (Nat.le_refl _) o
  obtain ⟨xp, xc, hxe, -⟩ := id hx.whole
  obtain ⟨q, c, hvl⟩ := cols_form hcv
  have cO := fun o => of_any x lo v vl zs (w.alloc o) (henv.on (b1 o)) (hx.on (b1 o)) hsz (hcv.on (b1 o)) T0 H0 P0 hO
  clear hx hcv henv hO
  subst hxe hvl
  generalize zs.length = NZ at cO ⊢
  obtain ⟨op, nm, vt, vn, vs, pos, l⟩ := x
  simp only [Ex.op, Ex.nm, Ex.vt, Ex.vn, Ex.vs, Ex.args, Ex.pos] at cO ⊢
  generalize l.length = NL at cO ⊢
  have fin : ∀ {o : Obj} {w1 : World}, Below (w.alloc o).heap.size (w.alloc o) w1 → ∀ o2, Below w.heap.size w (w1.alloc o2) := fun {o w1} b2 o2 => (((Below.refl w.heap.size w).alloc (Nat.le_refl _) o).trans (b2.mono (by simp))).alloc (by have := b2.size; simp at this; omega) _
  by_cases hh : H0 = 0
  · subst hh
    rw [if_neg (by simp)] at hR
    obtain ⟨rfl, rfl⟩ := Prod.mk.inj hR
    rw [errV, if_pos rfl]
    go_enter Tryz.func74, Tryz.ntmps74
    go_wp2_with fail
    refine (cO _).mono ?_
    rintro e w1 ⟨rfl, b2⟩
    have F := fin b2
    clear b1 cO fin
    go_wp2
    go_ret2
    exact ⟨rfl, F _⟩
  · rw [if_pos hh] at hR
    obtain ⟨rfl, rfl⟩ := Prod.mk.inj hR
    rw [errV, if_neg hh]
    have hb : (H0 != 0) = true := by simpa using hh
    go_enter Tryz.func74, Tryz.ntmps74
    go_wp2_with fail
    refine (cO _).mono ?_
    rintro e w1 ⟨rfl, b2⟩
    have F := fin b2
    clear b1 cO fin
    go_wp2
    go_quiet (fail)
    go_wp2
    go_ret2
    exact ⟨rfl, below_drewN (F _) _⟩
theorem sts_hit {ts : List ByteArray} {x : ByteArray} {k : Nat} (h : k < ts.length) (e : ts[k].data.toList = x.data.toList) : (ts.any fun a => a.data.toList == x.data.toList) = true := by
  rw [List.any_eq_true]
  exact ⟨ts[k], List.getElem_mem h, by simpa using e⟩
theorem sts_miss {ts : List ByteArray} {x : ByteArray} (h : ∀ j (hj : j < ts.length), ts[j].data.toList ≠ x.data.toList) : (ts.any fun a => a.data.toList == x.data.toList) = false := by
  rw [List.any_eq_false]
  intro g hg
  obtain ⟨j, hj, rfl⟩ := List.getElem_of_mem hg
  simpa using h j hj
set_option maxHeartbeats 1000000 in
theorem index_sts (x : ByteArray) (p : Option Addr) (n c : Nat) (ts : List ByteArray) (w : World) (hn : ts.length = n) (h : StsA w (.slice p n c) ts) (h100 : n ≤ 100) :
    Calls Tryz.prog 145 #[.slice p n c, .string x] w fun e w' => ∃ n : Int, e = .returned (.int .i64 n) ∧ Hid (decide (0 ≤ n) = ts.any fun a => a.data.toList == x.data.toList) ∧ w' = w := by
  have HS : Aside (StsA w (.slice p n c) ts) := h
  have HN : Hid (ts.length = n) := hn
  obtain ⟨R, hR⟩ : ∃ R, (ts.any fun a => a.data.toList == x.data.toList) = R := ⟨_, rfl⟩
  have HR : Hid ((ts.any fun a => a.data.toList == x.data.toList) = R) := hR
  rw [hR]
  clear h hn hR
  go_enter Tryz.func145, Tryz.ntmps145
  go_wp2
  go_loopg [5, 8] n (fun gg _ s8 wr => ∃ kk : Nat, kk ≤ n ∧ n - kk ≤ gg ∧ s8 = .int .i64 kk ∧ wr = w ∧ Aside (∀ j (hj : j < ts.length), j < kk → ts[j].data.toList ≠ x.data.toList))
  case atStart => exact ⟨0, Nat.zero_le _, by omega, rfl, rfl, (show Aside _ from fun j _ hj => absurd hj (Nat.not_lt_zero _))⟩
  case round =>
    obtain ⟨kk, hkk, hg, rfl, rfl, A⟩ := hrel
    by_cases hlt : kk < n
    · have hltz : (kk : Int) < (n : Int) := by omega
      have hk2 : kk < ts.length := by rw [HN.out]; exact hlt
      obtain ⟨b, off, rfl, hbl, hce⟩ := sts_some HS.out hk2
      have hcell := hce kk hk2
      clear hce
      generalize hy : ts[kk] = y at hcell
      have HY : Hid (ts[kk] = y) := hy
      clear hy
      by_cases he : y.data.toList = x.data.toList
      · have hq : (x.toList == y.toList) = true := by rw [Lib.toList_data, Lib.toList_data]; simpa using he.symm
        have hq2 : (y.toList == x.toList) = true := by rw [Lib.toList_data, Lib.toList_data]; simpa using he
        go_wp2
        go_ret
        refine ⟨kk, rfl, ?_, rfl⟩
        show _ = _
        rw [← HR.out, sts_hit hk2 (by rw [HY.out]; exact he)]
        simp
      · have he2 : ¬ x.data.toList = y.data.toList := fun h => he h.symm
        have hq : (x.toList == y.toList) = false := by rw [Lib.toList_data, Lib.toList_data]; simpa using he2
        have hq2 : (y.toList == x.toList) = false := by rw [Lib.toList_data, Lib.toList_data]; simpa using he
        go_wp2
        go_roundg (n - (kk + 1))
        case measure => omega
        case rel =>
          refine ⟨kk + 1, by omega, by omega, by go_num, rfl, (show Aside _ from fun j hj hjk => ?_)⟩
          by_cases e : j = kk
          · subst e
            rw [HY.out]; exact he
          · exact A.out j hj (by omega)
    · have hltz : ¬ (kk : Int) < (n : Int) := by omega
      go_wp2
      go_ret
      refine ⟨-1, rfl, ?_, rfl⟩
      show _ = _
      rw [← HR.out, sts_miss (fun j hj => A.out j hj (by have := HN.out; omega))]
      rfl
/-- A list of texts is asked for one. -/
theorem contains_sts (x : ByteArray) (p : Option Addr) (n c : Nat) (ts : List ByteArray) (w : World) (hn : ts.length = n) (h : StsA w (.slice p n c) ts) (h100 : n ≤ 100) :
    Calls Tryz.prog 120 #[.slice p n c, .string x] w fun e w' => e = .returned (.bool (ts.any fun a => a.data.toList == x.data.toList)) ∧ w' = w := by
  have cI := index_sts x p n c ts w hn h h100
  generalize (ts.any fun a => a.data.toList == x.data.toList) = R at cI
  clear h hn
  go_enter Tryz.func120, Tryz.ntmps120
  go_wp2_with fail
  refine cI.mono ?_
  rintro e w' ⟨n, rfl, HR, rfl⟩
  go_wp2
  go_ret
  exact ⟨ret_bool HR.out, rfl⟩
set_option maxHeartbeats 2000000 in
theorem typeOfGroup_q (g : ByteArray) (p : Option Addr) (n c : Nat) (ts : List ByteArray) (vl : Value) (zs : List Cl) (w : World) (hn : ts.length = n) (hst : StsA w (.slice p n c) ts) (h100 : n ≤ 100) (hcv : ColsV w vl zs) (hz : zs.length ≠ 0) (h6 : zs.length ≤ 6) (T E : Int) (hR : grT zs ts g = (T, E)) :
    Calls Tryz.prog 104 #[.string g, .slice p n c, vl] w fun e w' => e = .returned (.tuple #[.int .i64 T, errV E]) ∧ Below w.heap.size w w' := by
  obtain ⟨q, cc, rfl, hc⟩ := hcv
  rcases hc with h0 | ⟨b, off, rfl, hcap, hsz, hin⟩
  · exact absurd h0 hz
  rw [grT] at hR
  have cC := fun W (hb : Below w.heap.size w W) => contains_sts g p n c ts W hn (hst.on hb) h100
  generalize (ts.any fun a => a.data.toList == g.data.toList) = R at cC hR
  rcases findN_cases g.data.toList zs with ⟨hf, -⟩ | ⟨k, hf, hk, -⟩
  · have cF := find_none g b off cc zs w (by omega) hin hf
    rw [hf, if_pos (by decide)] at hR
    obtain ⟨rfl, rfl⟩ := Prod.mk.inj hR
    rw [errV, if_neg (by decide)]
    clear hin hst
    generalize zs.length = NZ at cF hcap ⊢
    go_enter Tryz.func104, Tryz.ntmps104
    go_wp2_with fail
    refine cF.mono ?_
    rintro e w1 ⟨rfl, b1⟩
    go_wp2
    go_ret2
    exact ⟨rfl, b1⟩
  · have cF := find_any g b off cc zs w (by omega) hin k hf
    rw [hf, if_neg (by omega)] at hR
    have hcell := (hin.2 k hk).2
    have hbl := hin.1
    have hg : (zs[(k : Int).toNat]?.getD (⟨#[]⟩, 0)).2 = zs[k].2 := by simp [List.getElem?_eq_getElem hk]
    rw [hg] at hR
    generalize zs[k].2 = TT at hcell hR
    have hkz : (k : Int) < (zs.length : Int) := by omega
    have h0z : (0 : Int) ≤ (k : Int) := by omega
    clear hin hst hg hsz
    generalize zs.length = NZ at cF hcap hkz ⊢
    cases R
    · rw [if_neg (by decide)] at hR
      obtain ⟨rfl, rfl⟩ := Prod.mk.inj hR
      rw [errV, if_pos rfl]
      go_enter Tryz.func104, Tryz.ntmps104
      go_wp2_with fail
      refine cF.mono ?_
      rintro e w1 ⟨rfl, b1⟩
      go_wp2_with fail
      refine (cC _ b1).mono ?_
      rintro e w2 ⟨rfl, rfl⟩
      rw [← b1.cell (p := ⟨b, off + k * 2 + 1, none⟩) hbl] at hcell
      go_wp2
      go_ret2
      exact ⟨rfl, b1⟩
    · rw [if_pos rfl] at hR
      obtain ⟨rfl, rfl⟩ := Prod.mk.inj hR
      rw [errV, if_neg (by decide)]
      go_enter Tryz.func104, Tryz.ntmps104
      go_wp2_with fail
      refine cF.mono ?_
      rintro e w1 ⟨rfl, b1⟩
      go_wp2_with fail
      refine (cC _ b1).mono ?_
      rintro e w2 ⟨rfl, rfl⟩
      go_wp2
      go_ret2
      exact ⟨rfl, b1⟩
/-- An aggregate's nine cells. -/
abbrev agV (a : Ag) (ap : Option Addr) (ac : Nat) : Value := .agg #[.string a.what, .string a.arg.op, .string a.arg.nm, .int .i64 a.arg.vt, .int .i64 a.arg.vn, .string a.arg.vs, .slice ap a.arg.args.length ac, .int .i64 a.arg.pos, .string a.name]
end Go.Proofs.YticdcnbeemkapaaGreatDoor
namespace Go.Proofs.YticdcnbeemkapaaGreatDoor
open Go.RowKit Go.BigFrame
set_option linter.unusedVariables false
set_option linter.unusedSimpArgs false

theorem ofT_form (zs : List Cl) (x : Ex) : ∃ T E, ofT zs x = (T, E) ∧ ((ofP zs x).2.1 = E) ∧ (E = 0 → (ofP zs x).1 = T) ∧ (E ≠ 0 → T = 0) := by
  rw [ofT]
  split
  · rename_i h
    exact ⟨_, _, rfl, rfl, fun h0 => absurd h0 h, fun _ => rfl⟩
  · rename_i h
    exact ⟨_, _, rfl, Classical.not_not.1 h, fun _ => rfl, fun h0 => absurd rfl h0⟩
set_option maxHeartbeats 4000000 in
set_option maxRecDepth 20000 in
theorem typeOfAgg_q (a : Ag) (lo : Nat → Prop) (ap : Option Addr) (ac : Nat) (vl : Value) (zs : List Cl) (w : World) (henv : KEnv w) (haenv : AEnv w) (hx : ExIn w lo (exV a.arg ap ac) a.arg) (hsz : (a.arg.pre 1).length ≤ 1048576) (hcv : ColsV w vl zs) (T E : Int) (hR : agQ zs a = (T, E)) :
    Calls Tryz.prog 105 #[agV a ap ac, vl] w fun e w' => e = .returned (.tuple #[.int .i64 T, errV E]) ∧ Below w.heap.size w w' := by
  have b1 := fun o => (Below.refl w.heap.size w).alloc (Nat.le_refl _) o
  obtain ⟨q, c, rfl⟩ := cols_form hcv
  obtain ⟨T1, E1, h1, h2, h3, h4⟩ := ofT_form zs a.arg
  rw [agQ, h2] at hR
  obtain ⟨what, ⟨op, nm, vt, vn, vs, pos, l⟩, name⟩ := a
  have cA := fun o => isAgg_any what (w.alloc o) (haenv.on (b1 o))
  have cN := fun o => isNothing_any _ lo _ (w.alloc o) (hx.on (b1 o))
  have cT := fun o => typeOf_q _ lo _ _ zs (w.alloc o) (henv.on (b1 o)) (hx.on (b1 o)) hsz (hcv.on (b1 o)) T1 E1 h1
  simp only [Ex.op, Ex.nm, Ex.vt, Ex.vn, Ex.vs, Ex.args, Ex.pos] at cA cN cT hR ⊢
  clear hx hcv henv haenv h1
  generalize zs.length = NZ at cT ⊢
  have H3 : Hid (E1 = 0 → (ofP zs (.node op nm vt vn vs pos l)).1 = T1) := h3
  have H4 : Hid (E1 ≠ 0 → T1 = 0) := h4
  clear h2 h3 h4
  generalize noOp (.node op nm vt vn vs pos l) = NO at cN hR
  generalize (ofP zs (.node op nm vt vn vs pos l)).1 = T2 at hR H3
  generalize l.length = NL at cN cT ⊢
  cases hI : isAg what.data.toList
  · rw [hI] at cA
    rw [hI, if_pos rfl] at hR
    obtain ⟨rfl, rfl⟩ := Prod.mk.inj hR
    rw [errV, if_neg (by decide)]
    go_enter Tryz.func105, Tryz.ntmps105
    go_wp2_with fail
    refine (cA _).mono ?_
    rintro e w1 ⟨rfl, rfl⟩
    clear cA cN cT
    go_wp2
    go_ret2
    exact ⟨rfl, b1 _⟩
  · rw [hI] at cA
    rw [hI, if_neg (by decide)] at hR
    by_cases hC : what.data.toList = wCount
    · rw [if_pos hC] at hR
      have hq : (what.toList == [99, 111, 117, 110, 116]) = true := by rw [Lib.toList_data]; simpa using hC
      cases NO
      · rw [if_neg (by decide)] at hR
        obtain ⟨rfl, rfl⟩ := Prod.mk.inj hR
        rw [errV, if_neg (by decide)]
        go_enter Tryz.func105, Tryz.ntmps105
        go_wp2_with fail
        refine (cA _).mono ?_
        rintro e w1 ⟨rfl, rfl⟩
        go_wp2_with fail
        refine (cN _).mono ?_
        rintro e w2 ⟨rfl, b2⟩
        clear cA cN cT
        go_wp2
        go_ret2
        exact ⟨rfl, (b1 _).trans (b2.mono (by simp))⟩
      · rw [if_pos rfl] at hR
        obtain ⟨rfl, rfl⟩ := Prod.mk.inj hR
        rw [errV, if_pos rfl]
        go_enter Tryz.func105, Tryz.ntmps105
        go_wp2_with fail
        refine (cA _).mono ?_
        rintro e w1 ⟨rfl, rfl⟩
        go_wp2_with fail
        refine (cN _).mono ?_
        rintro e w2 ⟨rfl, b2⟩
        have k0 := b2.cell (p := ⟨w.heap.size, 0, none⟩) (by simp)
        rw [World.cell?_alloc_at _ _ _ _ rfl] at k0
        simp at k0
        have hl : w.heap.size < w2.heap.size := by have := b2.size; simp at this; omega
        clear cA cN cT
        go_wp2
        go_ret2
        exact ⟨rfl, (b1 _).trans (b2.mono (by simp))⟩
    · rw [if_neg hC] at hR
      have hq : (what.toList == [99, 111, 117, 110, 116]) = false := by rw [Lib.toList_data]; simpa using hC
      by_cases hE : E1 = 0
      · subst hE
        obtain rfl := H3.out rfl
        rw [if_neg (by simp)] at hR
        rw [errV, if_pos rfl] at cT
        by_cases hS : what.data.toList = [115, 117, 109]
        · have hq2 : (what.toList == [115, 117, 109]) = true := by rw [Lib.toList_data]; simpa using hS
          by_cases hT : T2 = 1
          · subst hT
            rw [if_neg (by simp)] at hR
            obtain ⟨rfl, rfl⟩ := Prod.mk.inj hR
            rw [errV, if_pos rfl]
            go_enter Tryz.func105, Tryz.ntmps105
            go_wp2_with fail
            refine (cA _).mono ?_
            rintro e w1 ⟨rfl, rfl⟩
            go_wp2_with fail
            refine (cT _).mono ?_
            rintro e w2 ⟨rfl, b2⟩
            have k0 := b2.cell (p := ⟨w.heap.size, 0, none⟩) (by simp)
            rw [World.cell?_alloc_at _ _ _ _ rfl] at k0
            simp at k0
            have hl : w.heap.size < w2.heap.size := by have := b2.size; simp at this; omega
            clear cA cN cT
            go_wp2
            go_ret2
            exact ⟨rfl, (b1 _).trans (b2.mono (by simp))⟩
          · rw [if_pos ⟨hS, hT⟩] at hR
            obtain ⟨rfl, rfl⟩ := Prod.mk.inj hR
            rw [errV, if_neg (by decide)]
            have hb : (T2 != 1) = true := by simpa using hT
            go_enter Tryz.func105, Tryz.ntmps105
            go_wp2_with fail
            refine (cA _).mono ?_
            rintro e w1 ⟨rfl, rfl⟩
            go_wp2_with fail
            refine (cT _).mono ?_
            rintro e w2 ⟨rfl, b2⟩
            have k0 := b2.cell (p := ⟨w.heap.size, 0, none⟩) (by simp)
            rw [World.cell?_alloc_at _ _ _ _ rfl] at k0
            simp at k0
            have hl : w.heap.size < w2.heap.size := by have := b2.size; simp at this; omega
            clear cA cN cT
            go_wp2
            go_ret2
            exact ⟨rfl, (b1 _).trans (b2.mono (by simp))⟩
        · have hq2 : (what.toList == [115, 117, 109]) = false := by rw [Lib.toList_data]; simpa using hS
          rw [if_neg (fun h => hS h.1)] at hR
          obtain ⟨rfl, rfl⟩ := Prod.mk.inj hR
          rw [errV, if_pos rfl]
          go_enter Tryz.func105, Tryz.ntmps105
          go_wp2_with fail
          refine (cA _).mono ?_
          rintro e w1 ⟨rfl, rfl⟩
          go_wp2_with fail
          refine (cT _).mono ?_
          rintro e w2 ⟨rfl, b2⟩
          have k0 := b2.cell (p := ⟨w.heap.size, 0, none⟩) (by simp)
          rw [World.cell?_alloc_at _ _ _ _ rfl] at k0
          simp at k0
          have hl : w.heap.size < w2.heap.size := by have := b2.size; simp at this; omega
          clear cA cN cT
          go_wp2
          go_ret2
          exact ⟨rfl, (b1 _).trans (b2.mono (by simp))⟩
      · obtain rfl := H4.out hE
        rw [if_pos hE] at hR
        obtain ⟨rfl, rfl⟩ := Prod.mk.inj hR
        rw [errV, if_neg hE] at cT
        rw [errV, if_neg hE]
        go_enter Tryz.func105, Tryz.ntmps105
        go_wp2_with fail
        refine (cA _).mono ?_
        rintro e w1 ⟨rfl, rfl⟩
        go_wp2_with fail
        refine (cT _).mono ?_
        rintro e w2 ⟨rfl, b2⟩
        have k0 := b2.cell (p := ⟨w.heap.size, 0, none⟩) (by simp)
        rw [World.cell?_alloc_at _ _ _ _ rfl] at k0
        simp at k0
        have hl : w.heap.size < w2.heap.size := by have := b2.size; simp at this; omega
        clear cA cN cT
        go_wp2
        go_ret2
        exact ⟨rfl, (b1 _).trans (b2.mono (by simp))⟩
set_option maxHeartbeats 2000000 in
theorem checkWhere_q (x : Ex) (lo : Nat → Prop) (v vl : Value) (zs : List Cl) (w : World) (henv : KEnv w) (hx : ExIn w lo v x) (hsz : (x.pre 1).length ≤ 1048576) (hcv : ColsV w vl zs) (E : Int) (hR : whQ zs x = E) :
    Calls Tryz.prog 42 #[v, vl] w fun e w' => e = .returned (errV E) ∧ Below w.heap.size w w' := by
  have b1 := fun o => (Below.refl w.heap.size w).alloc (Nat.le_refl _) o
  obtain ⟨q, c, rfl⟩ := cols_form hcv
  obtain ⟨xp, xc, hxe, -⟩ := id hx.whole
  obtain ⟨T1, E1, h1, h2, h3, h4⟩ := ofT_form zs x
  rw [whQ, h2] at hR
  have cN := fun o => isNothing_any x lo v (w.alloc o) (hx.on (b1 o))
  have cT := fun o W (hb : Below w.heap.size (w.alloc o) W) => typeOf_q x lo v _ zs W (henv.on ((b1 o).trans hb)) (hx.on ((b1 o).trans hb)) hsz (hcv.on ((b1 o).trans hb)) T1 E1 h1
  clear hx hcv henv h1
  subst hxe
  obtain ⟨op, nm, vt, vn, vs, pos, l⟩ := x
  simp only [Ex.op, Ex.nm, Ex.vt, Ex.vn, Ex.vs, Ex.args, Ex.pos] at cN cT hR ⊢
  generalize zs.length = NZ at cT ⊢
  have H3 : Hid (E1 = 0 → (ofP zs (.node op nm vt vn vs pos l)).1 = T1) := h3
  clear h2 h3 h4
  generalize noOp (.node op nm vt vn vs pos l) = NO at cN hR
  generalize (ofP zs (.node op nm vt vn vs pos l)).1 = T2 at hR H3
  generalize l.length = NL at cN cT ⊢
  cases NO
  · rw [if_neg (by decide)] at hR
    by_cases hE : E1 = 0
    · subst hE
      obtain rfl := H3.out rfl
      rw [if_neg (by simp)] at hR
      by_cases hT : T2 = 2
      · subst hT
        rw [if_neg (by simp)] at hR
        subst hR
        rw [errV, if_pos rfl] at cT ⊢
        go_enter Tryz.func42, Tryz.ntmps42
        go_wp2_with fail
        refine (cN _).mono ?_
        rintro e w1 ⟨rfl, b2⟩
        have kk := fun i => b2.cell (p := ⟨w.heap.size, i, none⟩) (by simp)
        have k0 := kk 0
        have k1 := kk 1
        have k2 := kk 2
        have k3 := kk 3
        have k4 := kk 4
        have k5 := kk 5
        have k6 := kk 6
        rw [World.cell?_alloc_at _ _ _ _ rfl] at k0 k1 k2 k3 k4 k5 k6
        simp at k0 k1 k2 k3 k4 k5 k6
        have hl : w.heap.size < w1.heap.size := by have := b2.size; simp at this; omega
        have c2 := cT _ w1 (b2.mono (by simp))
        clear cN cT kk
        go_wp2_with fail
        refine c2.mono ?_
        rintro e w2 ⟨rfl, b3⟩
        go_wp2
        go_ret
        exact ⟨rfl, ((b1 _).trans (b2.mono (by simp))).trans (b3.mono (by have := b2.size; simp at this; omega))⟩
      · rw [if_pos hT] at hR
        subst hR
        have hb : (T2 != 2) = true := by simpa using hT
        rw [errV, if_pos rfl] at cT
        rw [errV, if_neg (by decide)]
        go_enter Tryz.func42, Tryz.ntmps42
        go_wp2_with fail
        refine (cN _).mono ?_
        rintro e w1 ⟨rfl, b2⟩
        have kk := fun i => b2.cell (p := ⟨w.heap.size, i, none⟩) (by simp)
        have k0 := kk 0
        have k1 := kk 1
        have k2 := kk 2
        have k3 := kk 3
        have k4 := kk 4
        have k5 := kk 5
        have k6 := kk 6
        rw [World.cell?_alloc_at _ _ _ _ rfl] at k0 k1 k2 k3 k4 k5 k6
        simp at k0 k1 k2 k3 k4 k5 k6
        have hl : w.heap.size < w1.heap.size := by have := b2.size; simp at this; omega
        have c2 := cT _ w1 (b2.mono (by simp))
        clear cN cT kk
        go_wp2_with fail
        refine c2.mono ?_
        rintro e w2 ⟨rfl, b3⟩
        go_wp2
        go_ret
        exact ⟨rfl, ((b1 _).trans (b2.mono (by simp))).trans (b3.mono (by have := b2.size; simp at this; omega))⟩
    · rw [if_pos hE] at hR
      subst hR
      rw [errV, if_neg hE] at cT ⊢
      go_enter Tryz.func42, Tryz.ntmps42
      go_wp2_with fail
      refine (cN _).mono ?_
      rintro e w1 ⟨rfl, b2⟩
      have kk := fun i => b2.cell (p := ⟨w.heap.size, i, none⟩) (by simp)
      have k0 := kk 0
      have k1 := kk 1
      have k2 := kk 2
      have k3 := kk 3
      have k4 := kk 4
      have k5 := kk 5
      have k6 := kk 6
      rw [World.cell?_alloc_at _ _ _ _ rfl] at k0 k1 k2 k3 k4 k5 k6
      simp at k0 k1 k2 k3 k4 k5 k6
      have hl : w.heap.size < w1.heap.size := by have := b2.size; simp at this; omega
      have c2 := cT _ w1 (b2.mono (by simp))
      clear cN cT kk
      go_wp2_with fail
      refine c2.mono ?_
      rintro e w2 ⟨rfl, b3⟩
      go_wp2
      go_ret
      exact ⟨rfl, ((b1 _).trans (b2.mono (by simp))).trans (b3.mono (by have := b2.size; simp at this; omega))⟩
  · rw [if_pos rfl] at hR
    subst hR
    rw [errV, if_pos rfl]
    go_enter Tryz.func42, Tryz.ntmps42
    go_wp2_with fail
    refine (cN _).mono ?_
    rintro e w1 ⟨rfl, b2⟩
    clear cN cT
    go_wp2
    go_ret
    exact ⟨rfl, (b1 _).trans (b2.mono (by simp))⟩
end Go.Proofs.YticdcnbeemkapaaGreatDoor
namespace Go.Proofs.YticdcnbeemkapaaGreatDoor
open Go.RowKit
set_option linter.unusedVariables false

theorem info_intA : (Tryz.prog.info? 3).map (fun i => (i.zero, i.size, i.bytes)) = some (some (.int .i64 0), 1, 8) := by kernel_rfl
def intC (ts : List Int) : List Value := ts.map fun t => .int .i64 t
/-- Numbers one behind the other; none of them, and they may lie nowhere. -/
def IntA (w : World) (v : Value) (ts : List Int) : Prop := ∃ p c, v = .slice p ts.length c ∧ (ts.length ≤ c ∧ ts.length ≤ 1048576) ∧ (p = none → c = 0) ∧ ∀ a, p = some a → ∃ g off, a = ⟨g, off, none⟩ ∧ g < w.heap.size ∧ ∀ j (h : j < ts.length), w.cell? ⟨g, off + j, none⟩ = some (.int .i64 ts[j])
theorem IntA.on {w w' : World} {v : Value} {ts : List Int} (h : IntA w v ts) (hb : Below w.heap.size w w') : IntA w' v ts := by
  obtain ⟨p, c, e, h1, h2, h3⟩ := h
  refine ⟨p, c, e, h1, h2, fun a ha => ?_⟩
  obtain ⟨g, off, e2, h5, h6⟩ := h3 a ha
  exact ⟨g, off, e2, by have := hb.size; omega, fun j hj => by rw [hb.cell (p := ⟨g, off + j, none⟩) h5]; exact h6 j hj⟩
theorem IntA.nil (w : World) : IntA w (.slice none 0 0) [] := ⟨none, 0, rfl, ⟨Nat.le_refl _, Nat.zero_le _⟩, fun _ => rfl, fun a h => nomatch h⟩
theorem ints_own {w : World} {B : Nat} {v : Value} {n : Nat} {ts : List Int} (hn : ts.length = n) (hl : n ≤ 1048576) (h : w.ownsRow B 3 1 v n (intC ts)) : IntA w v ts := by
  subst hn
  rcases id h.2 with ⟨rfl, e⟩ | ⟨g, cap, cur, rfl, hb, hg, hm, hx, hs, ht⟩
  · exact ⟨none, 0, by rw [e], ⟨by omega, by omega⟩, fun _ => rfl, fun a ha => nomatch ha⟩
  · refine ⟨some ⟨g, 0, none⟩, cap, rfl, ⟨by omega, hl⟩, (fun hp => nomatch hp), fun a ha => ?_⟩
    injection ha with ha
    subst ha
    refine ⟨g, 0, rfl, (Array.getElem?_eq_some_iff.1 hg).1, fun j hj => ?_⟩
    have := h.cells (g := g) rfl j (.int .i64 ts[j]) (by rw [intC, List.getElem?_map, List.getElem?_eq_getElem hj]; rfl)
    rw [Go.WideShapes.add_plain] at this
    exact this
theorem ints_some {w : World} {q : Option Addr} {n c m : Nat} {bs : List Int} (h : IntA w (.slice q n c) bs) (hm : m < bs.length) : ∃ g off, q = some ⟨g, off, none⟩ ∧ g < w.heap.size ∧ ∀ j (h : j < bs.length), w.cell? ⟨g, off + j, none⟩ = some (.int .i64 bs[j]) := by
  obtain ⟨p', c', e, ⟨h1, h64⟩, h2, h3⟩ := h
  injection e with e1 e2 e3
  subst e1 e3
  cases q with
  | none => have := h2 rfl; omega
  | some a =>
    obtain ⟨g, off, rfl, h5, h6⟩ := h3 a rfl
    exact ⟨g, off, rfl, h5, h6⟩
theorem ints_slice_l {w : World} {p : Option Addr} {n c l : Nat} {ts : List Int} (h : IntA w (.slice p n c) ts) (hn : ts.length = n) (hl : l ≤ n) : ∃ p1 c1, (∀ W, Sem.run Tryz.prog (Instr.slice 77 (.slice p n c) (some (.int .i64 (l : Int))) none none) W = .ok (.slice p1 (n - l) c1) W) ∧ IntA w (.slice p1 (n - l) c1) (ts.drop l) := by
  subst hn
  obtain ⟨p', c', e, ⟨h1, h64⟩, h2, h3⟩ := h
  injection e with e1 e2 e3
  subst e1 e3
  have hr : ∀ W, Sem.run Tryz.prog (Instr.slice 77 (.slice p ts.length c) (some (.int .i64 (l : Int))) none none) W = .ok (sliced p l ts.length c 1) W := fun W => by
    have g0 : (0 : Int) ≤ (l : Int) := by omega
    have g1 : (l : Int) ≤ (ts.length : Int) := by omega
    have g2 : Sem.run Tryz.prog (Go.sizeOf (Tryz.prog.elem 77)) W = .ok 1 W := by kernel_rfl
    rw [run_slice_l W 77 p ts.length c (by kernel_rfl) .i64 l g0 g1, g2]
    rfl
  by_cases hcl : c = l
  · refine ⟨p, c - l, fun W => by rw [hr W, sliced, if_pos hcl], p, c - l, by rw [List.length_drop], ⟨by rw [List.length_drop]; omega, by rw [List.length_drop]; omega⟩, fun hp => by have := h2 hp; omega, fun a ha => ?_⟩
    obtain ⟨g, off, e2, h5, h6⟩ := h3 a ha
    exact ⟨g, off, e2, h5, fun j hj => absurd hj (by rw [List.length_drop]; omega)⟩
  · cases p with
    | none => exact absurd (h2 rfl) (by omega)
    | some a =>
      obtain ⟨g, off, rfl, h5, h6⟩ := h3 a rfl
      refine ⟨some ⟨g, off + l * 1, none⟩, c - l, fun W => by rw [hr W, sliced, if_neg hcl, Option.map_some, Go.WideShapes.add_plain], some ⟨g, off + l * 1, none⟩, c - l, by rw [List.length_drop], ⟨by rw [List.length_drop]; omega, by rw [List.length_drop]; omega⟩, (fun hp => nomatch hp), fun a ha => ?_⟩
      injection ha with ha
      subst ha
      refine ⟨g, off + l * 1, rfl, h5, fun j hj => ?_⟩
      rw [List.length_drop] at hj
      have := h6 (l + j) (by omega)
      rw [List.getElem_drop, show off + l * 1 + j = off + (l + j) by omega]
      exact this
theorem ints_slice_h {w : World} {p : Option Addr} {n c l : Nat} {ts : List Int} (h : IntA w (.slice p n c) ts) (hn : ts.length = n) (hl : l ≤ n) : ∃ p1 c1, (∀ W, Sem.run Tryz.prog (Instr.slice 77 (.slice p n c) none (some (.int .i64 (l : Int))) none) W = .ok (.slice p1 l c1) W) ∧ IntA w (.slice p1 l c1) (ts.take l) := by
  subst hn
  obtain ⟨p', c', e, ⟨h1, h64⟩, h2, h3⟩ := h
  injection e with e1 e2 e3
  subst e1 e3
  have hr : ∀ W, Sem.run Tryz.prog (Instr.slice 77 (.slice p ts.length c) none (some (.int .i64 (l : Int))) none) W = .ok (sliced p 0 l c 1) W := fun W => by
    have g0 : (0 : Int) ≤ (l : Int) := by omega
    have g1 : (l : Int) ≤ (c : Int) := by omega
    have g2 : Sem.run Tryz.prog (Go.sizeOf (Tryz.prog.elem 77)) W = .ok 1 W := by kernel_rfl
    rw [run_slice_h W 77 p ts.length c (by kernel_rfl) .i64 l g0 g1, g2]
    rfl
  have hlen : (ts.take l).length = l := by rw [List.length_take]; omega
  refine ⟨p, c, fun W => ?_, p, c, by rw [hlen], ⟨by omega, by omega⟩, h2, fun a ha => ?_⟩
  · rw [hr W, sliced]
    cases p with
    | none => simp
    | some a =>
      obtain ⟨g, off, rfl, -⟩ := h3 a rfl
      simp [Addr.add]
  · obtain ⟨g, off, e2, h5, h6⟩ := h3 a ha
    refine ⟨g, off, e2, h5, fun j hj => ?_⟩
    rw [List.getElem_take]
    exact h6 j (by omega)
/-- append of a list of numbers, which may lie nowhere, to one's own. -/
theorem wpList_append_ints {w : World} {ops : Array Oper} {rest : List Oper} {o : Oper} {a : Act} {Q : Exit → Act → World → Prop} (hgd : o.guard = none) (s x : Operand)
    (ho : o.op = .call { callee := .builtin .append, args := #[s, x], argTypes := #[77, 77] })
    (base : Nat) (v : Value) (n : Nat) (xs : List Int) (hs : a.eval s = v) (hown : w.ownsRow base 3 1 v n (intC xs))
    (u : Value) (ts : List Int) (hx : a.eval x = u) (hst : IntA w u ts) (n' : Nat) (cs' : List Value) (hn' : n + ts.length = n') (hcs : intC (xs ++ ts) = cs') (hsm : n' ≤ 1048576) (hbase : base ≤ w.heap.size)
    (h : ∀ v' w', w'.ownsRow base 3 1 v' n' cs' → Below base w w' → wpList Tryz.prog ops Q rest (a.put o.dst v') w') : wpList Tryz.prog ops Q (o :: rest) a w := by
  subst hn' hcs
  obtain ⟨i0, hi, hz0, hz1, hzz⟩ := info_parts info_intA
  obtain ⟨p, c, rfl, h1, h2, h3⟩ := hst
  cases p with
  | none =>
    have hc := h2 rfl
    subst hc
    have hl : ts.length = 0 := by omega
    have : ts = [] := List.length_eq_zero_iff.1 hl
    subst this
    refine wpList_append_own_none hgd s x 77 ho base 3 i0 1 Tryz.underlying77 hi v n (intC xs) hs hown hx (h v w ?_ (Below.refl _ _))
    simpa using hown
  | some ad =>
    obtain ⟨g, off, rfl, h5, h6⟩ := h3 ad rfl
    refine wpList_append_own w hgd s x 77 ho base 3 i0 (.int .i64 0) 1 8 Tryz.underlying77 hi hz0 hz1 hzz rfl (by decide) v n (intC xs) hs hown ⟨g, off, none⟩ ts.length c (intC ts) hx (by simp [intC]) (fun j y hy => ?_) (fun y hy => ?_) (by unfold maxLen; omega) (by omega) hbase (fun v' w' o1 o2 _ => ?_)
    · rw [intC, List.getElem?_map] at hy
      obtain ⟨t, ht, rfl⟩ := Option.map_eq_some_iff.1 hy
      obtain ⟨hj, rfl⟩ := List.getElem?_eq_some_iff.1 ht
      rw [Go.WideShapes.add_plain]
      exact h6 j hj
    · rw [intC, List.mem_map] at hy
      obtain ⟨t, _, rfl⟩ := hy
      rfl
    · refine h v' w' ?_ ((Below.refl _ w).grown o2 hbase (fun j hj => (hown.lt j hj).1))
      rw [intC, List.map_append]; exact o1
theorem ints_one (w : World) (s : Int) (g : Nat) (hg : g = w.heap.size) : IntA (w.alloc (.cells #[.int .i64 s] 3)) (.slice (some ⟨g, 0, none⟩) 1 1) [s] := by
  subst hg
  refine ⟨_, 1, rfl, ⟨Nat.le_refl _, by simp⟩, (fun hp => nomatch hp), fun a ha => ?_⟩
  injection ha with ha
  subst ha
  refine ⟨w.heap.size, 0, rfl, by simp, fun j hj => ?_⟩
  obtain rfl : j = 0 := by simp at hj; omega
  rw [World.cell?_alloc_at _ _ _ _ rfl]; rfl
theorem ints_form {w : World} {v : Value} {ts : List Int} (h : IntA w v ts) : ∃ q c, v = .slice q ts.length c := by
  obtain ⟨p, c, e, -⟩ := h
  exact ⟨p, c, e⟩
theorem own_form {w : World} {B : Nat} {e : TypeId} {size n : Nat} {v : Value} {xs : List Value} (h : w.ownsRow B e size v n xs) : ∃ q c, v = .slice q n c := by
  rcases h.2 with ⟨rfl, rfl⟩ | ⟨g, cap, cur, rfl, _⟩
  · exact ⟨_, _, rfl⟩
  · exact ⟨_, _, rfl⟩
end Go.Proofs.YticdcnbeemkapaaGreatDoor
namespace Go.Proofs.YticdcnbeemkapaaGreatDoor
open Go.RowKit
set_option linter.unusedVariables false

/-- A machine's number. -/
def inM (x : Int) : Prop := -9223372036854775808 ≤ x ∧ x ≤ 9223372036854775807
def ChkC : Prop := ∀ (size slide : Int) (w : World), inM size → inM slide → Calls Tryz.prog 72 #[.int .i64 size, .int .i64 slide] w fun e w' => e = .returned (errV (wdE size slide)) ∧ Below w.heap.size w w'
def StC : Prop := ∀ (at_ size slide : Int) (w : World), inM at_ → inM size → inM slide → Calls Tryz.prog 49 #[.int .i64 at_, .int .i64 size, .int .i64 slide] w fun e w' => (∃ u, e = .returned (.tuple #[u, errV (stE at_ size slide)]) ∧ IntA w' u (if stE at_ size slide = 0 then stP at_ size slide else [])) ∧ Below w.heap.size w w'
theorem one_ne : ¬ (1 : Int) = 0 := by decide
theorem four_ne : ¬ (4 : Int) = 0 := by decide
theorem wd_zero {size slide : Int} (h : wdB size slide) : wdE size slide = 0 := by rw [wdE, if_pos h]
theorem wd_one {size slide : Int} (h : ¬ wdB size slide) : wdE size slide = 1 := by rw [wdE, if_neg h]
theorem st_zero {at_ size slide : Int} (h : wdB size slide) (h2 : 0 ≤ at_ ∧ at_ ≤ 1000000) : stE at_ size slide = 0 := by rw [stE, if_pos ⟨h, h2⟩]
theorem st_one {at_ size slide : Int} (h : ¬ (wdB size slide ∧ 0 ≤ at_ ∧ at_ ≤ 1000000)) : stE at_ size slide = 1 := by rw [stE, if_neg h]
theorem dn_zero {a b size slide : Int} (h : wdB size slide) (h2 : dnR a b) (h3 : dnN a b size slide ≤ 300) : dnE a b size slide = 0 := by rw [dnE, if_pos ⟨h, h2⟩, if_neg (by omega)]
theorem dn_four {a b size slide : Int} (h : wdB size slide) (h2 : dnR a b) (h3 : ¬ dnN a b size slide ≤ 300) : dnE a b size slide = 4 := by rw [dnE, if_pos ⟨h, h2⟩, if_pos (by omega)]
theorem dn_one {a b size slide : Int} (h : ¬ (wdB size slide ∧ dnR a b)) : dnE a b size slide = 1 := by rw [dnE, if_neg h]
end Go.Proofs.YticdcnbeemkapaaGreatDoor
