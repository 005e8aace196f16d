/-
  TreeQs, QrM, QrN, QrO, QrP, QrQ, in one text.
-/
import Derived.Test.YtkbhmghdonomnaaGreatDoorZTreeWk
import Derived.Test.YtkbhmghdonomnaaGreatDoorZQrL
import Derived.Test.YtkbhmghdonomnaaGreatDoorZQuC4
import Derived.Test.YtkbhmghdonomnaaGreatDoorGzAc
import Derived.Deep.LoopGhost
import Derived.Laws.AppendOwnNone
import Derived.Test.YtkbhmghdonomnaaGreatDoorGzAp
namespace Go.Proofs.YtkbhmghdonomnaaGreatDoor
open Go.RowKit
set_option linter.unusedVariables false
--BEGIN
theorem pres_len_of {l : List Ex} (h : ∀ y ∈ l, ∀ d, (y.pre d).length = y.size) (d : Nat) : (Ex.pres d l).length = Ex.sizes l := by
 induction l with
 | nil => rw [Ex.pres, Ex.sizes]; rfl
 | cons x xs ih =>
  rw [Ex.pres, Ex.sizes, List.length_append, h x List.mem_cons_self, ih (fun y hy => h y (List.mem_cons_of_mem _ hy))]
theorem pre_len : ∀ (x : Ex) (d : Nat), (x.pre d).length = x.size := by
 refine Ex.ind fun op nm vt vn vs pos args ih d => ?_
 rw [Ex.pre, Ex.size, List.length_cons, pres_len_of ih]; omega
def Szd (sub : List Tok → Option Ex × List Tok) : Prop := ∀ ts y, (sub ts).1 = some y → y.size + (sub ts).2.length ≤ ts.length
theorem uLoop_szd {sub : List Tok → Option Ex × List Tok} (hs : Szd sub) (gs : List (List UInt8)) : ∀ (k : Nat) (e : Ex) (ts : List Tok) (y : Ex), (uLoop sub gs k e ts).1 = some y → y.size + (uLoop sub gs k e ts).2.length ≤ e.size + ts.length
 | 0, e, ts, y, h => by rw [uLoop] at h ⊢; simp only [Option.some.injEq] at h; subst h; exact Nat.le_refl _
 | k + 1, e, ts, y, h => by
  rw [uLoop] at h ⊢
  cases hn : nxT (sgT gs) ts with
  | none => rw [hn] at h; simp only [Option.some.injEq] at h; subst h; exact Nat.le_refl _
  | some q =>
   obtain ⟨t, r⟩ := q
   rw [hn] at h
   have h1 := (nxT_len hn).1
   subst h1
   simp only at h ⊢
   have h2 := hs r
   cases h3 : sub r with
   | mk o r2 =>
    rw [h3] at h h2
    cases o with
    | none => exact absurd h (by simp)
    | some b =>
     have h4 := h2 b rfl
     have h5 := uLoop_szd hs gs k (betT e t b) r2 y h
     rw [betT, Ex.size, Ex.sizes, Ex.sizes, Ex.sizes] at h5
     simp only [List.length_cons] at h4 ⊢
     simp only [betT] at h5 ⊢
     omega
theorem uSev_szd {sub : List Tok → Option Ex × List Tok} (hs : Szd sub) (gs : List (List UInt8)) : Szd (uSev sub gs) := by
 intro ts y h
 have h2 := hs ts
 rw [uSev] at h ⊢
 cases h3 : sub ts with
 | mk o r =>
  rw [h3] at h h2
  cases o with
  | none => exact absurd h (by simp)
  | some e =>
   have h4 := h2 e rfl
   have h5 := uLoop_szd hs gs (r.length + 1) e r y h
   simp only at h4 h5 ⊢
   omega
theorem uAhead_szd {sub other : List Tok → Option Ex × List Tok} (hs : Szd sub) (ho : Szd other) (op : List UInt8) (gs : List (List UInt8)) : Szd (uAhead op gs sub other) := by
 intro ts y h
 rw [uAhead] at h ⊢
 cases hn : nxT (sgT gs) ts with
 | none => rw [hn] at h; exact ho ts y h
 | some q =>
  obtain ⟨t, r⟩ := q
  rw [hn] at h
  have h1 := (nxT_len hn).1
  subst h1
  have h2 := hs r
  simp only at h ⊢
  cases h3 : sub r with
  | mk o r2 =>
   rw [h3] at h h2
   cases o with
   | none => exact absurd h (by simp)
   | some e =>
    have h4 := h2 e rfl
    simp only [Option.some.injEq] at h
    subst h
    rw [op1, Ex.size, Ex.sizes, Ex.sizes]
    simp only [List.length_cons] at h4 ⊢
    omega
theorem uCmp_szd {sub : List Tok → Option Ex × List Tok} (hs : Szd sub) : Szd (uCmp sub) := by
 intro ts y h
 have h2 := hs ts
 rw [uCmp] at h ⊢
 cases h3 : sub ts with
 | mk o r =>
  rw [h3] at h h2
  cases o with
  | none => exact absurd h (by simp)
  | some e =>
   have h4 := h2 e rfl
   simp only at h h4 ⊢
   cases hn : nxT (sgT cmpL) r with
   | none => rw [hn] at h; simp only [Option.some.injEq] at h; subst h; exact h4
   | some q =>
    obtain ⟨t, r2⟩ := q
    rw [hn] at h
    have h1 := (nxT_len hn).1
    subst h1
    have h5 := hs r2
    simp only at h ⊢
    cases h6 : sub r2 with
    | mk o r3 =>
     rw [h6] at h h5
     cases o with
     | none => exact absurd h (by simp)
     | some b =>
      have h7 := h5 b rfl
      simp only [Option.some.injEq] at h
      subst h
      rw [betT, Ex.size, Ex.sizes, Ex.sizes, Ex.sizes]
      simp only [List.length_cons] at h4 h7 ⊢
      omega
theorem sizes_app : ∀ (l m : List Ex), Ex.sizes (l ++ m) = Ex.sizes l + Ex.sizes m
 | [], m => by rw [Ex.sizes, List.nil_append]; omega
 | x :: l, m => by rw [List.cons_append, Ex.sizes, Ex.sizes, sizes_app l m]; omega
theorem uBr_szd {sub : List Tok → Option Ex × List Tok} (hs : Szd sub) : ∀ (k : Nat) (acc : List Ex) (ts : List Tok) (l : List Ex), (uBr sub k acc ts).1 = some l → Ex.sizes l + (uBr sub k acc ts).2.length + 1 ≤ Ex.sizes acc + ts.length
 | 0, acc, ts, l, h => by
  rw [uBr] at h ⊢
  cases hn : nxT (sgT [[41]]) ts with
  | none => rw [hn] at h; exact absurd h (by simp)
  | some q =>
   obtain ⟨t, r⟩ := q
   rw [hn] at h
   have h1 := (nxT_len hn).1
   subst h1
   simp only [Option.some.injEq] at h
   subst h
   simp only [List.length_cons]
   omega
 | k + 1, acc, ts, l, h => by
  rw [uBr] at h ⊢
  cases hn : nxT (sgT [if acc.length = 0 then [40] else [44]]) ts with
  | none => rw [hn] at h; exact absurd h (by simp)
  | some q =>
   obtain ⟨t, r⟩ := q
   rw [hn] at h
   have h1 := (nxT_len hn).1
   subst h1
   have h2 := hs r
   simp only at h ⊢
   cases h3 : sub r with
   | mk o r2 =>
    rw [h3] at h h2
    cases o with
    | none => exact absurd h (by simp)
    | some e =>
     have h4 := h2 e rfl
     have h5 := uBr_szd hs k (acc ++ [e]) r2 l h
     rw [sizes_app, Ex.sizes, Ex.sizes] at h5
     simp only [List.length_cons] at h4 h5 ⊢
     omega
theorem uOne_szd {sub : List Tok → Option Ex × List Tok} (hs : Szd sub) : Szd (uOne sub) := by
 intro ts y h
 cases hn : nxT (sgT lenIf) ts with
 | some q =>
  obtain ⟨t, r⟩ := q
  rw [uOne_call hn] at h ⊢
  have h1 := (nxT_len hn).1
  have h2 := uBr_szd hs (manyT t) [] r
  cases h3 : (uBr sub (manyT t) [] r).1 with
  | none => rw [h3] at h; exact absurd h (by simp)
  | some l =>
   rw [h3] at h
   simp only [Option.map_some, Option.some.injEq] at h
   have h4 := h2 l h3
   rw [← h, Ex.size, h1]
   rw [Ex.sizes] at h4
   simp only [List.length_cons]
   omega
 | none =>
  cases hv : nxT vlT ts with
  | some q =>
   obtain ⟨t, r⟩ := q
   rw [uOne_val hn hv] at h ⊢
   simp only [Option.some.injEq] at h
   rw [← h, valE, Ex.size, Ex.sizes, (nxT_len hv).1, List.length_cons]
   show 1 + 0 + r.length ≤ r.length + 1
   omega
  | none =>
   cases hc : nxT nmT ts with
   | some q =>
    obtain ⟨t, r⟩ := q
    rw [uOne_col hn hv hc] at h ⊢
    simp only [Option.some.injEq] at h
    rw [← h, colE1, Ex.size, Ex.sizes, (nxT_len hc).1, List.length_cons]
    show 1 + 0 + r.length ≤ r.length + 1
    omega
   | none =>
    rw [uOne_br hn hv hc] at h ⊢
    have h2 := uBr_szd hs 1 [] ts
    have h5 := uBr_len (sub := sub) 1 [] ts
    cases h3 : (uBr sub 1 [] ts).1 with
    | none => rw [h3] at h; exact absurd h (by simp)
    | some l =>
     rw [h3] at h
     have h4 := h2 l h3
     have h6 := h5 l h3
     match l, h6 with
     | [x], _ =>
      simp only [Option.bind_some, List.head?_cons, Option.some.injEq] at h
      subst h
      rw [Ex.sizes, Ex.sizes, Ex.sizes] at h4
      simp only
      omega
theorem uE_szd : ∀ (f lv : Nat), Szd (uE f lv)
 | 0, lv => fun ts y h => by rw [uE] at h; exact absurd h (by simp)
 | f + 1, lv => by
  have ih := fun lv => uE_szd f lv
  intro ts
  unfold uE
  split
  ·exact uSev_szd (ih 1) _ ts
  ·exact uSev_szd (ih 2) _ ts
  ·exact uAhead_szd (ih 2) (ih 3) _ _ ts
  ·exact uCmp_szd (ih 4) ts
  ·exact uSev_szd (ih 5) _ ts
  ·exact uSev_szd (ih 6) _ ts
  ·exact uAhead_szd (ih 6) (ih 7) _ _ ts
  ·exact uOne_szd (ih 0) ts
--END
end Go.Proofs.YtkbhmghdonomnaaGreatDoor
namespace Go.Proofs.YtkbhmghdonomnaaGreatDoor
open Go.RowKit Go.BigFrame
set_option linter.unusedVariables false
set_option linter.unusedSimpArgs false
variable {en : Nat}

theorem lexAll_fitQ {s : List UInt8} {R : List Tok} {E : Int} {P : Nat} (h : lexAll s = (R, E, P)) : R.length ≤ 400 ∧ Fit R := by
 by_cases he : E = 0
 ·subst he
  obtain ⟨h1, _, h3, _⟩ := lexAll_ok h
  obtain ⟨h4, h5⟩ := stand_small s R 0 (Nat.zero_le _) h3
  exact ⟨by omega, fun t ht => by have := (h5 t ht).1; omega⟩
 ·obtain ⟨rfl, _⟩ := lexAll_bad h he
  exact ⟨by simp, fun t ht => absurd ht (by simp)⟩
set_option maxHeartbeats 1000000 in
set_option maxRecDepth 20000 in
theorem place_q (w : World) (r : Nat) (ts : List Tok) (h : RdAt en w r ts) : Calls Tryz.prog 13 #[.pointer (some ⟨r, 0, none⟩)] w fun e w' => e = .returned (.int .i64 (placeT ts en : Nat)) ∧ w' = w := by
 cases ts with
 | nil =>
  have cE := ended_none w r h
  have hfin := h.fin
  have hl := h.lt
  rw [placeT]
  clear h
  go_enter Tryz.func13, Tryz.ntmps13
  go_wp2_with fail
  refine cE.mono ?_
  rintro e w1 ⟨rfl, rfl⟩
  clear cE
  go_wp2
  go_ret
  exact ⟨rfl, rfl⟩
 | cons t ts =>
  have cE := ended_some w r t ts h
  obtain ⟨⟨p, c, h1, h2, h3⟩, hfz, hl, hfin⟩ := h
  rcases h3 with h3 | ⟨b, off, rfl, hbr, h4⟩
  ·simp at h3
  obtain ⟨d0, d1, d2⟩ := h4.2 0 (by simp)
  have hbl := h4.1
  have hlen : (0 : Int) < ((t :: ts).length : Int) := by rw [List.length_cons]; omega
  obtain ⟨tk, tx, ta⟩ := t
  simp only [List.getElem_cons_zero, Nat.zero_mul, Nat.add_zero] at d0 d1 d2
  rw [placeT]
  simp only
  generalize ((tk, tx, ta) :: ts).length = L at h1 h2 hlen cE
  clear h4 hfin
  go_enter Tryz.func13, Tryz.ntmps13
  go_wp2_with fail
  refine cE.mono ?_
  rintro e w1 ⟨rfl, rfl⟩
  clear cE
  go_wp2
  go_ret
  exact ⟨rfl, rfl⟩
theorem nil_eql (m : Int) (W : World) : Sem.run Tryz.prog (binOp .eql 38 .nilIface (.iface 32 (.int .i64 m))) W = .ok (.bool false) W := by kernel_rfl
theorem nil_geql (m : Int) (W : World) (j k : Nat) : Sem.run Tryz.prog (eqGuard .eql 38 (.tmp j) (.tmp k) .nilIface (.iface 32 (.int .i64 m))) W = .ok () W := by kernel_rfl
set_option maxRecDepth 20000 in
theorem isNil_any (m : Int) (w : World) :
  Calls Tryz.prog 15 #[.nilIface, .iface 32 (.int .i64 m)] w fun e w' => e = .returned (.bool false) ∧ w' = w := by
 have e1 := nil_eql m
 have e2 := nil_geql m
 go_enter Tryz.func15, Tryz.ntmps15
 go_wp2
 go_ret
 exact ⟨rfl, rfl⟩
def ckB (x : Ex) : Bool := ckP x == 4
set_option maxHeartbeats 2000000 in
theorem parse1_q (x : Ex) (lo : Nat → Prop) (v : Value) (w : World) (henv : TEnv w) (hx : ExIn w lo v x) (hsz : (x.pre 1).length ≤ 1048576) :
  Calls Tryz.prog 14 #[v] w fun e w' => e = .returned (.bool (ckB x)) ∧ Below w.heap.size w w' := by
 have b1 := fun o => (Below.refl w.heap.size w).alloc (Nat.le_refl _) o
 have cC := fun o => check_tree x lo v (w.alloc o) (henv.on (b1 o)) (hx.on (b1 o)) hsz
 obtain ⟨xp, xc, hxe, -⟩ := id hx.whole
 subst hxe
 rw [ckB]
 clear hx henv
 generalize ckP x = K at cC
 obtain ⟨op, nm, vt, vn, vs, pos, l⟩ := x
 simp only [Ex.op, Ex.nm, Ex.vt, Ex.vn, Ex.vs, Ex.args, Ex.pos] at cC ⊢
 generalize l.length = NL at cC ⊢
 by_cases hK : K = 0
 ·subst hK
  have cI := fun W => isNil_any 4 W
  rw [errV, if_pos rfl] at cC
  go_enter Tryz.func14, Tryz.ntmps14
  go_wp2_with fail
  refine (cC _).mono ?_
  rintro e w1 ⟨rfl, b2⟩
  go_wp2_with fail
  refine (cI _).mono ?_
  rintro e w2 ⟨rfl, rfl⟩
  clear cC cI
  go_wp2
  go_ret
  exact ⟨rfl, (b1 _).trans (b2.mono (by simp))⟩
 ·have cI := fun W => errorsIs_any K 4 W
  rw [errV, if_neg hK] at cC
  go_enter Tryz.func14, Tryz.ntmps14
  go_wp2_with fail
  refine (cC _).mono ?_
  rintro e w1 ⟨rfl, b2⟩
  go_wp2_with fail
  refine (cI _).mono ?_
  rintro e w2 ⟨rfl, rfl⟩
  clear cC cI
  go_wp2
  go_ret
  exact ⟨rfl, (b1 _).trans (b2.mono (by simp))⟩
theorem ent_par1 (args : Array Value) (W : World) : Sem.run Tryz.prog (callFunc 14 args) W = .ok (.enter 14 args) W := by kernel_rfl
set_option maxHeartbeats 4000000 in
set_option maxRecDepth 20000 in
theorem indexEx_q (lo : Nat → Prop) (p : Option Addr) (n c : Nat) (l : List Ex) (w : World) (henv : TEnv w) (hn : l.length = n) (h : ArgsIs w lo (.slice p n c) l) (hz : ∀ x ∈ l, (x.pre 1).length ≤ 1048576) (h100 : n ≤ 2000) :
  Calls Tryz.prog 39 #[.slice p n c, .func (.func 14) #[] #[]] w fun e w' => (∃ k : Int, e = .returned (.int .i64 k) ∧ Hid (decide (0 ≤ k) = l.any ckB)) ∧ Below w.heap.size w w' := by
 have HS : Aside (ArgsIs w lo (.slice p n c) l) := h
 have HN : Hid (l.length = n) := hn
 have HE : Aside (TEnv w) := henv
 have HZ := (show Aside _ from hz)
 obtain ⟨R, hR⟩ : ∃ R, l.any ckB = R := ⟨_, rfl⟩
 have HR : Hid (l.any ckB = R) := hR
 have hent := ent_par1
 rw [hR]
 clear h hn hR henv hz
 go_enter Tryz.func39, Tryz.ntmps39
 go_wp2
 go_loopg [5, 8] n (fun gg _ s8 wr => ∃ kk : Nat, kk ≤ n ∧ n - kk ≤ gg ∧ s8 = .int .i64 kk ∧ Aside (Below w.heap.size w wr) ∧ Hid ((l.drop kk).any ckB = R))
 case atStart => exact ⟨0, Nat.zero_le _, by omega, rfl, (show Aside _ from Below.refl _ _), HR⟩
 case round =>
  obtain ⟨kk, hkk, hg, rfl, BW, A⟩ := hrel
  clear HR
  by_cases hlt : kk < n
  ·have hltz : (kk : Int) < (n : Int) := by omega
   have h0z : (0 : Int) ≤ (kk : Int) := by omega
   have hk2 : kk < l.length := by rw [HN.out]; exact hlt
   obtain ⟨ba, oa, yp, yc, rfl, hbl, -, hrg, hx⟩ := partQ_at HS.out hk2
   have hrg2 := range_on hrg hbl BW.out
   have cP := parse1_q l[kk] lo _ wr (HE.out.on BW.out) (hx.on BW.out) (HZ.out _ (List.getElem_mem hk2))
   have hd : l.drop kk = l[kk] :: l.drop (kk + 1) := List.drop_eq_getElem_cons hk2
   have HD : Hid ((ckB l[kk] || (l.drop (kk + 1)).any ckB) = R) := by show _ = _; rw [← A.out, hd, List.any_cons]
   clear hd A hx hrg
   generalize ckB l[kk] = CB at cP HD
   generalize l[kk] = x at cP hrg2
   obtain ⟨op, nm, vt, vn, vs, pos, as'⟩ := x
   simp only [exV, Ex.op, Ex.nm, Ex.vt, Ex.vn, Ex.vs, Ex.args, Ex.pos] at cP hrg2
   generalize as'.length = NL at cP hrg2
   have hld : ∀ {ops : Array Oper} {rest : List Oper} {op' : Oper} {a : Act} {Q : Exit → Act → World → Prop} (hgd : op'.guard = none) (x : Operand) (ho : op'.op = .load 26 x) (hx : a.eval x = .pointer (some ⟨ba, oa + kk * 7, none⟩)), wpList Tryz.prog ops Q rest (a.put op'.dst (.agg #[.string op, .string nm, .int .i64 vt, .int .i64 vn, .string vs, .slice yp NL yc, .int .i64 pos])) wr → wpList Tryz.prog ops Q (op' :: rest) a wr := fun hgd x ho hx => wpList_load_mid hgd 26 x ho ba (oa + kk * 7) hx _ _ hrg2 Tryz.underlying26 rfl size_exU
   clear hrg2
   go_wp2_with (refine hld rfl _ rfl rfl ?_)
   go_wp2_with fail
   refine cP.mono ?_
   rintro e w1 ⟨rfl, b1⟩
   have B1 : Aside (Below w.heap.size w w1) := BW.out.trans (b1.mono BW.out.size)
   clear hld cP BW b1
   cases CB
   ·have HD2 : Hid ((l.drop (kk + 1)).any ckB = R) := by show _ = _; rw [← HD.out]; rfl
    clear HD
    go_wp2
    go_roundg (n - (kk + 1))
    case measure => omega
    case rel => exact ⟨kk + 1, by omega, by omega, by go_num, B1, HD2⟩
   ·have hR : R = true := by rw [← HD.out]; rfl
    subst hR
    clear HD
    go_wp2
    go_ret
    exact ⟨⟨kk, rfl, by show _ = _; simp⟩, B1.out⟩
  ·have hltz : ¬ (kk : Int) < (n : Int) := by omega
   have hR : R = false := by rw [← A.out, List.drop_eq_nil_of_le (by rw [HN.out]; omega)]; rfl
   subst hR
   clear A
   go_wp2
   go_ret
   exact ⟨⟨-1, rfl, (show ((-1 : Int) < 0) by decide)⟩, BW.out⟩
theorem containsEx_q (lo : Nat → Prop) (p : Option Addr) (n c : Nat) (l : List Ex) (w : World) (henv : TEnv w) (hn : l.length = n) (h : ArgsIs w lo (.slice p n c) l) (hz : ∀ x ∈ l, (x.pre 1).length ≤ 1048576) (h100 : n ≤ 2000) :
  Calls Tryz.prog 17 #[.slice p n c, .func (.func 14) #[] #[]] w fun e w' => e = .returned (.bool (l.any ckB)) ∧ Below w.heap.size w w' := by
 have cI := indexEx_q lo p n c l w henv hn h hz h100
 generalize l.any ckB = R at cI
 clear h hn henv hz
 go_enter Tryz.func17, Tryz.ntmps17
 go_wp2_with fail
 refine cI.mono ?_
 rintro e w' ⟨⟨k, rfl, HR⟩, b1⟩
 go_wp2
 go_ret
 exact ⟨ret_bool HR.out, b1⟩
end Go.Proofs.YtkbhmghdonomnaaGreatDoor
namespace Go.Proofs.YtkbhmghdonomnaaGreatDoor
open Go.RowKit Go.BigFrame
set_option linter.unusedVariables false
set_option linter.unusedSimpArgs false
variable {en : Nat}

def ExCs (w : World) (lo : Nat → Prop) (cs : List Value) (l : List Ex) : Prop := cs.length = l.length * 7 ∧ ∀ j (h : j < l.length), ∃ yp yc, (∀ d v, (exL l[j] yp yc)[d]? = some v → cs[j * 7 + d]? = some v) ∧ ExIn w lo (exV l[j] yp yc) l[j]
theorem ExCs.nil (w : World) (lo : Nat → Prop) : ExCs w lo [] [] := ⟨rfl, fun j h => absurd h (Nat.not_lt_zero _)⟩
theorem ExCs.one {w : World} {lo : Nat → Prop} {x : Ex} {xp : Option Addr} {xc : Nat} (h : ExIn w lo (exV x xp xc) x) : ExCs w lo (exL x xp xc) [x] := ⟨rfl, fun j hj => by
 obtain rfl : j = 0 := by simp at hj; omega
 exact ⟨xp, xc, fun d v hv => by simpa using hv, h⟩⟩
theorem ExCs.app {w : World} {lo : Nat → Prop} {c1 c2 : List Value} {l1 l2 : List Ex} (h1 : ExCs w lo c1 l1) (h2 : ExCs w lo c2 l2) : ExCs w lo (c1 ++ c2) (l1 ++ l2) := by
 refine ⟨by rw [List.length_append, List.length_append, h1.1, h2.1]; omega, fun j hj => ?_⟩
 rw [List.length_append] at hj
 have e7 : ∀ (x : Ex) (yp : Option Addr) (yc d : Nat) (v : Value), (exL x yp yc)[d]? = some v → d < 7 := fun x yp yc d v hv => by have := (List.getElem?_eq_some_iff.1 hv).1; simpa using this
 by_cases hl : j < l1.length
 ·obtain ⟨yp, yc, h3, h4⟩ := h1.2 j hl
  simp only [List.getElem_append_left hl]
  refine ⟨yp, yc, fun d v hv => ?_, h4⟩
  have := e7 _ _ _ _ _ hv
  rw [List.getElem?_append_left (by have := h1.1; omega)]
  exact h3 d v hv
 ·obtain ⟨yp, yc, h3, h4⟩ := h2.2 (j - l1.length) (by omega)
  simp only [List.getElem_append_right (by omega : l1.length ≤ j)]
  refine ⟨yp, yc, fun d v hv => ?_, h4⟩
  have hq := h3 d v hv
  rw [List.getElem?_append_right (by have := h1.1; omega)]
  rw [show j * 7 + d - c1.length = (j - l1.length) * 7 + d by have := h1.1; omega]
  exact hq
theorem exs_cells {w : World} {lo : Nat → Prop} {b : Nat} : ∀ (l : List Ex) (off : Nat), ExsIn w lo b off l → ∃ news : List Value, ExCs w lo news l ∧ (∀ j u, news[j]? = some u → w.cell? ⟨b, off + j, none⟩ = some u) ∧ (∀ u ∈ news, u.oneCell' = true)
 | [], off, h => ⟨[], ExCs.nil _ _, fun j u hu => by simp at hu, fun u hu => by cases hu⟩
 | x :: xs, off, h => by
  rw [ExsIn] at h
  obtain ⟨⟨v0, v1, v2, v3, v4, v5, v6, c0, c1, c2, c3, c4, c5, c6, hx⟩, hr⟩ := h
  obtain ⟨yp, yc, hw, -⟩ := hx.whole
  injection hw with hw
  simp only [Array.mk.injEq, List.cons.injEq, and_true] at hw
  obtain ⟨rfl, rfl, rfl, rfl, rfl, rfl, rfl⟩ := hw
  obtain ⟨news, h1, h2, h3⟩ := exs_cells xs (off + 7) hr
  refine ⟨exL x yp yc ++ news, (ExCs.one hx).app h1, fun j u hu => ?_, fun u hu => ?_⟩
  ·by_cases hj : j < 7
   ·rw [List.getElem?_append_left (by simpa using hj)] at hu
    have : j = 0 ∨ j = 1 ∨ j = 2 ∨ j = 3 ∨ j = 4 ∨ j = 5 ∨ j = 6 := by omega
    rcases this with rfl | rfl | rfl | rfl | rfl | rfl | rfl
    all_goals (simp at hu; subst hu; assumption)
   ·rw [List.getElem?_append_right (by simp; omega)] at hu
    have := h2 _ u hu
    rw [show off + 7 + (j - (exL x yp yc).length) = off + j by simp; omega] at this
    exact this
  ·rcases List.mem_append.1 hu with h | h
   ·exact ex_one7 _ _ _ u h
   ·exact h3 u h
theorem ExCs.is {w W : World} {lo : Nat → Prop} {B : Nat} {v : Value} {cs : List Value} {l : List Ex} (h : ExCs w lo cs l) (hb : Below w.heap.size w W) (ho : W.ownsRow B 26 7 v l.length cs) : ArgsIs W (fun b => lo b ∨ B ≤ b) v l := by
 rcases id ho.2 with ⟨rfl, e⟩ | ⟨g, cap, cur, rfl, hB, hg, hm, hx, hs, ht⟩
 ·exact ⟨none, 0, by rw [e], ⟨by omega, by omega⟩, .inl e⟩
 ·refine ⟨some ⟨g, 0, none⟩, cap, rfl, ⟨by omega, hm⟩, .inr ⟨g, 0, rfl, (Array.getElem?_eq_some_iff.1 hg).1, .inr hB, exsIn_mk _ _ _ _ _ fun j hj => ?_⟩⟩
  obtain ⟨yp, yc, h1, h2⟩ := h.2 j hj
  have k : ∀ d u, (exL l[j] yp yc)[d]? = some u → W.cell? ⟨g, 0 + (j * 7 + d), none⟩ = some u := fun d u hu => by
   have := ho.cells (g := g) rfl _ u (h1 d u hu)
   rw [Go.WideShapes.add_plain] at this
   exact this
  have k' : ∀ d u, (exL l[j] yp yc)[d]? = some u → W.cell? ⟨g, 0 + j * 7 + d, none⟩ = some u := fun d u hu => by rw [Nat.add_assoc]; exact k d u hu
  exact ⟨_, _, _, _, _, _, _, k' 0 _ rfl, k' 1 _ rfl, k' 2 _ rfl, k' 3 _ rfl, k' 4 _ rfl, k' 5 _ rfl, k' 6 _ rfl, ExIn.low (fun b _ hb => .inl hb) _ _ (h2.on hb)⟩
theorem own_one (w : World) (B : Nat) (x : Ex) (xp : Option Addr) (xc g : Nat) (hg : g = w.heap.size) (hB : B ≤ g) : (w.alloc (.cells (exL x xp xc).toArray 26)).ownsRow B 26 7 (.slice (some ⟨g, 0, none⟩) 1 1) 1 (exL x xp xc) := by
 subst hg
 exact ⟨rfl, .inr ⟨w.heap.size, 1, _, rfl, hB, box_blk w _ _, Nat.le_refl _, by decide, rfl, rfl⟩⟩
end Go.Proofs.YtkbhmghdonomnaaGreatDoor
namespace Go.Proofs.YtkbhmghdonomnaaGreatDoor
open Go.RowKit Go.BigFrame
set_option linter.unusedVariables false
set_option linter.unusedSimpArgs false
variable {en : Nat}

theorem add_block (ad : Addr) (j : Nat) : (ad.add j).block = ad.block := by
 unfold Addr.add
 split <;> rfl
theorem own_neq {w : World} {B : Nat} {e : TypeId} {sz n g m : Nat} {xs : List Value} (h : w.ownsRow B e sz (.slice (some ⟨g + 1, 0, none⟩) n m) n xs) : some g ≠ (Value.slice (some ⟨g + 1, 0, none⟩) n m).ownBlock := by
 simp [Value.ownBlock]
set_option maxHeartbeats 4000000 in
set_option maxRecDepth 20000 in
theorem expressions_q (q : Qy) (lo : Nat → Prop) (wp : Option Addr) (wc : Nat) (cp : Option Addr) (cc : Nat) (np : Option Addr) (nc : Nat) (gp : Option Addr) (gc : Nat) (ap : Option Addr) (ac : Nat) (QC : Array Value) (hQ : QV QC q cp cc np nc gp gc ap ac) (hW : ∀ (j : Nat) (v : Value), (exL q.whr wp wc)[j]? = some v → QC[1 + j]? = some v) (w : World) (hB : QyBe w lo q wp wc cp cc np nc gp gc ap ac) (hcn : cp = none → cc = 0) (hl1 : q.cols.length ≤ 401) (hl2 : q.aggs.length ≤ 401) :
  Calls Tryz.prog 18 #[.agg QC] w fun e w' => (∃ p n c, e = .returned (.slice p n c) ∧ Aside (ArgsIs w' (fun b => lo b ∨ w.heap.size ≤ b) (.slice p n c) (exsQ q)) ∧ Hid ((exsQ q).length = n)) ∧ Below w.heap.size w w' := by
 have b1 := (Below.refl w.heap.size w).alloc (Nat.le_refl _) (.cells QC 30)
 obtain ⟨hs, h8, h9, h10, h11, h12, h13⟩ := hQ
 clear hs h9 h10 h11 h12
 have HAG : Aside (AgsIs w lo ap q.aggs) := hB.aggs
 have hblk := box_blk w QC 30
 have hlw : ∀ {ops : Array Oper} {rest : List Oper} {op : Oper} {a : Act} {Q : Exit → Act → World → Prop} (hgd : op.guard = none) (x : Operand) (ho : op.op = .load 26 x) (hx : a.eval x = .pointer (some ⟨w.heap.size, 1, none⟩)), wpList Tryz.prog ops Q rest (a.put op.dst (.agg (exL q.whr wp wc).toArray)) (w.alloc (.cells QC 30)) → wpList Tryz.prog ops Q (op :: rest) a (w.alloc (.cells QC 30)) := fun hgd x ho hx => wpList_load_mid hgd 26 x ho w.heap.size 1 hx _ _ (fun j v hv => by
  have := hW j v hv
  simp only [World.cell?, hblk]
  exact this) Tryz.underlying26 rfl size_exU
 obtain ⟨i0, hi, hz0, hz1, hzz⟩ := info_parts info_exE
 have bV : Below w.heap.size w ((w.alloc (.cells QC 30)).alloc (.cells (exL q.whr wp wc).toArray 26)) := b1.alloc (by simp) _
 have own1 := own_one (w.alloc (.cells QC 30)) w.heap.size q.whr wp wc (w.heap.size + 1) (by simp) (by omega)
 have hC1 := ExCs.one hB.whr
 obtain ⟨NC, hNC⟩ : ∃ NC, q.cols.length = NC := ⟨_, rfl⟩
 obtain ⟨NA, hNA⟩ : ∃ NA, q.aggs.length = NA := ⟨_, rfl⟩
 have HNA : Hid (q.aggs.length = NA) := hNA
 have HNC : Hid (q.cols.length = NC) := hNC
 have hCols : (cp = none ∧ NC = 0 ∧ cc = 0) ∨ ∃ (ad : Addr) (news : List Value), cp = some ad ∧ ExCs w lo news q.cols ∧ (∀ (j : Nat) (u : Value), news[j]? = some u → w.cell? (ad.add j) = some u) ∧ (∀ u ∈ news, u.oneCell' = true) ∧ (∀ (j : Nat) (u : Value), news[j]? = some u → ad.block < w.heap.size) := by
  cases cp with
  | none =>
   left
   obtain ⟨p, c, e, -, h⟩ := hB.cols
   rcases h with h | ⟨b, off, e2, -⟩
   ·exact ⟨rfl, by rw [← hNC]; exact h, hcn rfl⟩
   ·simp only [Value.slice.injEq] at e
    rw [← e.1] at e2
    exact absurd e2 (by simp)
  | some ad =>
   right
   obtain ⟨p, c, e, -, h⟩ := hB.cols
   simp only [Value.slice.injEq] at e
   rcases h with h | ⟨b, off, e2, hbl, -, hE⟩
   ·have : q.cols = [] := List.length_eq_zero_iff.1 h
    exact ⟨ad, [], rfl, (by rw [this]; exact ExCs.nil _ _), (fun j u hu => by simp at hu), (fun u hu => by cases hu), (fun j u hu => by simp at hu)⟩
   ·rw [← e.1] at e2
    injection e2 with e2
    subst e2
    obtain ⟨news, n1, n2, n3⟩ := exs_cells q.cols off hE
    exact ⟨_, news, rfl, n1, fun j u hu => by rw [Go.WideShapes.add_plain]; exact n2 j u hu, n3, fun _ _ _ => hbl⟩
 rw [hNC] at h8 hl1
 rw [hNA] at h13 hl2
 have hap : ∀ {ops : Array Oper} {rest : List Oper} {o : Oper} {a : Act} {Q : Exit → Act → World → Prop} (hgd : o.guard = none) (s x : Operand) (ho : o.op = .call { callee := .builtin .append, args := #[s, x], argTypes := #[24, 24] }) (hs : a.eval s = .slice (some ⟨w.heap.size + 1, 0, none⟩) 1 1) (hx : a.eval x = .slice cp NC cc), (∀ v' w' CS, w'.ownsRow w.heap.size 26 7 v' (1 + NC) CS → ExCs w lo CS (q.whr :: q.cols) → Below w.heap.size w w' → w.heap.size + 2 ≤ w'.heap.size → w'.cell? ⟨w.heap.size, 13, none⟩ = some (.slice ap NA ac) → wpList Tryz.prog ops Q rest (a.put o.dst v') w') → wpList Tryz.prog ops Q (o :: rest) a ((w.alloc (.cells QC 30)).alloc (.cells (exL q.whr wp wc).toArray 26)) := fun {ops rest o a Q} hgd s x ho hs hx hK => by
  have h13V : ((w.alloc (.cells QC 30)).alloc (.cells (exL q.whr wp wc).toArray 26)).cell? ⟨w.heap.size, 13, none⟩ = some (.slice ap NA ac) := by
   rw [World.cell?_alloc_past _ _ _ (by simp), World.cell?_alloc_at _ _ _ _ rfl]; exact h13
  rcases hCols with ⟨rfl, rfl, rfl⟩ | ⟨ad, news, rfl, n1, n2, n3, n4⟩
  ·have hc0 : q.cols = [] := List.length_eq_zero_iff.1 HNC.out
   refine wpList_append_own_none hgd s x 24 ho w.heap.size 26 i0 7 Tryz.underlying24 hi _ 1 _ hs own1 hx (hK _ _ _ own1 (by rw [hc0]; exact hC1) bV (by simp) h13V)
  ·have hln : news.length = NC * 7 := by rw [n1.1, HNC.out]
   refine wpList_append_own _ hgd s x 24 ho w.heap.size 26 i0 _ 7 96 Tryz.underlying24 hi hz0 hz1 hzz rfl (by decide) _ 1 _ hs own1 ad NC cc news hx hln (fun j u hu => by
    have h1 := n2 j u hu
    have h2 := n4 j u hu
    rw [bV.cell (p := ad.add j) (by rw [add_block]; exact h2)]; exact h1) n3 (by unfold maxLen; omega) (by omega) (by simp; omega) (fun v' w' o1 o2 _ => ?_)
   refine hK v' w' _ o1 (hC1.app n1) (bV.grown o2 (by simp; omega) (fun j hj => (own1.lt j hj).1)) (by have := o2.size; simp at this; omega) ?_
   have hb := o2.block w.heap.size (by simp; omega) (own_neq own1)
   simp only [World.cell?, hb]
   exact h13V
 have hl13 : w.heap.size < w.heap.size + 2 := by omega
 have HL : Hid ((exsQ q).length = 1 + NC + NA) := by show _ = _; rw [exsQ, List.length_cons, List.length_append, List.length_map, HNC.out, HNA.out]; omega
 clear hB hW hblk hcn hNC hNA hCols own1 hC1 bV
 go_enter Tryz.func18, Tryz.ntmps18
 go_wp2_with (first | (refine hlw rfl _ rfl rfl ?_) | (at_builtin; refine hap rfl _ _ rfl rfl rfl ?_; intro v' w1 CS o1 x1 bw1 hs1 k13))
 have OW1 : Aside (w1.ownsRow w.heap.size 26 7 v' (1 + NC) CS) := o1
 have X1 : Aside (ExCs w lo CS (q.whr :: q.cols)) := x1
 have hl1w : w.heap.size < w1.heap.size := by omega
 clear hlw hap o1 x1
 go_loopg [3, 5, 15] NA (fun gg s3 _ s15 wr => ∃ (kk : Nat) (u : Value) (CK : List Value), kk ≤ NA ∧ NA - kk ≤ gg ∧ s15 = .int .i64 (kk : Int) ∧ s3 = u ∧ Aside (wr.ownsRow w.heap.size 26 7 u (1 + NC + kk) CK) ∧ Aside (ExCs w lo CK ((q.whr :: q.cols) ++ (q.aggs.take kk).map (·.arg))) ∧ Aside (Below w.heap.size w wr) ∧ w.heap.size ≤ wr.heap.size)
 case atStart => exact ⟨0, v', CS, Nat.zero_le _, by omega, rfl, rfl, (show Aside _ from OW1.out), (show Aside _ from (by simpa using X1.out : ExCs w lo CS ((q.whr :: q.cols) ++ (q.aggs.take 0).map (·.arg)))), (show Aside _ from bw1), by omega⟩
 case round =>
  obtain ⟨kk, u, CK, hkk, hgk, rfl, hu, OJ, XJ, BJ, hsz⟩ := hrel
  obtain rfl : u = _ := hu.symm
  clear OW1 X1 bw1 hs1 k13 hl1w
  by_cases hlt : kk < NA
  ·have hltz : (kk : Int) < (NA : Int) := by omega
   have h0z : (0 : Int) ≤ (kk : Int) := by omega
   have hk2 : kk < q.aggs.length := by rw [HNA.out]; exact hlt
   obtain ⟨ba, oa, yp, yc, rfl, hbl, -, hrg, hx⟩ := agQ_at HAG.out hk2
   have hrg2 := range_on hrg hbl BJ.out
   have XN : Aside (ExCs w lo (CK ++ exL q.aggs[kk].arg yp yc) ((q.whr :: q.cols) ++ (q.aggs.take (kk + 1)).map (·.arg))) := by
    have := XJ.out.app (ExCs.one hx)
    rw [List.take_succ_eq_append_getElem hk2, List.map_append, ← List.append_assoc]
    exact this
   clear hrg hx XJ
   generalize q.aggs[kk] = x at hrg2 XN
   obtain ⟨what, ⟨op, nm, vt, vn, vs, pos, l⟩, name⟩ := x
   simp only [exL, Ex.op, Ex.nm, Ex.vt, Ex.vn, Ex.vs, Ex.args, Ex.pos] at hrg2 XN
   generalize l.length = NL at hrg2 XN
   have hld : ∀ {ops : Array Oper} {rest : List Oper} {op' : Oper} {a : Act} {Q : Exit → Act → World → Prop} (hgd : op'.guard = none) (x : Operand) (ho : op'.op = .load 49 x) (hx : a.eval x = .pointer (some ⟨ba, oa + kk * 9, none⟩)), wpList Tryz.prog ops Q rest (a.put op'.dst (.agg #[.string what, .string op, .string nm, .int .i64 vt, .int .i64 vn, .string vs, .slice yp NL yc, .int .i64 pos, .string name])) wr → wpList Tryz.prog ops Q (op' :: rest) a wr := fun hgd x ho hx => wpList_load_mid hgd 49 x ho ba (oa + kk * 9) hx _ _ hrg2 Tryz.underlying49 rfl size_agU
   clear hrg2
   have O2 := (OJ.out.alloc (.cells #[.string what, .string op, .string nm, .int .i64 vt, .int .i64 vn, .string vs, .slice yp NL yc, .int .i64 pos, .string name] 49)).alloc (.cells #[.string op, .string nm, .int .i64 vt, .int .i64 vn, .string vs, .slice yp NL yc, .int .i64 pos] 26)
   have bb := ((Below.refl wr.heap.size wr).alloc (Nat.le_refl _) (.cells #[.string what, .string op, .string nm, .int .i64 vt, .int .i64 vn, .string vs, .slice yp NL yc, .int .i64 pos, .string name] 49)).alloc (by simp) (.cells #[.string op, .string nm, .int .i64 vt, .int .i64 vn, .string vs, .slice yp NL yc, .int .i64 pos] 26)
   have BW := BJ.out.trans (bb.mono BJ.out.size)
   obtain ⟨uq, uc, rfl⟩ := lown_slice O2
   have hnews : ∀ j u, ([.string op, .string nm, .int .i64 vt, .int .i64 vn, .string vs, .slice yp NL yc, .int .i64 pos] : List Value)[j]? = some u → ((wr.alloc (.cells #[.string what, .string op, .string nm, .int .i64 vt, .int .i64 vn, .string vs, .slice yp NL yc, .int .i64 pos, .string name] 49)).alloc (.cells #[.string op, .string nm, .int .i64 vt, .int .i64 vn, .string vs, .slice yp NL yc, .int .i64 pos] 26)).cell? ((⟨wr.heap.size + 1, 0, none⟩ : Addr).add j) = some u := fun j u hu => by
    rw [Go.WideShapes.add_plain, World.cell?_alloc_at _ _ _ _ (by simp)]
    simpa using hu
   go_wp2_with (first | (at_builtin; refine wpList_append_fresh rfl _ _ 24 rfl w.heap.size 26 i0 _ 7 96 Tryz.underlying24 hi hz0 hz1 hzz rfl (by decide) _ (1 + NC + kk) CK rfl O2 ⟨wr.heap.size + 1, 0, none⟩ 1 1 _ rfl rfl hnews (by intro u hu; simp at hu; rcases hu with rfl | rfl | rfl | rfl | rfl | rfl | rfl <;> rfl) (by decide) (by unfold maxLen; omega) (by omega) (by simp; omega) ?_) | (refine hld rfl _ rfl rfl ?_))
   intro v2 w2 ho hgr _
   have O3 : Aside (w2.ownsRow w.heap.size 26 7 v2 (1 + NC + (kk + 1)) (CK ++ [.string op, .string nm, .int .i64 vt, .int .i64 vn, .string vs, .slice yp NL yc, .int .i64 pos])) := ho
   have B3 : Aside (Below w.heap.size w w2) := BW.grown hgr (by simp; omega) (fun j hj => (O2.lt j hj).1)
   have hs2 : w.heap.size ≤ w2.heap.size := B3.out.size
   clear ho hgr OJ BJ O2 hld BW bb hnews
   go_wp2
   go_roundg (NA - (kk + 1))
   case measure => omega
   case rel => exact ⟨kk + 1, v2, _, by omega, by omega, by go_num, rfl, O3, XN, B3, hs2⟩
  ·have hltz : ¬ (kk : Int) < (NA : Int) := by omega
   obtain rfl : kk = NA := by omega
   have hall : (q.whr :: q.cols) ++ (q.aggs.take kk).map (·.arg) = exsQ q := by
    rw [List.take_of_length_le (by rw [HNA.out]; exact Nat.le_refl _)]; rfl
   have XF := XJ.out
   rw [hall] at XF
   have OF := OJ.out
   rw [← HL.out] at OF
   have AI : Aside (ArgsIs wr (fun b => lo b ∨ w.heap.size ≤ b) u (exsQ q)) := XF.is BJ.out OF
   obtain ⟨uq, uc, rfl⟩ := lown_slice OJ.out
   have B2 := BJ.out
   clear OJ BJ XJ XF OF hall
   go_wp2
   go_ret
   exact ⟨⟨uq, _, uc, rfl, AI, HL⟩, B2⟩
end Go.Proofs.YtkbhmghdonomnaaGreatDoor
namespace Go.Proofs.YtkbhmghdonomnaaGreatDoor
open Go.RowKit Go.BigFrame
set_option linter.unusedVariables false
set_option linter.unusedSimpArgs false
variable {en : Nat}

structure Bx2 (w : World) (b : Nat) (a0 a1 : Value) : Prop where
 c0 : w.cell? ⟨b, 0, none⟩ = some a0
 c1 : w.cell? ⟨b, 1, none⟩ = some a1
 fz : ∀ o, w.frozen? ⟨b, o, none⟩ = false
 lt : b < w.heap.size
theorem Bx2.on {w w' : World} {b : Nat} {a0 a1 : Value} (h : Bx2 w b a0 a1) (hb : Below w.heap.size w w') : Bx2 w' b a0 a1 := by
 obtain ⟨c0, c1, fz, lt⟩ := h
 exact ⟨by rw [hb.cell (p := ⟨b, 0, none⟩) lt]; exact c0, by rw [hb.cell (p := ⟨b, 1, none⟩) lt]; exact c1, fun o => by rw [hb.frozen (p := ⟨b, o, none⟩) lt]; exact fz o, by have := hb.size; omega⟩
theorem setC_same {w : World} {a : Addr} {v : Value} (h : w.cell? a = some v) (b : Addr) : (w.setCell a v).cell? b = w.cell? b := by
 by_cases e : a = b
 ·subst e
  rw [World.cell?_setCell_same _ _ _ h, h]
 ·exact World.cell?_setCell_other _ _ _ _ e
set_option maxHeartbeats 2000000 in
set_option maxRecDepth 20000 in
theorem newReader_bad (s : ByteArray) (w : World) (henv : TEnv w) (hw : SG w) (R : List Tok) (E : Int) (P : Nat) (hL : lexAll s.data.toList = (R, E, P)) (hE : E ≠ 0) (hs : s.size ≤ maxLen) :
  Calls Tryz.prog 10 #[.string s] w fun e w' => e = .returned (.tuple #[.pointer none, .agg #[.int .i64 E, .int .i64 (P : Nat)]]) ∧ Below w.heap.size w w' := by
 have HE : Aside (TEnv w) := henv
 have HW : Aside (SG w) := hw
 have hG := henv.big
 have b1 : Below w.heap.size w (w.alloc (.cells #[.int .i64 0, .int .i64 0] 34)) := al w _
 have Y0 : Bx2 (w.alloc (.cells #[.int .i64 0, .int .i64 0] 34)) w.heap.size (.int .i64 0) (.int .i64 0) := ⟨by rw [World.cell?_alloc_at _ _ _ _ (by simp)]; rfl, by rw [World.cell?_alloc_at _ _ _ _ (by simp)]; rfl, fun o => World.frozen?_alloc_at _ _ _ _ (by simp), by simp⟩
 have cT := tokens_cap s R E P _ ((HE.out.on b1).env) (HW.out.on b1) hL
 have hb0 : (E == 0) = false := by simpa using hE
 unfold maxLen at hs
 clear henv hw
 go_enter Tryz.func10, Tryz.ntmps10
 go_wp2_with fail
 refine cT.mono ?_
 rintro e w2 ⟨⟨vl, rfl, hT, hcap⟩, b2⟩
 have Y2 := Y0.on b2
 have B2 := b1.trans (b2.mono (by simp))
 have hz2 : w.heap.size + 1 ≤ w2.heap.size := by have := b2.size; simpa using this
 obtain ⟨lp, lc, rfl, hlm, hT⟩ := hT
 clear cT Y0 b1 b2 hT
 obtain ⟨y0, y1, yf, yl⟩ := Y2
 have yf0 := yf 0
 have yf1 := yf 1
 clear yf
 go_wp2
 go_region
 all_goals
  go_wp2
  refine bodyPost_ret (v := .tuple #[.pointer none, .agg #[.int .i64 E, .int .i64 (P : Nat)]]) (by simp [results, Tryz.results10, go_sem, y0, y1, yl]) rfl ⟨rfl, ?_⟩
  exact Below.drew (((B2.setCell (p := ⟨w.heap.size, 0, none⟩) (by simp) _).setCell (p := ⟨w.heap.size, 1, none⟩) (by simp) _).alloc (by simp [World.setCell]; omega) _)
set_option maxHeartbeats 2000000 in
set_option maxRecDepth 20000 in
theorem newReader_good (s : ByteArray) (w : World) (henv : TEnv w) (hw : SG w) (R : List Tok) (hL : lexAll s.data.toList = (R, 0, 0)) (hs : s.size ≤ maxLen) :
  Calls Tryz.prog 10 #[.string s] w fun e w' => (∃ r, e = .returned (.tuple #[.pointer (some ⟨r, 0, none⟩), .agg #[.int .i64 0, .int .i64 0]]) ∧ w.heap.size ≤ r ∧ RdAt s.size w' r R) ∧ Below w.heap.size w w' := by
 have HE : Aside (TEnv w) := henv
 have HW : Aside (SG w) := hw
 have hG := henv.big
 have b1 : Below w.heap.size w (w.alloc (.cells #[.int .i64 0, .int .i64 0] 34)) := al w _
 have Y0 : Bx2 (w.alloc (.cells #[.int .i64 0, .int .i64 0] 34)) w.heap.size (.int .i64 0) (.int .i64 0) := ⟨by rw [World.cell?_alloc_at _ _ _ _ (by simp)]; rfl, by rw [World.cell?_alloc_at _ _ _ _ (by simp)]; rfl, fun o => World.frozen?_alloc_at _ _ _ _ (by simp), by simp⟩
 have cT := tokens_cap s R 0 0 _ ((HE.out.on b1).env) (HW.out.on b1) hL
 unfold maxLen at hs
 clear henv hw
 go_enter Tryz.func10, Tryz.ntmps10
 go_wp2_with fail
 refine cT.mono ?_
 rintro e w2 ⟨⟨vl, rfl, hT, hcap⟩, b2⟩
 have Y2 := Y0.on b2
 have B2 := b1.trans (b2.mono (by simp))
 have hz2 : w.heap.size + 1 ≤ w2.heap.size := by have := b2.size; simpa using this
 obtain ⟨lp, lc, rfl, hlm, hT⟩ := hT
 have HT : Aside (R.length = 0 ∨ ∃ b off, lp = some ⟨b, off, none⟩ ∧ ToksIn w2 b off R) := hT
 have hcap : R.length ≤ lc := hcap
 clear cT Y0 b1 b2 hT
 obtain ⟨y0, y1, yf, yl⟩ := Y2
 have yf0 := yf 0
 have yf1 := yf 1
 clear yf
 go_wp2
 have hset : ∀ a : Addr, ((w2.setCell ⟨w.heap.size, 0, none⟩ (.int .i64 0)).setCell ⟨w.heap.size, 1, none⟩ (.int .i64 0)).cell? a = w2.cell? a := fun a => by
  rw [setC_same (by rw [setC_same y0]; exact y1), setC_same y0]
 have hsz : ((w2.setCell ⟨w.heap.size, 0, none⟩ (.int .i64 0)).setCell ⟨w.heap.size, 1, none⟩ (.int .i64 0)).heap.size = w2.heap.size := by simp [World.setCell]
 refine bodyPost_ret (v := .tuple #[.pointer (some ⟨w2.heap.size + 1, 0, none⟩), .agg #[.int .i64 0, .int .i64 0]]) (by simp [results, Tryz.results10, go_sem, y0, y1, yl, Nat.lt_succ_of_lt yl]) rfl ⟨⟨_, rfl, by omega, ?_⟩, ?_⟩
 ·have HT := HT.out
  generalize (w2.setCell ⟨w.heap.size, 0, none⟩ (.int .i64 0)).setCell ⟨w.heap.size, 1, none⟩ (.int .i64 0) = W at hset hsz ⊢
  have hsz1 : (W.alloc (.cells #[.int .i64 0, .int .i64 0] 34)).heap.size = w2.heap.size + 1 := by simp [hsz]
  refine ⟨⟨lp, lc, ?_, hcap, ?_⟩, ?_, by simp [hsz], ?_⟩
  ·rw [World.cell?_alloc_at _ _ _ _ (by simp [hsz])]; rfl
  ·rcases HT with h | ⟨b, off, e, hb, hT⟩
   ·exact .inl h
   ·refine .inr ⟨b, off, e, by omega, ToksIn.on (ToksIn.on (w := W) ⟨by rw [hsz]; exact hb, fun j hj => ?_⟩ (al _ _)) (al _ _)⟩
    rw [hset, hset, hset]
    exact hT j hj
  ·exact World.frozen?_alloc_at _ _ _ _ (by simp [hsz])
  ·rw [World.cell?_alloc_at _ _ _ _ (by simp [hsz])]; rfl
 ·exact (((B2.setCell (p := ⟨w.heap.size, 0, none⟩) (by simp) _).setCell (p := ⟨w.heap.size, 1, none⟩) (by simp) _).alloc (by rw [hsz]; omega) _).alloc (by simp [hsz]; omega) _
theorem num_tok {t : Tok} (h : tokAt t.2.1.data.toList = (t.1, t.2.1.data.toList.length, 0)) (hk : isNum t = true) : Lib.atoiAll t.2.1.data.toList = .ok (nuI t.2.1.data.toList) := by
 have hk : t.1 = 2 := by simpa [isNum] using hk
 rw [hk] at h
 generalize t.2.1.data.toList = l at h ⊢
 cases l with
 | nil => simp [tokAt] at h
 | cons c l =>
  rw [tokAt] at h
  split at h
  ·simp at h
  ·split at h
   ·simp only [Prod.mk.injEq, true_and] at h
    obtain ⟨h1, h2⟩ : (numTok (c :: l)).1 = (c :: l).length ∧ (numTok (c :: l)).2 = 0 := by rw [h]; exact ⟨rfl, rfl⟩
    rw [numTok] at h1 h2
    split at h1
    ·simp at h1
    ·rename_i hz
     split at h1
     ·simp at h1
     ·rename_i hv
      have hg : goN digB (c :: l) = (c :: l).length := h1
      have ha := goN_all digB (c :: l)
      rw [hg, List.take_length] at ha hv
      rw [hg] at hz
      exact (atoi_dig (by simp) ha (fun e => hz (.inr e))).1 (by omega)
   ·split at h <;> simp at h
theorem lexAll_num {s : List UInt8} {R : List Tok} (h : lexAll s = (R, 0, 0)) : NumT R := fun t ht hk => by
 obtain ⟨_, _, _, hg⟩ := lexAll_ok h
 have := (hg t ht).again [] rfl
 rw [List.append_nil] at this
 exact num_tok this hk
end Go.Proofs.YtkbhmghdonomnaaGreatDoor
namespace Go.Proofs.YtkbhmghdonomnaaGreatDoor
open Go.RowKit Go.BigFrame
set_option linter.unusedVariables false
set_option linter.unusedSimpArgs false
def qpC (l : List UInt8) : Qy × Int × Nat :=
 if (lexAll l).2.1 ≠ 0 then (qyZ, (lexAll l).2.1, (lexAll l).2.2)
 else match qU (lexAll l).1 with
  | (some q, []) => if (exsQ q).any ckB = true then (qyZ, 4, 0) else (q, 0, 0)
  | (_, r) => (qyZ, 2, placeT r l.length)
theorem thU_is {α β : Type} {a : Option α × List Tok} {f : α → List Tok → Option β × List Tok} {y : β} (h : (thU a f).1 = some y) : ∃ x, a.1 = some x ∧ (f x a.2).1 = some y := by
 obtain ⟨o, rs⟩ := a
 cases o with
 | none => simp [thU] at h
 | some x => exact ⟨x, rfl, h⟩
theorem sevU_all {α : Type} {part : List Tok → Option α × List Tok} (P : α → Prop) (N : Nat) (hsuf : ∀ ts, (part ts).2 <:+ ts) (hp : ∀ ts x, ts.length ≤ N → (part ts).1 = some x → P x) : ∀ (k : Nat) (acc : List α) (ts : List Tok) (l : List α), ts.length ≤ N → (∀ x ∈ acc, P x) → (sevU part k acc ts).1 = some l → ∀ x ∈ l, P x
 | 0, acc, ts, l, hN, ha, h => by simp [sevU] at h
 | k + 1, acc, ts, l, hN, ha, h => by
  rw [sevU] at h
  have hs := (hsuf ts).length_le
  split at h
  ·simp at h
  ·rename_i x rs e
   rw [e] at hs
   simp only at hs
   have hx : P x := hp ts x hN (by rw [e])
   have ha' : ∀ y ∈ acc ++ [x], P y := fun y hy => by
    rcases List.mem_append.1 hy with hy | hy
    ·exact ha y hy
    ·rw [List.mem_singleton.1 hy]; exact hx
   split at h
   ·rename_i t rs' e2
    have := (nx_suf e2).length_le
    exact sevU_all P N hsuf hp k _ rs' l (by omega) ha' h
   ·simp only [Option.some.injEq] at h
    subst h
    exact ha'
theorem readE_small {ts : List Tok} {x : Ex} {N : Nat} (hN : ts.length ≤ N) (h : (readE ts).1 = some x) : x.size ≤ N + 1 := by
 have := uE_szd _ _ ts x h
 omega
theorem ex0_small (N : Nat) : ex0.size ≤ N + 1 := by
 have : ex0.size = 1 := rfl
 omega
theorem colU_small {ts : List Tok} {x : Ex × ByteArray} {N : Nat} (hN : ts.length ≤ N) (h : (colU ts).1 = some x) : x.1.size ≤ N + 1 := by
 rw [colU] at h
 obtain ⟨y, h1, h2⟩ := thU_is h
 obtain ⟨n, -, h3⟩ := thU_is h2
 simp only [Option.some.injEq] at h3
 subst h3
 exact readE_small hN h1
theorem aggU_small {ts : List Tok} {x : Ag} {N : Nat} (hN : ts.length ≤ N) (h : (aggU ts).1 = some x) : x.arg.size ≤ N + 1 := by
 rw [aggU] at h
 split at h
 ·rename_i t rs e
  have h0 := (nx_suf e).length_le
  obtain ⟨y, h1, h2⟩ := thU_is h
  obtain ⟨n, -, h3⟩ := thU_is h2
  simp only [Option.some.injEq] at h3
  subst h3
  rw [argU] at h1
  split at h1
  ·simp only [Option.some.injEq] at h1
   subst h1
   exact ex0_small N
  ·rw [brU] at h1
   obtain ⟨u, -, h4⟩ := thU_is h1
   obtain ⟨z, h5, h6⟩ := thU_is h4
   obtain ⟨u2, -, h7⟩ := thU_is h6
   simp only [Option.some.injEq] at h7
   subst h7
   have := (jU_suf [40] rs).length_le
   exact readE_small (by omega) h5
 ·simp at h
theorem frU_small {ts : List Tok} {x : ByteArray × Ex} {N : Nat} (hN : ts.length ≤ N) (h : (frU ts).1 = some x) : x.2.size ≤ N + 1 := by
 rw [frU] at h
 obtain ⟨u, -, h1⟩ := thU_is h
 obtain ⟨f, -, h2⟩ := thU_is h1
 obtain ⟨y, h3, h4⟩ := thU_is h2
 simp only [Option.some.injEq] at h4
 subst h4
 have l1 := (jU_suf wFrom ts).length_le
 have l2 := (nU_suf (jU wFrom ts).2).length_le
 rw [whU] at h3
 split at h3
 ·rename_i t rs e
  have h0 := (nx_suf e).length_le
  exact readE_small (by omega) h3
 ·simp only [Option.some.injEq] at h3
  subst h3
  exact ex0_small N
theorem qU_small {ts : List Tok} {q : Qy} {N : Nat} (hN : ts.length ≤ N) (h : (qU ts).1 = some q) : ∀ x ∈ exsQ q, x.size ≤ N + 1 := by
 rw [qU] at h
 obtain ⟨u, -, h⟩ := thU_is h
 have l1 := (jU_suf wSelect ts).length_le
 generalize (jU wSelect ts).2 = rs at h l1
 have hrs : rs.length ≤ N := by omega
 split at h
 ·rw [qTwoU] at h
  obtain ⟨a, ha, h⟩ := thU_is h
  obtain ⟨f, hf, h⟩ := thU_is h
  obtain ⟨g, hg, h⟩ := thU_is h
  simp only [Option.some.injEq] at h
  subst h
  have l2 := (sevU_suf aggU_suf (rs.length + 1) [] rs).length_le
  have hA := sevU_all (fun x : Ag => x.arg.size ≤ N + 1) N aggU_suf (fun ts x hN h => aggU_small hN h) _ [] rs a hrs (by simp) ha
  intro x hx
  simp only [exsQ, List.nil_append, List.mem_cons, List.mem_map] at hx
  rcases hx with rfl | ⟨y, hy, rfl⟩
  ·exact frU_small (by omega) hf
  ·exact hA y hy
 ·rw [qOneU] at h
  obtain ⟨a, ha, h⟩ := thU_is h
  obtain ⟨f, hf, h⟩ := thU_is h
  simp only [Option.some.injEq] at h
  subst h
  have l2 := (sevU_suf colU_suf (rs.length + 1) [] rs).length_le
  have hA := sevU_all (fun x : Ex × ByteArray => x.1.size ≤ N + 1) N colU_suf (fun ts x hN h => colU_small hN h) _ [] rs a hrs (by simp) ha
  intro x hx
  simp only [exsQ, List.map_nil, List.append_nil, List.mem_cons, List.mem_map] at hx
  rcases hx with rfl | ⟨y, hy, rfl⟩
  ·exact frU_small (by omega) hf
  ·exact hA y hy
end Go.Proofs.YtkbhmghdonomnaaGreatDoor
