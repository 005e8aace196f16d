/-
  Package query's reader: a query. (Written by wip/gen_qrl.py.)
-/
import Derived.Test.YtkbhmghdonomnaaGreatDoorGzAs
namespace Go.Proofs.YtkbhmghdonomnaaGreatDoor
open Go.RowKit Go.BigFrame
set_option linter.unusedVariables false
set_option linter.unusedSimpArgs false
variable {en : Nat} {WZ : World}

theorem sevU_len {α : Type} {part : List Tok → Option α × List Tok} (hs : ∀ ts, (part ts).2 <:+ ts) : ∀ (k : Nat) (acc : List α) (ts : List Tok) (l : List α), (sevU part k acc ts).1 = some l → acc.length < l.length ∧ l.length ≤ acc.length + ts.length + 1
 | 0, acc, ts, l, h => by rw [sevU] at h; exact absurd h (by simp)
 | k + 1, acc, ts, l, h => by
  cases hp : (part ts).1 with
  | none => rw [sevU_fail (rs := (part ts).2) (Prod.ext hp rfl)] at h; exact absurd h (by simp)
  | some x =>
   have hle := (hs ts).length_le
   cases hn : nxT (sgT [[44]]) (part ts).2 with
   | none =>
    rw [sevU_last (x := x) (rs := (part ts).2) (Prod.ext hp rfl) hn] at h
    have : acc ++ [x] = l := by simpa using h
    subst this
    simp
   | some q =>
    obtain ⟨t, rs⟩ := q
    rw [sevU_more (x := x) (rs := (part ts).2) (Prod.ext hp rfl) hn] at h
    have h2 := sevU_len hs k _ _ _ h
    have h3 : rs.length + 1 = (part ts).2.length := by rw [(nxT_len hn).1]; simp
    simp at h2
    omega
theorem sevU_suf {α : Type} {part : List Tok → Option α × List Tok} (hs : ∀ ts, (part ts).2 <:+ ts) : ∀ (k : Nat) (acc : List α) (ts : List Tok), (sevU part k acc ts).2 <:+ ts
 | 0, acc, ts => by rw [sevU]; exact List.suffix_rfl
 | k + 1, acc, ts => by
  cases hp : (part ts).1 with
  | none => rw [sevU_fail (rs := (part ts).2) (Prod.ext hp rfl)]; exact hs ts
  | some x =>
   cases hn : nxT (sgT [[44]]) (part ts).2 with
   | none => rw [sevU_last (x := x) (rs := (part ts).2) (Prod.ext hp rfl) hn]; exact hs ts
   | some q =>
    obtain ⟨t, rs⟩ := q
    rw [sevU_more (x := x) (rs := (part ts).2) (Prod.ext hp rfl) hn]
    exact (sevU_suf hs k _ _).trans ((nx_suf hn).trans (hs ts))
abbrev qb0 (tr : Nat) : Array Value := #[.pointer (some ⟨tr, 0, none⟩), .string ⟨#[]⟩, .string ⟨#[]⟩, .string ⟨#[]⟩, .int .i64 0, .int .i64 0, .string ⟨#[]⟩, .slice none 0 0, .int .i64 0, .slice none 0 0, .slice none 0 0, .slice none 0 0, .int .i64 0, .int .i64 0, .slice none 0 0]
abbrev qbX (tr : Nat) (f : ByteArray) (x : Ex) (xp : Option Addr) (xc : Nat) (c n g : Value) (z s : Int) (a : Value) : Array Value := #[.pointer (some ⟨tr, 0, none⟩), .string f, .string x.op, .string x.nm, .int .i64 x.vt, .int .i64 x.vn, .string x.vs, .slice xp x.args.length xc, .int .i64 x.pos, c, n, g, .int .i64 z, .int .i64 s, a]
theorem qb_0 (tr : Nat) : qb0 tr = qbX tr ⟨#[]⟩ ex0 none 0 (.slice none 0 0) (.slice none 0 0) (.slice none 0 0) 0 0 (.slice none 0 0) := rfl
section
variable (tr : Nat) (f f' : ByteArray) (x y : Ex) (xp yp : Option Addr) (xc yc : Nat) (c n g a v : Value) (z s k : Int)
theorem qb_14 : (qbX tr f x xp xc c n g z s a).setIfInBounds 14 v = qbX tr f x xp xc c n g z s v := by simp only [qbX, List.setIfInBounds_toArray, List.set_cons_zero, List.set_cons_succ]
theorem qb_11 : (qbX tr f x xp xc c n g z s a).setIfInBounds 11 v = qbX tr f x xp xc c n v z s a := by simp only [qbX, List.setIfInBounds_toArray, List.set_cons_zero, List.set_cons_succ]
theorem qb_12 : (qbX tr f x xp xc c n g z s a).setIfInBounds 12 (.int .i64 k) = qbX tr f x xp xc c n g k s a := by simp only [qbX, List.setIfInBounds_toArray, List.set_cons_zero, List.set_cons_succ]
theorem qb_13 : (qbX tr f x xp xc c n g z s a).setIfInBounds 13 (.int .i64 k) = qbX tr f x xp xc c n g z k a := by simp only [qbX, List.setIfInBounds_toArray, List.set_cons_zero, List.set_cons_succ]
theorem qb_1 : (qbX tr f x xp xc c n g z s a).setIfInBounds 1 (.string f') = qbX tr f' x xp xc c n g z s a := by simp only [qbX, List.setIfInBounds_toArray, List.set_cons_zero, List.set_cons_succ]
theorem qb_c2 (u : Value) : bc2 (qbX tr f x xp xc c n g z s a) u v = qbX tr f x xp xc u v g z s a := by simp only [bc2, qbX, List.setIfInBounds_toArray, List.set_cons_zero, List.set_cons_succ]
theorem qb_w : putB (qbX tr f x xp xc c n g z s a) 2 (exL y yp yc) = qbX tr f y yp yc c n g z s a := by simp only [putB, qbX, List.setIfInBounds_toArray, List.set_cons_zero, List.set_cons_succ, Nat.reduceAdd]
end
abbrev qbC (tr : Nat) (q : Qy) (wp : Option Addr) (wc : Nat) (cp : Option Addr) (cc : Nat) (np : Option Addr) (nc : Nat) (gp : Option Addr) (gc : Nat) (ap : Option Addr) (ac : Nat) : Array Value :=
 #[.pointer (some ⟨tr, 0, none⟩), .string q.frm, .string q.whr.op, .string q.whr.nm, .int .i64 q.whr.vt, .int .i64 q.whr.vn, .string q.whr.vs, .slice wp q.whr.args.length wc, .int .i64 q.whr.pos, .slice cp q.cols.length cc, .slice np q.names.length nc, .slice gp q.group.length gc, .int .i64 q.size, .int .i64 q.slide, .slice ap q.aggs.length ac]
def QFin (W : World) (tr rb : Nat) (q : Qy) : Prop := ∃ wp wc cp cc np nc gp gc ap ac, Blk W rb (qbC tr q wp wc cp cc np nc gp gc ap ac) 55 ∧ QyBe W (rb + 1 ≤ ·) q wp wc cp cc np nc gp gc ap ac ∧ (cp = none → cc = 0) ∧ q.cols.length ≤ 401 ∧ q.aggs.length ≤ 401
theorem cl_args {tr rb : Nat} {v : Value} {u : Option Nat} {xs : List Ex} (hne : tr < rb) : Kp tr rb (fun V => ArgsO V (rb + 1) v u xs) := fun W w' hl h hf => h.keepB (keep_fr hf hne) (Nat.le_refl _)
theorem cl_ags {tr rb : Nat} {v : Value} {xs : List Ag} (hne : tr < rb) : Kp tr rb (fun V => AgsOwn V (rb + 1) v xs) := fun W w' hl h hf => h.keepB (keep_fr hf hne) (Nat.le_refl _)
theorem grU_len {ts : List Tok} {gs : List ByteArray} {z s : Int} (h : (grU ts).1 = some (gs, z, s)) : gs.length ≤ ts.length + 1 := by
 rw [grU] at h
 obtain ⟨R1, rs1, hj1⟩ := jU_form wGroup ts
 have l1 : rs1.length ≤ ts.length := by have := (jU_suf wGroup ts).length_le; rw [hj1] at this; exact this
 cases R1
 ·rw [thU_none hj1] at h; exact absurd h (by simp)
 rw [thU_some hj1] at h
 obtain ⟨R2, rs2, hj2⟩ := jU_form wBy rs1
 have l2 : rs2.length ≤ rs1.length := by have := (jU_suf wBy rs1).length_le; rw [hj2] at this; exact this
 cases R2
 ·rw [thU_none hj2] at h; exact absurd h (by simp)
 rw [thU_some hj2] at h
 cases hs : (sevU nU (rs2.length + 1) [] rs2).1 with
 | none => rw [thU_none (rs := (sevU nU (rs2.length + 1) [] rs2).2) (Prod.ext hs rfl)] at h; exact absurd h (by simp)
 | some g =>
  have l3 := (sevU_len nU_suf _ _ _ _ hs).2
  rw [thU_some (x := g) (rs := (sevU nU (rs2.length + 1) [] rs2).2) (Prod.ext hs rfl)] at h
  obtain ⟨R4, rs4, hj4⟩ := jU_form wWindow (sevU nU (rs2.length + 1) [] rs2).2
  cases R4
  ·rw [thU_none hj4] at h; exact absurd h (by simp)
  rw [thU_some hj4] at h
  cases hi : (iU rs4).1 with
  | none => rw [thU_none (rs := (iU rs4).2) (Prod.ext hi rfl)] at h; exact absurd h (by simp)
  | some k =>
   rw [thU_some (x := k) (rs := (iU rs4).2) (Prod.ext hi rfl)] at h
   cases hk : (slU k (iU rs4).2).1 with
   | none => rw [thU_none (rs := (slU k (iU rs4).2).2) (Prod.ext hk rfl)] at h; exact absurd h (by simp)
   | some m =>
    rw [thU_some (x := m) (rs := (slU k (iU rs4).2).2) (Prod.ext hk rfl)] at h
    have e : g = gs := by
     have := (Option.some.inj h)
     exact (Prod.mk.inj this).1
    subst e
    simp at l3
    omega
set_option maxHeartbeats 2000000 in
theorem query_bad (W : World) (tr rb : Nat) (ts rs1 : List Tok) (h : QH WZ en W tr rb ts) (hj : jU wSelect ts = (none, rs1)) :
  Calls Tryz.prog 11 #[.pointer (some ⟨rb, 0, none⟩)] W fun e w' => e = .returned (.bool false) ∧ Aside (QH WZ en w' tr rb rs1) := by
 have c1 := just_q wSelect W tr rb ts h false rs1 hj
 clear h
 go_enter Tryz.func11, Tryz.ntmps11
 go_wp2_with fail
 refine c1.mono ?_
 rintro e w1 ⟨rfl, Q1, F1⟩
 clear c1
 go_wp2
 go_ret
 exact ⟨rfl, Q1⟩
set_option maxHeartbeats 8000000 in
set_option maxRecDepth 20000 in
theorem query_one (W : World) (tr rb : Nat) (ts rs1 : List Tok) (h : QS WZ en W tr rb ts (qb0 tr) (fun _ => True)) (hl : ts.length ≤ 400) (hj : jU wSelect ts = (some (), rs1)) (hnb : nextB agB rs1 = false) :
  Calls Tryz.prog 11 #[.pointer (some ⟨rb, 0, none⟩)] W fun e w' => ∃ R : Bool, e = .returned (.bool R) ∧ Aside (QH WZ en w' tr rb (qOneU rs1).2) ∧ Hid ((R = false ∧ (qOneU rs1).1 = none) ∨ (R = true ∧ ∃ q, (qOneU rs1).1 = some q ∧ QFin w' tr rb q)) := by
 have hne := h.qh.ne
 have hrl := h.qh.lt
 have c1 := just_q wSelect W tr rb ts h.qh true rs1 hj
 have hl1 : rs1.length ≤ 400 := by have := (jU_suf wSelect ts).length_le; rw [hj] at this; simp only at this; omega
 have HS : Aside (QS WZ en W tr rb ts (qb0 tr) (fun _ => True)) := h
 have c2 := fun w1 (q : QS WZ en w1 tr rb rs1 (qb0 tr) (fun _ => True)) => items_col w1 tr rb rs1 (qb0 tr) q rfl rfl rfl hl1 hnb
 clear h hj hnb
 go_enter Tryz.func11, Tryz.ntmps11
 go_wp2_with fail
 refine c1.mono ?_
 rintro e w1 ⟨rfl, Q1, F1⟩
 have c2' := c2 w1 (HS.out.go (fun _ _ _ _ _ => trivial) F1.out Q1.out)
 clear c1 c2 HS Q1 F1
 go_wp2_with fail
 refine c2'.mono ?_
 rintro e w2 ⟨R2, ls, cq, cc, nq, nc, rfl, S2, HR2⟩
 have hk2 := cl_and (cl_args (v := .slice cq ls.length cc) (u := (Value.slice nq ls.length nc).ownBlock) (xs := ls.map (·.1)) hne) (cl_own (e := 9) (size := 1) (n := ls.length) (v := .slice nq ls.length nc) (xs := (ls.map (·.2)).map .string) hne)
 clear c2'
 obtain ⟨rs2, hrs2⟩ : ∃ rs2, (sevU colU (rs1.length + 1) [] rs1).2 = rs2 := ⟨_, rfl⟩
 have hsv : sevU colU (rs1.length + 1) [] rs1 = (if R2 = true then some ls else none, rs2) := Prod.ext HR2.out hrs2
 have hl2 : rs2.length ≤ 400 := by rw [← hrs2]; have := (sevU_suf colU_suf (rs1.length + 1) [] rs1).length_le; omega
 rw [hrs2, qb_0, qb_c2] at S2
 clear hrs2 HR2
 cases R2
 ·have HA : Hid (qOneU rs1 = (none, rs2)) := by show _ = _; rw [qOneU, thU_none hsv]
  go_wp2
  go_ret
  refine ⟨false, rfl, ?_, .inl ⟨rfl, ?_⟩⟩
  ·rw [HA.out]; exact S2.out.qh
  ·rw [HA.out]
 have hln := sevU_len colU_suf (rs1.length + 1) [] rs1 ls (by rw [hsv]; rfl)
 simp at hln
 obtain ⟨R3, rs3, hj3⟩ := jU_form wFrom rs2
 have hl3 : rs3.length ≤ 400 := by have := (jU_suf wFrom rs2).length_le; rw [hj3] at this; simp only at this; omega
 have c3 := just_q wFrom w2 tr rb rs2 S2.out.qh R3 rs3 hj3
 cases R3
 ·have HA : Hid (qOneU rs1 = (none, rs3)) := by show _ = _; rw [qOneU, thU_some hsv, frU, thU_none hj3]; try rfl
  go_wp2_with fail
  refine c3.mono ?_
  rintro e w3 ⟨rfl, Q3, F3⟩
  clear c3
  go_wp2
  go_ret
  refine ⟨false, rfl, ?_, .inl ⟨rfl, ?_⟩⟩
  ·rw [HA.out]; exact Q3
  ·rw [HA.out]
 go_wp2_with fail
 refine c3.mono ?_
 rintro e w3 ⟨rfl, Q3, F3⟩
 have S3 := S2.out.go hk2 F3.out Q3.out
 have hrl3 := S3.qh.lt
 have c4 := name_q w3 tr rb rs3 S3.qh rb 1 _ 55 S3.box hne (show 1 < 15 by decide) (fun _ => Nat.le_refl _)
 clear c3 Q3 F3 S2
 go_wp2_with fail
 refine c4.mono ?_
 rintro e w4 ⟨R4, fr, rfl, Q4, F4, B4, HR4⟩
 have S4 := S3.put hk2 F4.out Q4.out B4.out
 clear c4 Q4 F4 B4 S3
 obtain ⟨rs4, hrs4⟩ : ∃ rs4, (nU rs3).2 = rs4 := ⟨_, rfl⟩
 have hnv : nU rs3 = (if R4 = true then some fr else none, rs4) := Prod.ext HR4.out hrs4
 have hl4 : rs4.length ≤ 400 := by rw [← hrs4]; have := (nU_suf rs3).length_le; omega
 rw [hrs4, qb_1] at S4
 clear hrs4 HR4
 cases R4
 ·have HA : Hid (qOneU rs1 = (none, rs4)) := by show _ = _; rw [qOneU, thU_some hsv, frU, thU_some hj3, thU_none hnv]; try rfl
  go_wp2
  go_ret
  refine ⟨false, rfl, ?_, .inl ⟨rfl, ?_⟩⟩
  ·rw [HA.out]; exact S4.qh
  ·rw [HA.out]
 have c5 := where_q w4 tr rb rs4 _ _ S4 hk2 rfl (qb_w ..)
 clear S4
 go_wp2_with fail
 refine c5.mono ?_
 rintro e w5 ⟨R5, x, xp, xc, rfl, S5, HR5⟩
 clear c5
 obtain ⟨rs5, hrs5⟩ : ∃ rs5, (whU rs4).2 = rs5 := ⟨_, rfl⟩
 have hwv : whU rs4 = (if R5 = true then some x else none, rs5) := Prod.ext HR5.out hrs5
 have hl5 : rs5.length ≤ 400 := by rw [← hrs5]; have := (whU_suf rs4).length_le; omega
 rw [hrs5, qb_w] at S5
 clear hrs5 HR5
 cases R5
 ·have HA : Hid (qOneU rs1 = (none, rs5)) := by show _ = _; rw [qOneU, thU_some hsv, frU, thU_some hj3, thU_some hnv, thU_none hwv]; try rfl
  go_wp2
  go_ret
  refine ⟨false, rfl, ?_, .inl ⟨rfl, ?_⟩⟩
  ·rw [HA.out]; exact S5.out.qh
  ·rw [HA.out]
 have HF : Hid (frU rs2 = (some (fr, x), rs5)) := by show _ = _; rw [frU, thU_some hj3, thU_some hnv, thU_some hwv]; try rfl
 have htr : tr < rb + 1 := by omega
 have hk5 := cl_and hk2 (cl_ex (tr := tr) (rb := rb) (B := rb + 1) (v := exV x xp xc) (x := x) htr (Nat.lt_succ_self rb))
 have c6 := group_none w5 tr rb _ S5.out.box ⟨none, 0, rfl⟩
 have HA : Hid (qOneU rs1 = (some ⟨fr, x, ls.map (·.1), ls.map (·.2), [], 0, 0, []⟩, rs5)) := by show _ = _; rw [qOneU, thU_some hsv, thU_some HF.out]
 have FIN : Aside (QFin w5 tr rb ⟨fr, x, ls.map (·.1), ls.map (·.2), [], 0, 0, []⟩) := by
  refine ⟨xp, xc, cq, cc, nq, nc, none, 0, none, 0, ?_, ⟨S5.out.inv.2, ?_, ?_, ?_, StsA.nil _, ⟨Nat.zero_le _, .inl rfl⟩⟩, fun hcn => ?_, ?_, Nat.zero_le _⟩
  ·have := S5.out.box
   simp only [qbC, List.length_map, List.length_nil]
   exact this
  ·have := (ArgsO.own S5.out.inv.1.1).is
   simp only [List.length_map]
   exact this
  ·simp only [List.length_map]; omega
  ·simp only [List.length_map]
   exact sts_own (by simp) (by omega) S5.out.inv.1.2
  ·obtain ⟨cs', h1, -⟩ := S5.out.inv.1.1
   rcases h1.2 with ⟨h2, -⟩ | ⟨g, cap, cur, h2, -⟩
   ·simp only [Value.slice.injEq] at h2
    exact h2.2.2
   ·simp only [Value.slice.injEq] at h2
    rw [hcn] at h2
    exact absurd h2.1 (by simp)
  ·simp only [List.length_map]; omega
 have Q5 := (show Aside _ from S5.out.qh)
 clear S5
 go_wp2_with fail
 refine c6.mono ?_
 rintro e w6 ⟨rfl, hq6⟩
 obtain rfl := hq6
 clear c6
 go_wp2
 go_ret
 refine ⟨true, rfl, ?_, .inr ⟨rfl, _, ?_, FIN.out⟩⟩
 ·rw [HA.out]; exact Q5
 ·rw [HA.out]
set_option maxHeartbeats 8000000 in
set_option maxRecDepth 20000 in
theorem query_two (W : World) (tr rb : Nat) (ts rs1 : List Tok) (h : QS WZ en W tr rb ts (qb0 tr) (fun _ => True)) (hl : ts.length ≤ 400) (hj : jU wSelect ts = (some (), rs1)) (hnb : nextB agB rs1 = true) :
  Calls Tryz.prog 11 #[.pointer (some ⟨rb, 0, none⟩)] W fun e w' => ∃ R : Bool, e = .returned (.bool R) ∧ Aside (QH WZ en w' tr rb (qTwoU rs1).2) ∧ Hid ((R = false ∧ (qTwoU rs1).1 = none) ∨ (R = true ∧ ∃ q, (qTwoU rs1).1 = some q ∧ QFin w' tr rb q)) := by
 have hne := h.qh.ne
 have hrl := h.qh.lt
 have c1 := just_q wSelect W tr rb ts h.qh true rs1 hj
 have hl1 : rs1.length ≤ 400 := by have := (jU_suf wSelect ts).length_le; rw [hj] at this; simp only at this; omega
 have HS : Aside (QS WZ en W tr rb ts (qb0 tr) (fun _ => True)) := h
 have c2 := fun w1 (q : QS WZ en w1 tr rb rs1 (qb0 tr) (fun _ => True)) => items_agg w1 tr rb rs1 (qb0 tr) q rfl rfl hl1 hnb
 clear h hj hnb
 go_enter Tryz.func11, Tryz.ntmps11
 go_wp2_with fail
 refine c1.mono ?_
 rintro e w1 ⟨rfl, Q1, F1⟩
 have c2' := c2 w1 (HS.out.go (fun _ _ _ _ _ => trivial) F1.out Q1.out)
 clear c1 c2 HS Q1 F1
 go_wp2_with fail
 refine c2'.mono ?_
 rintro e w2 ⟨R2, ls, aq, ac, rfl, S2, HR2⟩
 have hk2 := cl_ags (v := .slice aq ls.length ac) (xs := ls) hne
 clear c2'
 obtain ⟨rs2, hrs2⟩ : ∃ rs2, (sevU aggU (rs1.length + 1) [] rs1).2 = rs2 := ⟨_, rfl⟩
 have hsv : sevU aggU (rs1.length + 1) [] rs1 = (if R2 = true then some ls else none, rs2) := Prod.ext HR2.out hrs2
 have hl2 : rs2.length ≤ 400 := by rw [← hrs2]; have := (sevU_suf aggU_suf (rs1.length + 1) [] rs1).length_le; omega
 rw [hrs2, qb_0, qb_14] at S2
 clear hrs2 HR2
 cases R2
 ·have HA : Hid (qTwoU rs1 = (none, rs2)) := by show _ = _; rw [qTwoU, thU_none hsv]
  go_wp2
  go_ret
  refine ⟨false, rfl, ?_, .inl ⟨rfl, ?_⟩⟩
  ·rw [HA.out]; exact S2.out.qh
  ·rw [HA.out]
 have hln := sevU_len aggU_suf (rs1.length + 1) [] rs1 ls (by rw [hsv]; rfl)
 simp at hln
 obtain ⟨R3, rs3, hj3⟩ := jU_form wFrom rs2
 have hl3 : rs3.length ≤ 400 := by have := (jU_suf wFrom rs2).length_le; rw [hj3] at this; simp only at this; omega
 have c3 := just_q wFrom w2 tr rb rs2 S2.out.qh R3 rs3 hj3
 cases R3
 ·have HA : Hid (qTwoU rs1 = (none, rs3)) := by show _ = _; rw [qTwoU, thU_some hsv, frU, thU_none hj3]; try rfl
  go_wp2_with fail
  refine c3.mono ?_
  rintro e w3 ⟨rfl, Q3, F3⟩
  clear c3
  go_wp2
  go_ret
  refine ⟨false, rfl, ?_, .inl ⟨rfl, ?_⟩⟩
  ·rw [HA.out]; exact Q3
  ·rw [HA.out]
 go_wp2_with fail
 refine c3.mono ?_
 rintro e w3 ⟨rfl, Q3, F3⟩
 have S3 := S2.out.go hk2 F3.out Q3.out
 have hrl3 := S3.qh.lt
 have c4 := name_q w3 tr rb rs3 S3.qh rb 1 _ 55 S3.box hne (show 1 < 15 by decide) (fun _ => Nat.le_refl _)
 clear c3 Q3 F3 S2
 go_wp2_with fail
 refine c4.mono ?_
 rintro e w4 ⟨R4, fr, rfl, Q4, F4, B4, HR4⟩
 have S4 := S3.put hk2 F4.out Q4.out B4.out
 clear c4 Q4 F4 B4 S3
 obtain ⟨rs4, hrs4⟩ : ∃ rs4, (nU rs3).2 = rs4 := ⟨_, rfl⟩
 have hnv : nU rs3 = (if R4 = true then some fr else none, rs4) := Prod.ext HR4.out hrs4
 have hl4 : rs4.length ≤ 400 := by rw [← hrs4]; have := (nU_suf rs3).length_le; omega
 rw [hrs4, qb_1] at S4
 clear hrs4 HR4
 cases R4
 ·have HA : Hid (qTwoU rs1 = (none, rs4)) := by show _ = _; rw [qTwoU, thU_some hsv, frU, thU_some hj3, thU_none hnv]; try rfl
  go_wp2
  go_ret
  refine ⟨false, rfl, ?_, .inl ⟨rfl, ?_⟩⟩
  ·rw [HA.out]; exact S4.qh
  ·rw [HA.out]
 have c5 := where_q w4 tr rb rs4 _ _ S4 hk2 rfl (qb_w ..)
 clear S4
 go_wp2_with fail
 refine c5.mono ?_
 rintro e w5 ⟨R5, x, xp, xc, rfl, S5, HR5⟩
 clear c5
 obtain ⟨rs5, hrs5⟩ : ∃ rs5, (whU rs4).2 = rs5 := ⟨_, rfl⟩
 have hwv : whU rs4 = (if R5 = true then some x else none, rs5) := Prod.ext HR5.out hrs5
 have hl5 : rs5.length ≤ 400 := by rw [← hrs5]; have := (whU_suf rs4).length_le; omega
 rw [hrs5, qb_w] at S5
 clear hrs5 HR5
 cases R5
 ·have HA : Hid (qTwoU rs1 = (none, rs5)) := by show _ = _; rw [qTwoU, thU_some hsv, frU, thU_some hj3, thU_some hnv, thU_none hwv]; try rfl
  go_wp2
  go_ret
  refine ⟨false, rfl, ?_, .inl ⟨rfl, ?_⟩⟩
  ·rw [HA.out]; exact S5.out.qh
  ·rw [HA.out]
 have HF : Hid (frU rs2 = (some (fr, x), rs5)) := by show _ = _; rw [frU, thU_some hj3, thU_some hnv, thU_some hwv]; try rfl
 have htr : tr < rb + 1 := by omega
 have hk5 := cl_and hk2 (cl_ex (tr := tr) (rb := rb) (B := rb + 1) (v := exV x xp xc) (x := x) htr (Nat.lt_succ_self rb))
 have c6 := group_q w5 tr rb rs5 _ _ S5.out hk5 rfl rfl rfl rfl aq ls.length ac rfl (by omega) (by omega) hl5
 clear S5
 go_wp2_with fail
 refine c6.mono ?_
 rintro e w6 ⟨R6, rfl, Q6, HR6⟩
 clear c6
 cases R6
 ·have hgn : (grU rs5).1 = none := by
   rcases HR6.out with ⟨-, h⟩ | ⟨h, -⟩
   ·exact h
   ·exact absurd h (by decide)
  have HA : Hid (qTwoU rs1 = (none, (grU rs5).2)) := by show _ = _; rw [qTwoU, thU_some hsv, thU_some HF.out, thU_none (rs := (grU rs5).2) (Prod.ext hgn rfl)]
  clear HR6
  go_wp2
  go_ret
  refine ⟨false, rfl, ?_, .inl ⟨rfl, ?_⟩⟩
  ·rw [HA.out]; exact Q6
  ·rw [HA.out]
 ·obtain ⟨gs, gq, gc, z, s, hgs, S6⟩ : ∃ gs gq gc z s, (grU rs5).1 = some (gs, z, s) ∧ _ := by
   rcases HR6.out with ⟨h, -⟩ | ⟨-, h⟩
   ·exact absurd h (by decide)
   ·exact h
  have HA : Hid (qTwoU rs1 = (some ⟨fr, x, [], [], gs, z, s, ls⟩, (grU rs5).2)) := by show _ = _; rw [qTwoU, thU_some hsv, thU_some HF.out, thU_some (x := (gs, z, s)) (rs := (grU rs5).2) (Prod.ext hgs rfl)]
  rw [qb_11, qb_12, qb_13] at S6
  have FIN : Aside (QFin w6 tr rb ⟨fr, x, [], [], gs, z, s, ls⟩) := by
   refine ⟨xp, xc, none, 0, none, 0, gq, gc, aq, ac, S6.box, ⟨S6.inv.1.2, argsIs_nil _ _, Nat.zero_le _, StsA.nil _, ?_, ?_⟩, fun _ => rfl, Nat.zero_le _, (show ls.length ≤ 401 by omega)⟩
   ·have hgl : gs.length ≤ 1048576 := by
     have := grU_len hgs
     omega
    exact sts_own rfl hgl S6.inv.2
   ·exact AgsOwn.is S6.inv.1.1 (by simp only; omega)
  clear HR6 S6 hgs
  go_wp2
  go_ret
  refine ⟨true, rfl, ?_, .inr ⟨rfl, _, ?_, FIN.out⟩⟩
  ·rw [HA.out]; exact Q6
  ·rw [HA.out]
end Go.Proofs.YtkbhmghdonomnaaGreatDoor
