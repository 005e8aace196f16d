/-
  The walk of sluicelaw1.RowTells, for all columns, values and texts: given that ParseSchema says what the document's ReadSchema says.
-/
import Derived.Test.YtggabncpedcmdaaGreatDoorRefRow7
import Derived.Test.YtggabncpedcmdaaGreatDoorEnvT
namespace Go.Proofs.YtggabncpedcmdaaGreatDoor
open Go.RowKit
set_option linter.unusedVariables false

theorem print_vx (v : Value) (rs : List (Int × Int × ByteArray)) (X : ByteArray) (w : World) (henv : Env w) (h : IsVals w v rs) (hsz : Sized rs) (hX : X.data.toList = if rowE rs = 0 then rowT rs else []) :
    Calls Tryz.prog 22 #[v] w fun e w' => e = .returned (.tuple #[.string X, errV (rowE rs)]) ∧ Below w.heap.size w w' := by
  obtain ⟨p, c, rfl, hm, h⟩ := h
  rcases h with h0 | ⟨b, off, rfl, h⟩
  · have hr := List.length_eq_zero_iff.1 h0
    subst hr
    have hX0 : X = ⟨#[]⟩ := of_list hX
    subst hX0
    exact (rprint_nil p c w).mono fun e w' hh => ⟨hh.1, hh.2⟩
  · exact (rprint_any b off c rs w henv hsz h).mono fun e w' hh => ⟨by rw [hh.1, ← hX, ba_eta], hh.2⟩
theorem showS_vx (v : Value) (zs : List (ByteArray × Int)) (X : ByteArray) (w : World) (hw : TW w) (h : IsCols w v zs) (hX : X.data.toList = if schE zs = 0 then schT zs else []) :
    Calls Tryz.prog 27 #[v] w fun e w' => e = .returned (.tuple #[.string X, errV (schE zs)]) ∧ Below w.heap.size w w' := by
  obtain ⟨p, c, rfl, hcap, hm, hz, h⟩ := h
  rcases h with h0 | ⟨b, off, rfl, h⟩
  · have hr := List.length_eq_zero_iff.1 h0
    subst hr
    have hX0 : X = ⟨#[]⟩ := of_list hX
    subst hX0
    exact pschema_none p c w
  · by_cases hE : schE zs = 0
    · rw [if_pos hE] at hX
      exact (pschema_ok b off c zs w hw hcap hz h hE).mono fun e w' hh => ⟨by rw [hh.1, ← hX, hE, ba_eta]; rfl, hh.2⟩
    · rw [if_neg hE] at hX
      have hX0 : X = ⟨#[]⟩ := of_list hX
      subst hX0
      exact pschema_bad b off c zs w hw hcap hz h hE
theorem parse_vx (s : ByteArray) (w : World) (hs : s.size ≤ 140737488355328) (henv : Env w) :
    Calls Tryz.prog 24 #[.string s] w fun e w' => (∃ v, e = .returned (.tuple #[v, errV (rdRow s).2]) ∧ IsVals w' v (rdRow s).1) ∧ Below w.heap.size w w' :=
  (rparse_any s w hs henv).mono fun e w' ⟨⟨v, he, hown⟩, hb⟩ => ⟨⟨v, he, own_vals hown⟩, hb⟩

theorem schema_as (lv : Value) (zs : List (ByteArray × Int)) (k : Int) (w : World) (hw : TW w) (h : IsCols w lv zs) (hk : schE zs = k) :
    Calls Tryz.prog 17 #[lv] w fun e w' => e = .returned (errV k) ∧ Below w.heap.size w w' := by
  rw [← hk]; exact schema_v lv zs w hw h
theorem refSchema_as (lv : Value) (zs : List (ByteArray × Int)) (k : Int) (w : World) (h : IsCols w lv zs) (hk : schE zs = k) :
    Calls Tryz.prog 18 #[lv] w fun e w' => e = .returned (.int .i64 k) ∧ w' = w := by
  rw [← hk]; exact refSchema_v lv zs w h
theorem rcheck_as (lv rv : Value) (zs : List (ByteArray × Int)) (rs : List (Int × Int × ByteArray)) (k : Int) (w : World) (hw : TW w) (hl : IsCols w lv zs) (hr : IsVals w rv rs) (hsz : Sized rs) (hk : rowChk zs rs = k) :
    Calls Tryz.prog 19 #[lv, rv] w fun e w' => e = .returned (errV k) ∧ Below w.heap.size w w' := by
  rw [← hk]; exact check_v lv rv zs rs w hw hl hr hsz
theorem refRow_as (lv rv : Value) (zs : List (ByteArray × Int)) (rs : List (Int × Int × ByteArray)) (k : Int) (w : World) (hl : IsCols w lv zs) (hr : IsVals w rv rs) (hsz : Sized rs) (hk : rowChk zs rs = k) :
    Calls Tryz.prog 20 #[lv, rv] w fun e w' => e = .returned (.int .i64 k) ∧ Below w.heap.size w w' := by
  rw [← hk]; exact refRow_v lv rv zs rs w hl hr hsz
theorem showRow_as (rv : Value) (rs : List (Int × Int × ByteArray)) (k : Int) (w : World) (h : IsVals w rv rs) (hsz : Sized rs) (hk : rowE rs = k) :
    Calls Tryz.prog 21 #[rv] w fun e w' => (∃ X : ByteArray, e = .returned (.tuple #[.string X, .int .i64 k]) ∧ Hid (X.data.toList = if rowE rs = 0 then rowT rs else [])) ∧ Below w.heap.size w w' := by
  have := showRow_v rv rs w h hsz
  rw [← hk]; exact this
theorem rprint_as (v : Value) (rs : List (Int × Int × ByteArray)) (X : ByteArray) (k : Int) (w : World) (henv : Env w) (h : IsVals w v rs) (hsz : Sized rs) (hk : rowE rs = k) (hX : X.data.toList = if rowE rs = 0 then rowT rs else []) :
    Calls Tryz.prog 22 #[v] w fun e w' => e = .returned (.tuple #[.string X, errV k]) ∧ Below w.heap.size w w' := by
  rw [← hk]; exact print_vx v rs X w henv h hsz hX
theorem readRow_as (s : ByteArray) (R : List (Int × Int × ByteArray)) (k : Int) (w : World) (hs : s.size ≤ 1099511627776) (h : rdRow s = (R, k)) :
    Calls Tryz.prog 23 #[.string s] w fun e w' => (∃ v, e = .returned (.tuple #[v, .int .i64 k]) ∧ IsVals w' v R) ∧ Below w.heap.size w w' := by
  have := readRow_any s w hs
  rw [h] at this; exact this
theorem rparse_as (s : ByteArray) (R : List (Int × Int × ByteArray)) (k : Int) (w : World) (hs : s.size ≤ 140737488355328) (henv : Env w) (h : rdRow s = (R, k)) :
    Calls Tryz.prog 24 #[.string s] w fun e w' => (∃ v, e = .returned (.tuple #[v, errV k]) ∧ IsVals w' v R) ∧ Below w.heap.size w w' := by
  have := parse_vx s w hs henv
  rw [h] at this; exact this
theorem refShowS_as (lv : Value) (zs : List (ByteArray × Int)) (w : World) (h : IsCols w lv zs) (hE : schE zs = 0) :
    Calls Tryz.prog 26 #[lv] w fun e w' => (∃ X : ByteArray, e = .returned (.string X) ∧ Hid (X.data.toList = schT zs)) ∧ Below w.heap.size w w' := refShowS_v lv zs w h hE
theorem showS_as (v : Value) (zs : List (ByteArray × Int)) (X : ByteArray) (k : Int) (w : World) (hw : TW w) (h : IsCols w v zs) (hk : schE zs = k) (hX : X.data.toList = if schE zs = 0 then schT zs else []) :
    Calls Tryz.prog 27 #[v] w fun e w' => e = .returned (.tuple #[.string X, errV k]) ∧ Below w.heap.size w w' := by
  rw [← hk]; exact showS_vx v zs X w hw h hX
theorem refReadS_as (t : ByteArray) (R : List (ByteArray × Int)) (k : Int) (w : World) (hs : t.size ≤ 1099511627776) (h : sdRef t = (R, k)) :
    Calls Tryz.prog 28 #[.string t] w fun e w' => (∃ v, e = .returned (.tuple #[v, .int .i64 k]) ∧ IsCols w' v R) ∧ Below w.heap.size w w' := by
  have := refReadS_any t w hs
  rw [h] at this; exact this
theorem readS_as (t : ByteArray) (R : List (ByteArray × Int)) (k : Int) (w : World) (hc : Calls Tryz.prog 29 #[.string t] w fun e W' => (∃ v, e = .returned (.tuple #[v, errV (sdRef t).2]) ∧ IsCols W' v (sdRef t).1) ∧ Below w.heap.size w W') (h : sdRef t = (R, k)) :
    Calls Tryz.prog 29 #[.string t] w fun e w' => (∃ v, e = .returned (.tuple #[v, errV k]) ∧ IsCols w' v R) ∧ Below w.heap.size w w' := by
  rw [h] at hc; exact hc
theorem refFind_as (lv : Value) (zs : List (ByteArray × Int)) (nm : ByteArray) (k : Int) (w : World) (h : IsCols w lv zs) (hk : findN nm.data.toList zs = k) :
    Calls Tryz.prog 31 #[lv, .string nm] w fun e w' => e = .returned (.int .i64 k) ∧ w' = w := by
  rw [← hk]; exact refFind_v lv zs nm w h
theorem find_asn (lv : Value) (zs : List (ByteArray × Int)) (nm : ByteArray) (k : Int) (w : World) (h : IsCols w lv zs) (hk : findN nm.data.toList zs = k) (hn : k < 0) :
    Calls Tryz.prog 32 #[lv, .string nm] w fun e w' => e = .returned (.tuple #[.int .i64 0, errV 5]) ∧ Below w.heap.size w w' := by
  have := find_v lv zs nm w h
  rw [hk, if_pos hn, if_pos hn] at this; exact this
theorem find_asf (lv : Value) (zs : List (ByteArray × Int)) (nm : ByteArray) (k : Int) (w : World) (h : IsCols w lv zs) (hk : findN nm.data.toList zs = k) (hn : ¬ k < 0) :
    Calls Tryz.prog 32 #[lv, .string nm] w fun e w' => e = .returned (.tuple #[.int .i64 k, errV 0]) ∧ Below w.heap.size w w' := by
  have := find_v lv zs nm w h
  rw [hk, if_neg hn, if_neg hn] at this; exact this

set_option maxHeartbeats 8000000 in
set_option maxRecDepth 100000 in
theorem rtells_on (lv rv : Value) (zs : List (ByteArray × Int)) (rs : List (Int × Int × ByteArray)) (s t nm : ByteArray) (w : World) (henv : EnvT w) (hw : TW w) (hl : IsCols w lv zs) (hr : IsVals w rv rs) (HSZ : Hid (Sized rs)) (hs : s.size ≤ 1099511627776) (ht : t.size ≤ 1099511627776)
    (hPS : Hid (∀ W : World, Below w.heap.size w W → Calls Tryz.prog 29 #[.string t] W fun e W' => (∃ v, e = .returned (.tuple #[v, errV (sdRef t).2]) ∧ IsCols W' v (sdRef t).1) ∧ Below W.heap.size W W'))
    (h0 : schE zs = 0) (hneg : findN nm.data.toList zs < 0) :
    Calls Tryz.prog 4 #[lv, rv, .string s, .string t, .string nm] w fun e w' => e = .returned (.bool true) ∧ Below w.heap.size w w' := by
  obtain ⟨eS, hS⟩ : ∃ e, schE zs = e := ⟨_, rfl⟩
  have HS : Hid (schE zs = eS) := hS
  obtain ⟨eC, hC⟩ : ∃ e, rowChk zs rs = e := ⟨_, rfl⟩
  have HC : Hid (rowChk zs rs = eC) := hC
  obtain ⟨eP, hP⟩ : ∃ e, rowE rs = e := ⟨_, rfl⟩
  have HP : Hid (rowE rs = eP) := hP
  obtain ⟨rR, rE, hRd⟩ : ∃ a b, rdRow s = (a, b) := ⟨_, _, rfl⟩
  have HRd : Hid (rdRow s = (rR, rE)) := hRd
  obtain ⟨qR, qE, hSd⟩ : ∃ a b, sdRef t = (a, b) := ⟨_, _, rfl⟩
  have HSd : Hid (sdRef t = (qR, qE)) := hSd
  obtain ⟨fk, hF⟩ : ∃ k, findN nm.data.toList zs = k := ⟨_, rfl⟩
  have HF : Hid (findN nm.data.toList zs = fk) := hF
  have HE0 : eS = 0 := hS.symm.trans h0
  have HF0 : fk < 0 := by rw [← hF]; exact hneg
  clear hS hC hP hRd hSd hF h0 hneg
  subst HE0
  go_enter Tryz.func4, Tryz.ntmps4
  go_wp2_with fail
  refine (schema_as lv zs 0 _ (hw.on (Below.refl w.heap.size w)) (hl.on (Below.refl w.heap.size w)) HS.out).mono ?_
  rintro e w1 ⟨rfl, b1⟩
  have B1 := b1
  go_wp2_with fail
  refine (refSchema_as lv zs 0 _ (hl.on B1) HS.out).mono ?_
  rintro e w' ⟨rfl, hq⟩
  obtain rfl : w1 = w' := hq.symm
  go_wp2_with fail
  refine (same_any 0 _ (henv.on B1)).mono ?_
  rintro e w2 ⟨rfl, b2⟩
  have B2 := B1.trans (b2.mono B1.size)
  go_wp2_with fail
  refine (rcheck_as lv rv zs rs eC _ (hw.on B2) (hl.on B2) (hr.on B2) HSZ.out HC.out).mono ?_
  rintro e w3 ⟨rfl, b3⟩
  have B3 := B2.trans (b3.mono B2.size)
  go_wp2_with fail
  refine (refRow_as lv rv zs rs eC _ (hl.on B3) (hr.on B3) HSZ.out HC.out).mono ?_
  rintro e w4 ⟨rfl, b4⟩
  have B4 := B3.trans (b4.mono B3.size)
  go_wp2_with fail
  refine (same_any eC _ (henv.on B4)).mono ?_
  rintro e w5 ⟨rfl, b5⟩
  have B5 := B4.trans (b5.mono B4.size)
  go_wp2_with fail
  refine (showRow_as rv rs eP _ (hr.on B5) HSZ.out HP.out).mono ?_
  rintro e w6 ⟨⟨X, rfl, HX⟩, b6⟩
  have B6 := B5.trans (b6.mono B5.size)
  go_wp2_with fail
  refine (rprint_as rv rs X eP _ (henv.on B6).env (hr.on B6) HSZ.out HP.out HX.out).mono ?_
  rintro e w7 ⟨rfl, b7⟩
  have B7 := B6.trans (b7.mono B6.size)
  go_wp2_with fail
  refine (same_any eP _ (henv.on B7)).mono ?_
  rintro e w8 ⟨rfl, b8⟩
  have B8 := B7.trans (b8.mono B7.size)
  go_wp2_with fail
  refine (readRow_as s rR rE _ hs HRd.out).mono ?_
  rintro e w9 ⟨⟨xv, rfl, hx0⟩, b9⟩
  have B9 := B8.trans (b9.mono B8.size)
  go_wp2_with fail
  refine (rparse_as s rR rE _ (by omega) (henv.on B9).env HRd.out).mono ?_
  rintro e w10 ⟨⟨yv, rfl, hy0⟩, b10⟩
  have B10 := B9.trans (b10.mono B9.size)
  have hx1 := hx0.on b10
  clear hx0
  go_wp2_with fail
  refine (same_any rE _ (henv.on B10)).mono ?_
  rintro e w11 ⟨rfl, b11⟩
  have B11 := B10.trans (b11.mono B10.size)
  have hx2 := hx1.on b11
  have hy2 := hy0.on b11
  clear hx1 hy0
  go_wp2_with fail
  refine (vals_v yv xv rR _ hy2 hx2).mono ?_
  rintro e w12 ⟨rfl, b12⟩
  have B12 := B11.trans (b12.mono B11.size)
  clear hx2 hy2
  go_wp2_with fail
  refine (refSchema_as lv zs 0 _ (hl.on B12) HS.out).mono ?_
  rintro e w' ⟨rfl, hq⟩
  obtain rfl : w12 = w' := hq.symm
  go_wp2_with fail
  refine (refShowS_as lv zs _ (hl.on B12) HS.out).mono ?_
  rintro e w13 ⟨⟨T, rfl, HT⟩, b13⟩
  have B13 := B12.trans (b13.mono B12.size)
  go_wp2_with fail
  refine (showS_as lv zs T 0 _ (hw.on B13) (hl.on B13) HS.out (by rw [if_pos HS.out]; exact HT.out)).mono ?_
  rintro e w14 ⟨rfl, b14⟩
  have B14 := B13.trans (b14.mono B13.size)
  go_wp2_with fail
  refine (same_any 0 _ (henv.on B14)).mono ?_
  rintro e w15 ⟨rfl, b15⟩
  have B15 := B14.trans (b15.mono B14.size)
  go_wp2_with fail
  refine (refReadS_as t qR qE _ ht HSd.out).mono ?_
  rintro e w16 ⟨⟨uv, rfl, hu0⟩, b16⟩
  have B16 := B15.trans (b16.mono B15.size)
  go_wp2_with fail
  refine (readS_as t qR qE _ (hPS.out _ B16) HSd.out).mono ?_
  rintro e w17 ⟨⟨vv, rfl, hv0⟩, b17⟩
  have B17 := B16.trans (b17.mono B16.size)
  have hu1 := hu0.on b17
  clear hu0
  go_wp2_with fail
  refine (same_any qE _ (henv.on B17)).mono ?_
  rintro e w18 ⟨rfl, b18⟩
  have B18 := B17.trans (b18.mono B17.size)
  have hu2 := hu1.on b18
  have hv2 := hv0.on b18
  clear hu1 hv0
  go_wp2_with fail
  refine (cols_v vv uv qR _ hv2 hu2).mono ?_
  rintro e w19 ⟨rfl, b19⟩
  have B19 := B18.trans (b19.mono B18.size)
  clear hu2 hv2
  go_wp2_with fail
  refine (refFind_as lv zs nm fk _ (hl.on B19) HF.out).mono ?_
  rintro e w' ⟨rfl, hq⟩
  obtain rfl : w19 = w' := hq.symm
  go_wp2_with fail
  refine (find_asn lv zs nm fk _ (hl.on B19) HF.out (by omega)).mono ?_
  rintro e w20 ⟨rfl, b20⟩
  have B20 := B19.trans (b20.mono B19.size)
  go_wp2_with fail
  refine (same_any 5 _ (henv.on B20)).mono ?_
  rintro e w21 ⟨rfl, b21⟩
  have B21 := B20.trans (b21.mono B20.size)
  go_wp2
  go_ret
  exact ⟨rfl, B21⟩
set_option maxHeartbeats 8000000 in
set_option maxRecDepth 100000 in
theorem rtells_of (lv rv : Value) (zs : List (ByteArray × Int)) (rs : List (Int × Int × ByteArray)) (s t nm : ByteArray) (w : World) (henv : EnvT w) (hw : TW w) (hl : IsCols w lv zs) (hr : IsVals w rv rs) (HSZ : Hid (Sized rs)) (hs : s.size ≤ 1099511627776) (ht : t.size ≤ 1099511627776)
    (hPS : Hid (∀ W : World, Below w.heap.size w W → Calls Tryz.prog 29 #[.string t] W fun e W' => (∃ v, e = .returned (.tuple #[v, errV (sdRef t).2]) ∧ IsCols W' v (sdRef t).1) ∧ Below W.heap.size W W'))
    (h0 : schE zs = 0) (hneg : ¬ findN nm.data.toList zs < 0) :
    Calls Tryz.prog 4 #[lv, rv, .string s, .string t, .string nm] w fun e w' => e = .returned (.bool true) ∧ Below w.heap.size w w' := by
  obtain ⟨eS, hS⟩ : ∃ e, schE zs = e := ⟨_, rfl⟩
  have HS : Hid (schE zs = eS) := hS
  obtain ⟨eC, hC⟩ : ∃ e, rowChk zs rs = e := ⟨_, rfl⟩
  have HC : Hid (rowChk zs rs = eC) := hC
  obtain ⟨eP, hP⟩ : ∃ e, rowE rs = e := ⟨_, rfl⟩
  have HP : Hid (rowE rs = eP) := hP
  obtain ⟨rR, rE, hRd⟩ : ∃ a b, rdRow s = (a, b) := ⟨_, _, rfl⟩
  have HRd : Hid (rdRow s = (rR, rE)) := hRd
  obtain ⟨qR, qE, hSd⟩ : ∃ a b, sdRef t = (a, b) := ⟨_, _, rfl⟩
  have HSd : Hid (sdRef t = (qR, qE)) := hSd
  obtain ⟨fk, hF⟩ : ∃ k, findN nm.data.toList zs = k := ⟨_, rfl⟩
  have HF : Hid (findN nm.data.toList zs = fk) := hF
  have HE0 : eS = 0 := hS.symm.trans h0
  have HF0 : ¬ fk < 0 := by rw [← hF]; exact hneg
  clear hS hC hP hRd hSd hF h0 hneg
  subst HE0
  go_enter Tryz.func4, Tryz.ntmps4
  go_wp2_with fail
  refine (schema_as lv zs 0 _ (hw.on (Below.refl w.heap.size w)) (hl.on (Below.refl w.heap.size w)) HS.out).mono ?_
  rintro e w1 ⟨rfl, b1⟩
  have B1 := b1
  go_wp2_with fail
  refine (refSchema_as lv zs 0 _ (hl.on B1) HS.out).mono ?_
  rintro e w' ⟨rfl, hq⟩
  obtain rfl : w1 = w' := hq.symm
  go_wp2_with fail
  refine (same_any 0 _ (henv.on B1)).mono ?_
  rintro e w2 ⟨rfl, b2⟩
  have B2 := B1.trans (b2.mono B1.size)
  go_wp2_with fail
  refine (rcheck_as lv rv zs rs eC _ (hw.on B2) (hl.on B2) (hr.on B2) HSZ.out HC.out).mono ?_
  rintro e w3 ⟨rfl, b3⟩
  have B3 := B2.trans (b3.mono B2.size)
  go_wp2_with fail
  refine (refRow_as lv rv zs rs eC _ (hl.on B3) (hr.on B3) HSZ.out HC.out).mono ?_
  rintro e w4 ⟨rfl, b4⟩
  have B4 := B3.trans (b4.mono B3.size)
  go_wp2_with fail
  refine (same_any eC _ (henv.on B4)).mono ?_
  rintro e w5 ⟨rfl, b5⟩
  have B5 := B4.trans (b5.mono B4.size)
  go_wp2_with fail
  refine (showRow_as rv rs eP _ (hr.on B5) HSZ.out HP.out).mono ?_
  rintro e w6 ⟨⟨X, rfl, HX⟩, b6⟩
  have B6 := B5.trans (b6.mono B5.size)
  go_wp2_with fail
  refine (rprint_as rv rs X eP _ (henv.on B6).env (hr.on B6) HSZ.out HP.out HX.out).mono ?_
  rintro e w7 ⟨rfl, b7⟩
  have B7 := B6.trans (b7.mono B6.size)
  go_wp2_with fail
  refine (same_any eP _ (henv.on B7)).mono ?_
  rintro e w8 ⟨rfl, b8⟩
  have B8 := B7.trans (b8.mono B7.size)
  go_wp2_with fail
  refine (readRow_as s rR rE _ hs HRd.out).mono ?_
  rintro e w9 ⟨⟨xv, rfl, hx0⟩, b9⟩
  have B9 := B8.trans (b9.mono B8.size)
  go_wp2_with fail
  refine (rparse_as s rR rE _ (by omega) (henv.on B9).env HRd.out).mono ?_
  rintro e w10 ⟨⟨yv, rfl, hy0⟩, b10⟩
  have B10 := B9.trans (b10.mono B9.size)
  have hx1 := hx0.on b10
  clear hx0
  go_wp2_with fail
  refine (same_any rE _ (henv.on B10)).mono ?_
  rintro e w11 ⟨rfl, b11⟩
  have B11 := B10.trans (b11.mono B10.size)
  have hx2 := hx1.on b11
  have hy2 := hy0.on b11
  clear hx1 hy0
  go_wp2_with fail
  refine (vals_v yv xv rR _ hy2 hx2).mono ?_
  rintro e w12 ⟨rfl, b12⟩
  have B12 := B11.trans (b12.mono B11.size)
  clear hx2 hy2
  go_wp2_with fail
  refine (refSchema_as lv zs 0 _ (hl.on B12) HS.out).mono ?_
  rintro e w' ⟨rfl, hq⟩
  obtain rfl : w12 = w' := hq.symm
  go_wp2_with fail
  refine (refShowS_as lv zs _ (hl.on B12) HS.out).mono ?_
  rintro e w13 ⟨⟨T, rfl, HT⟩, b13⟩
  have B13 := B12.trans (b13.mono B12.size)
  go_wp2_with fail
  refine (showS_as lv zs T 0 _ (hw.on B13) (hl.on B13) HS.out (by rw [if_pos HS.out]; exact HT.out)).mono ?_
  rintro e w14 ⟨rfl, b14⟩
  have B14 := B13.trans (b14.mono B13.size)
  go_wp2_with fail
  refine (same_any 0 _ (henv.on B14)).mono ?_
  rintro e w15 ⟨rfl, b15⟩
  have B15 := B14.trans (b15.mono B14.size)
  go_wp2_with fail
  refine (refReadS_as t qR qE _ ht HSd.out).mono ?_
  rintro e w16 ⟨⟨uv, rfl, hu0⟩, b16⟩
  have B16 := B15.trans (b16.mono B15.size)
  go_wp2_with fail
  refine (readS_as t qR qE _ (hPS.out _ B16) HSd.out).mono ?_
  rintro e w17 ⟨⟨vv, rfl, hv0⟩, b17⟩
  have B17 := B16.trans (b17.mono B16.size)
  have hu1 := hu0.on b17
  clear hu0
  go_wp2_with fail
  refine (same_any qE _ (henv.on B17)).mono ?_
  rintro e w18 ⟨rfl, b18⟩
  have B18 := B17.trans (b18.mono B17.size)
  have hu2 := hu1.on b18
  have hv2 := hv0.on b18
  clear hu1 hv0
  go_wp2_with fail
  refine (cols_v vv uv qR _ hv2 hu2).mono ?_
  rintro e w19 ⟨rfl, b19⟩
  have B19 := B18.trans (b19.mono B18.size)
  clear hu2 hv2
  go_wp2_with fail
  refine (refFind_as lv zs nm fk _ (hl.on B19) HF.out).mono ?_
  rintro e w' ⟨rfl, hq⟩
  obtain rfl : w19 = w' := hq.symm
  go_wp2_with fail
  refine (find_asf lv zs nm fk _ (hl.on B19) HF.out (by omega)).mono ?_
  rintro e w20 ⟨rfl, b20⟩
  have B20 := B19.trans (b20.mono B19.size)
  go_wp2_with fail
  refine (same_any 0 _ (henv.on B20)).mono ?_
  rintro e w21 ⟨rfl, b21⟩
  have B21 := B20.trans (b21.mono B20.size)
  go_wp2
  go_ret
  exact ⟨rfl, B21⟩
set_option maxHeartbeats 8000000 in
set_option maxRecDepth 100000 in
theorem rtells_xn (lv rv : Value) (zs : List (ByteArray × Int)) (rs : List (Int × Int × ByteArray)) (s t nm : ByteArray) (w : World) (henv : EnvT w) (hw : TW w) (hl : IsCols w lv zs) (hr : IsVals w rv rs) (HSZ : Hid (Sized rs)) (hs : s.size ≤ 1099511627776) (ht : t.size ≤ 1099511627776)
    (hPS : Hid (∀ W : World, Below w.heap.size w W → Calls Tryz.prog 29 #[.string t] W fun e W' => (∃ v, e = .returned (.tuple #[v, errV (sdRef t).2]) ∧ IsCols W' v (sdRef t).1) ∧ Below W.heap.size W W'))
    (h0 : schE zs ≠ 0) (hneg : findN nm.data.toList zs < 0) :
    Calls Tryz.prog 4 #[lv, rv, .string s, .string t, .string nm] w fun e w' => e = .returned (.bool true) ∧ Below w.heap.size w w' := by
  obtain ⟨eS, hS⟩ : ∃ e, schE zs = e := ⟨_, rfl⟩
  have HS : Hid (schE zs = eS) := hS
  obtain ⟨eC, hC⟩ : ∃ e, rowChk zs rs = e := ⟨_, rfl⟩
  have HC : Hid (rowChk zs rs = eC) := hC
  obtain ⟨eP, hP⟩ : ∃ e, rowE rs = e := ⟨_, rfl⟩
  have HP : Hid (rowE rs = eP) := hP
  obtain ⟨rR, rE, hRd⟩ : ∃ a b, rdRow s = (a, b) := ⟨_, _, rfl⟩
  have HRd : Hid (rdRow s = (rR, rE)) := hRd
  obtain ⟨qR, qE, hSd⟩ : ∃ a b, sdRef t = (a, b) := ⟨_, _, rfl⟩
  have HSd : Hid (sdRef t = (qR, qE)) := hSd
  obtain ⟨fk, hF⟩ : ∃ k, findN nm.data.toList zs = k := ⟨_, rfl⟩
  have HF : Hid (findN nm.data.toList zs = fk) := hF
  have HE0 : (eS == 0) = false := by rw [beq_eq_false_iff_ne, ← hS]; exact h0
  have HF0 : fk < 0 := by rw [← hF]; exact hneg
  clear hS hC hP hRd hSd hF h0 hneg
  skip
  go_enter Tryz.func4, Tryz.ntmps4
  go_wp2_with fail
  refine (schema_as lv zs eS _ (hw.on (Below.refl w.heap.size w)) (hl.on (Below.refl w.heap.size w)) HS.out).mono ?_
  rintro e w1 ⟨rfl, b1⟩
  have B1 := b1
  go_wp2_with fail
  refine (refSchema_as lv zs eS _ (hl.on B1) HS.out).mono ?_
  rintro e w' ⟨rfl, hq⟩
  obtain rfl : w1 = w' := hq.symm
  go_wp2_with fail
  refine (same_any eS _ (henv.on B1)).mono ?_
  rintro e w2 ⟨rfl, b2⟩
  have B2 := B1.trans (b2.mono B1.size)
  go_wp2_with fail
  refine (rcheck_as lv rv zs rs eC _ (hw.on B2) (hl.on B2) (hr.on B2) HSZ.out HC.out).mono ?_
  rintro e w3 ⟨rfl, b3⟩
  have B3 := B2.trans (b3.mono B2.size)
  go_wp2_with fail
  refine (refRow_as lv rv zs rs eC _ (hl.on B3) (hr.on B3) HSZ.out HC.out).mono ?_
  rintro e w4 ⟨rfl, b4⟩
  have B4 := B3.trans (b4.mono B3.size)
  go_wp2_with fail
  refine (same_any eC _ (henv.on B4)).mono ?_
  rintro e w5 ⟨rfl, b5⟩
  have B5 := B4.trans (b5.mono B4.size)
  go_wp2_with fail
  refine (showRow_as rv rs eP _ (hr.on B5) HSZ.out HP.out).mono ?_
  rintro e w6 ⟨⟨X, rfl, HX⟩, b6⟩
  have B6 := B5.trans (b6.mono B5.size)
  go_wp2_with fail
  refine (rprint_as rv rs X eP _ (henv.on B6).env (hr.on B6) HSZ.out HP.out HX.out).mono ?_
  rintro e w7 ⟨rfl, b7⟩
  have B7 := B6.trans (b7.mono B6.size)
  go_wp2_with fail
  refine (same_any eP _ (henv.on B7)).mono ?_
  rintro e w8 ⟨rfl, b8⟩
  have B8 := B7.trans (b8.mono B7.size)
  go_wp2_with fail
  refine (readRow_as s rR rE _ hs HRd.out).mono ?_
  rintro e w9 ⟨⟨xv, rfl, hx0⟩, b9⟩
  have B9 := B8.trans (b9.mono B8.size)
  go_wp2_with fail
  refine (rparse_as s rR rE _ (by omega) (henv.on B9).env HRd.out).mono ?_
  rintro e w10 ⟨⟨yv, rfl, hy0⟩, b10⟩
  have B10 := B9.trans (b10.mono B9.size)
  have hx1 := hx0.on b10
  clear hx0
  go_wp2_with fail
  refine (same_any rE _ (henv.on B10)).mono ?_
  rintro e w11 ⟨rfl, b11⟩
  have B11 := B10.trans (b11.mono B10.size)
  have hx2 := hx1.on b11
  have hy2 := hy0.on b11
  clear hx1 hy0
  go_wp2_with fail
  refine (vals_v yv xv rR _ hy2 hx2).mono ?_
  rintro e w12 ⟨rfl, b12⟩
  have B12 := B11.trans (b12.mono B11.size)
  clear hx2 hy2
  go_wp2_with fail
  refine (refSchema_as lv zs eS _ (hl.on B12) HS.out).mono ?_
  rintro e w' ⟨rfl, hq⟩
  obtain rfl : w12 = w' := hq.symm
  have HT : Hid (schE zs ≠ 0) := by
    show _ ≠ _
    rw [HS.out]; simpa using HE0
  go_wp2_with fail
  refine (showS_as lv zs ⟨#[]⟩ eS _ (hw.on B12) (hl.on B12) HS.out (by rw [if_neg HT.out])).mono ?_
  rintro e w13 ⟨rfl, b13⟩
  have B13 := B12.trans (b13.mono B12.size)
  go_wp2_with fail
  refine (same_any eS _ (henv.on B13)).mono ?_
  rintro e w14 ⟨rfl, b14⟩
  have B14 := B13.trans (b14.mono B13.size)
  go_wp2_with fail
  refine (refReadS_as t qR qE _ ht HSd.out).mono ?_
  rintro e w15 ⟨⟨uv, rfl, hu0⟩, b15⟩
  have B15 := B14.trans (b15.mono B14.size)
  go_wp2_with fail
  refine (readS_as t qR qE _ (hPS.out _ B15) HSd.out).mono ?_
  rintro e w16 ⟨⟨vv, rfl, hv0⟩, b16⟩
  have B16 := B15.trans (b16.mono B15.size)
  have hu1 := hu0.on b16
  clear hu0
  go_wp2_with fail
  refine (same_any qE _ (henv.on B16)).mono ?_
  rintro e w17 ⟨rfl, b17⟩
  have B17 := B16.trans (b17.mono B16.size)
  have hu2 := hu1.on b17
  have hv2 := hv0.on b17
  clear hu1 hv0
  go_wp2_with fail
  refine (cols_v vv uv qR _ hv2 hu2).mono ?_
  rintro e w18 ⟨rfl, b18⟩
  have B18 := B17.trans (b18.mono B17.size)
  clear hu2 hv2
  go_wp2_with fail
  refine (refFind_as lv zs nm fk _ (hl.on B18) HF.out).mono ?_
  rintro e w' ⟨rfl, hq⟩
  obtain rfl : w18 = w' := hq.symm
  go_wp2_with fail
  refine (find_asn lv zs nm fk _ (hl.on B18) HF.out (by omega)).mono ?_
  rintro e w19 ⟨rfl, b19⟩
  have B19 := B18.trans (b19.mono B18.size)
  go_wp2_with fail
  refine (same_any 5 _ (henv.on B19)).mono ?_
  rintro e w20 ⟨rfl, b20⟩
  have B20 := B19.trans (b20.mono B19.size)
  go_wp2
  go_ret
  exact ⟨rfl, B20⟩
set_option maxHeartbeats 8000000 in
set_option maxRecDepth 100000 in
theorem rtells_xf (lv rv : Value) (zs : List (ByteArray × Int)) (rs : List (Int × Int × ByteArray)) (s t nm : ByteArray) (w : World) (henv : EnvT w) (hw : TW w) (hl : IsCols w lv zs) (hr : IsVals w rv rs) (HSZ : Hid (Sized rs)) (hs : s.size ≤ 1099511627776) (ht : t.size ≤ 1099511627776)
    (hPS : Hid (∀ W : World, Below w.heap.size w W → Calls Tryz.prog 29 #[.string t] W fun e W' => (∃ v, e = .returned (.tuple #[v, errV (sdRef t).2]) ∧ IsCols W' v (sdRef t).1) ∧ Below W.heap.size W W'))
    (h0 : schE zs ≠ 0) (hneg : ¬ findN nm.data.toList zs < 0) :
    Calls Tryz.prog 4 #[lv, rv, .string s, .string t, .string nm] w fun e w' => e = .returned (.bool true) ∧ Below w.heap.size w w' := by
  obtain ⟨eS, hS⟩ : ∃ e, schE zs = e := ⟨_, rfl⟩
  have HS : Hid (schE zs = eS) := hS
  obtain ⟨eC, hC⟩ : ∃ e, rowChk zs rs = e := ⟨_, rfl⟩
  have HC : Hid (rowChk zs rs = eC) := hC
  obtain ⟨eP, hP⟩ : ∃ e, rowE rs = e := ⟨_, rfl⟩
  have HP : Hid (rowE rs = eP) := hP
  obtain ⟨rR, rE, hRd⟩ : ∃ a b, rdRow s = (a, b) := ⟨_, _, rfl⟩
  have HRd : Hid (rdRow s = (rR, rE)) := hRd
  obtain ⟨qR, qE, hSd⟩ : ∃ a b, sdRef t = (a, b) := ⟨_, _, rfl⟩
  have HSd : Hid (sdRef t = (qR, qE)) := hSd
  obtain ⟨fk, hF⟩ : ∃ k, findN nm.data.toList zs = k := ⟨_, rfl⟩
  have HF : Hid (findN nm.data.toList zs = fk) := hF
  have HE0 : (eS == 0) = false := by rw [beq_eq_false_iff_ne, ← hS]; exact h0
  have HF0 : ¬ fk < 0 := by rw [← hF]; exact hneg
  clear hS hC hP hRd hSd hF h0 hneg
  skip
  go_enter Tryz.func4, Tryz.ntmps4
  go_wp2_with fail
  refine (schema_as lv zs eS _ (hw.on (Below.refl w.heap.size w)) (hl.on (Below.refl w.heap.size w)) HS.out).mono ?_
  rintro e w1 ⟨rfl, b1⟩
  have B1 := b1
  go_wp2_with fail
  refine (refSchema_as lv zs eS _ (hl.on B1) HS.out).mono ?_
  rintro e w' ⟨rfl, hq⟩
  obtain rfl : w1 = w' := hq.symm
  go_wp2_with fail
  refine (same_any eS _ (henv.on B1)).mono ?_
  rintro e w2 ⟨rfl, b2⟩
  have B2 := B1.trans (b2.mono B1.size)
  go_wp2_with fail
  refine (rcheck_as lv rv zs rs eC _ (hw.on B2) (hl.on B2) (hr.on B2) HSZ.out HC.out).mono ?_
  rintro e w3 ⟨rfl, b3⟩
  have B3 := B2.trans (b3.mono B2.size)
  go_wp2_with fail
  refine (refRow_as lv rv zs rs eC _ (hl.on B3) (hr.on B3) HSZ.out HC.out).mono ?_
  rintro e w4 ⟨rfl, b4⟩
  have B4 := B3.trans (b4.mono B3.size)
  go_wp2_with fail
  refine (same_any eC _ (henv.on B4)).mono ?_
  rintro e w5 ⟨rfl, b5⟩
  have B5 := B4.trans (b5.mono B4.size)
  go_wp2_with fail
  refine (showRow_as rv rs eP _ (hr.on B5) HSZ.out HP.out).mono ?_
  rintro e w6 ⟨⟨X, rfl, HX⟩, b6⟩
  have B6 := B5.trans (b6.mono B5.size)
  go_wp2_with fail
  refine (rprint_as rv rs X eP _ (henv.on B6).env (hr.on B6) HSZ.out HP.out HX.out).mono ?_
  rintro e w7 ⟨rfl, b7⟩
  have B7 := B6.trans (b7.mono B6.size)
  go_wp2_with fail
  refine (same_any eP _ (henv.on B7)).mono ?_
  rintro e w8 ⟨rfl, b8⟩
  have B8 := B7.trans (b8.mono B7.size)
  go_wp2_with fail
  refine (readRow_as s rR rE _ hs HRd.out).mono ?_
  rintro e w9 ⟨⟨xv, rfl, hx0⟩, b9⟩
  have B9 := B8.trans (b9.mono B8.size)
  go_wp2_with fail
  refine (rparse_as s rR rE _ (by omega) (henv.on B9).env HRd.out).mono ?_
  rintro e w10 ⟨⟨yv, rfl, hy0⟩, b10⟩
  have B10 := B9.trans (b10.mono B9.size)
  have hx1 := hx0.on b10
  clear hx0
  go_wp2_with fail
  refine (same_any rE _ (henv.on B10)).mono ?_
  rintro e w11 ⟨rfl, b11⟩
  have B11 := B10.trans (b11.mono B10.size)
  have hx2 := hx1.on b11
  have hy2 := hy0.on b11
  clear hx1 hy0
  go_wp2_with fail
  refine (vals_v yv xv rR _ hy2 hx2).mono ?_
  rintro e w12 ⟨rfl, b12⟩
  have B12 := B11.trans (b12.mono B11.size)
  clear hx2 hy2
  go_wp2_with fail
  refine (refSchema_as lv zs eS _ (hl.on B12) HS.out).mono ?_
  rintro e w' ⟨rfl, hq⟩
  obtain rfl : w12 = w' := hq.symm
  have HT : Hid (schE zs ≠ 0) := by
    show _ ≠ _
    rw [HS.out]; simpa using HE0
  go_wp2_with fail
  refine (showS_as lv zs ⟨#[]⟩ eS _ (hw.on B12) (hl.on B12) HS.out (by rw [if_neg HT.out])).mono ?_
  rintro e w13 ⟨rfl, b13⟩
  have B13 := B12.trans (b13.mono B12.size)
  go_wp2_with fail
  refine (same_any eS _ (henv.on B13)).mono ?_
  rintro e w14 ⟨rfl, b14⟩
  have B14 := B13.trans (b14.mono B13.size)
  go_wp2_with fail
  refine (refReadS_as t qR qE _ ht HSd.out).mono ?_
  rintro e w15 ⟨⟨uv, rfl, hu0⟩, b15⟩
  have B15 := B14.trans (b15.mono B14.size)
  go_wp2_with fail
  refine (readS_as t qR qE _ (hPS.out _ B15) HSd.out).mono ?_
  rintro e w16 ⟨⟨vv, rfl, hv0⟩, b16⟩
  have B16 := B15.trans (b16.mono B15.size)
  have hu1 := hu0.on b16
  clear hu0
  go_wp2_with fail
  refine (same_any qE _ (henv.on B16)).mono ?_
  rintro e w17 ⟨rfl, b17⟩
  have B17 := B16.trans (b17.mono B16.size)
  have hu2 := hu1.on b17
  have hv2 := hv0.on b17
  clear hu1 hv0
  go_wp2_with fail
  refine (cols_v vv uv qR _ hv2 hu2).mono ?_
  rintro e w18 ⟨rfl, b18⟩
  have B18 := B17.trans (b18.mono B17.size)
  clear hu2 hv2
  go_wp2_with fail
  refine (refFind_as lv zs nm fk _ (hl.on B18) HF.out).mono ?_
  rintro e w' ⟨rfl, hq⟩
  obtain rfl : w18 = w' := hq.symm
  go_wp2_with fail
  refine (find_asf lv zs nm fk _ (hl.on B18) HF.out (by omega)).mono ?_
  rintro e w19 ⟨rfl, b19⟩
  have B19 := B18.trans (b19.mono B18.size)
  go_wp2_with fail
  refine (same_any 0 _ (henv.on B19)).mono ?_
  rintro e w20 ⟨rfl, b20⟩
  have B20 := B19.trans (b20.mono B19.size)
  go_wp2
  go_ret
  exact ⟨rfl, B20⟩
theorem rtells (lv rv : Value) (zs : List (ByteArray × Int)) (rs : List (Int × Int × ByteArray)) (s t nm : ByteArray) (w : World) (henv : EnvT w) (hw : TW w) (hl : IsCols w lv zs) (hr : IsVals w rv rs) (hsz : Sized rs) (hs : s.size ≤ 1099511627776) (ht : t.size ≤ 1099511627776)
    (hPS : ∀ W : World, Below w.heap.size w W → Calls Tryz.prog 29 #[.string t] W fun e W' => (∃ v, e = .returned (.tuple #[v, errV (sdRef t).2]) ∧ IsCols W' v (sdRef t).1) ∧ Below W.heap.size W W') :
    Calls Tryz.prog 4 #[lv, rv, .string s, .string t, .string nm] w fun e w' => e = .returned (.bool true) ∧ Below w.heap.size w w' := by
  by_cases h0 : schE zs = 0
  · by_cases hn : findN nm.data.toList zs < 0
    · exact rtells_on lv rv zs rs s t nm w henv hw hl hr hsz hs ht hPS h0 hn
    · exact rtells_of lv rv zs rs s t nm w henv hw hl hr hsz hs ht hPS h0 hn
  · by_cases hn : findN nm.data.toList zs < 0
    · exact rtells_xn lv rv zs rs s t nm w henv hw hl hr hsz hs ht hPS h0 hn
    · exact rtells_xf lv rv zs rs s t nm w henv hw hl hr hsz hs ht hPS h0 hn
end Go.Proofs.YtggabncpedcmdaaGreatDoor
