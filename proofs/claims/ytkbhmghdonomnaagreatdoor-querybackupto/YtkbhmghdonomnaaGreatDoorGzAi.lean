/-
  TreeRA, TreeRB, in one text.
-/
import Derived.Test.YtkbhmghdonomnaaGreatDoorGzAh
namespace Go.Proofs.YtkbhmghdonomnaaGreatDoor
open Go.RowKit Go.BigFrame
set_option linter.unusedVariables false
variable {en : Nat}

theorem ent_val (args : Array Value) (W : World) : Sem.run Tryz.prog (callFunc 210 args) W = .ok (.enter 210 args) W := by kernel_rfl
theorem ent_col (args : Array Value) (W : World) : Sem.run Tryz.prog (callFunc 211 args) W = .ok (.enter 211 args) W := by kernel_rfl
theorem take_val_none (w : World) (r : Nat) (ts : List Tok) (h : RdAt en w r ts) (hg : Fit ts) (henv : TEnv w) (hn : nxT vlT ts = none) :
    Calls Tryz.prog 67 #[.pointer (some ⟨r, 0, none⟩), .func (.func 210) #[] #[]] w fun e w' => e = .returned (.tuple #[noTok, .bool false]) ∧ RdAt en w' r ts ∧ But r w w' :=
  take_none' vlT _ _ ent_val w r ts h (fun t ht W hb => by simpa using isValue_any t W (henv.on hb) (hg t ht)) hn
theorem take_val_some (w : World) (r : Nat) (t : Tok) (ts rs : List Tok) (h : RdAt en w r ts) (hg : Fit ts) (henv : TEnv w) (hn : nxT vlT ts = some (t, rs)) :
    Calls Tryz.prog 67 #[.pointer (some ⟨r, 0, none⟩), .func (.func 210) #[] #[]] w fun e w' => e = .returned (.tuple #[tokV t, .bool true]) ∧ RdAt en w' r rs ∧ But r w w' :=
  take_some vlT _ _ ent_val w r t ts rs h (fun t ht W hb => by simpa using isValue_any t W (henv.on hb) (hg t ht)) hn
theorem take_col_none (w : World) (r : Nat) (ts : List Tok) (h : RdAt en w r ts) (hg : Fit ts) (henv : TEnv w) (hn : nxT nmT ts = none) :
    Calls Tryz.prog 67 #[.pointer (some ⟨r, 0, none⟩), .func (.func 211) #[] #[]] w fun e w' => e = .returned (.tuple #[noTok, .bool false]) ∧ RdAt en w' r ts ∧ But r w w' :=
  take_none' nmT _ _ ent_col w r ts h (fun t ht W hb => by simpa using operand1_any t W (henv.on hb) (by have := hg t ht; unfold maxLen; omega)) hn
theorem take_col_some (w : World) (r : Nat) (t : Tok) (ts rs : List Tok) (h : RdAt en w r ts) (hg : Fit ts) (henv : TEnv w) (hn : nxT nmT ts = some (t, rs)) :
    Calls Tryz.prog 67 #[.pointer (some ⟨r, 0, none⟩), .func (.func 211) #[] #[]] w fun e w' => e = .returned (.tuple #[tokV t, .bool true]) ∧ RdAt en w' r rs ∧ But r w w' :=
  take_some nmT _ _ ent_col w r t ts rs h (fun t ht W hb => by simpa using operand1_any t W (henv.on hb) (by have := hg t ht; unfold maxLen; omega)) hn
theorem ex_args {w : World} {lo : Nat → Prop} {p : Option Addr} {n c : Nat} {xs : List Ex} {op nm vs : ByteArray} {vt vn pos : Int} (h : ArgsIs w lo (.slice p n c) xs) (ho : op.size ≤ maxLen) (hn : nm.size ≤ maxLen) (hv : vs.size ≤ maxLen) : ExIn w lo (.agg #[.string op, .string nm, .int .i64 vt, .int .i64 vn, .string vs, .slice p n c, .int .i64 pos]) (.node op nm vt vn vs pos xs) := by
  obtain ⟨q, d, e, h1, h2⟩ := h
  injection e with e1 e2 e3
  subst e1 e2 e3
  rw [ExIn]
  exact ⟨_, _, rfl, h1, ho, hn, hv, h2⟩
theorem map_ifs {ok : Bool} {xs : List Ex} {o : Option (List Ex)} {F : List Ex → Ex} (h : o = if ok = true then some xs else none) : o.map F = if ok = true then some (F xs) else none := by
  subst h
  cases ok <;> rfl
set_option maxHeartbeats 4000000 in
set_option maxRecDepth 20000 in
theorem operand_any (sub : List Tok → Option Ex × List Tok) (ts : List Tok) (hsuf : Suf sub) (hg : Fit ts) (hsub : ∀ ts', ts' <:+ ts → ts'.length < ts.length → Reads 112 sub ts') : Reads 206 (uOne sub) ts := by
  intro w r en h henv hr
  have HR : Aside (RdAt en w r ts) := h
  have HE : Aside (TEnv w) := henv
  have HG : Aside (Fit ts) := hg
  have hl := h.lt
  have HC : Aside (∀ ts', ts' <:+ ts → ts'.length < ts.length → Reads 112 sub ts') := hsub
  clear h henv hg hsub
  have X0 := box7_alloc w (.string ⟨#[]⟩) (.string ⟨#[]⟩) (.int .i64 0) (.int .i64 0) (.string ⟨#[]⟩) (.slice none 0 0) (.int .i64 0) 26
  have b0 := (Below.refl w.heap.size w).alloc (Nat.le_refl _) (.cells #[.string ⟨#[]⟩, .string ⟨#[]⟩, .int .i64 0, .int .i64 0, .string ⟨#[]⟩, .slice none 0 0, .int .i64 0] 26)
  have b1 := al (w.alloc (.cells #[.string ⟨#[]⟩, .string ⟨#[]⟩, .int .i64 0, .int .i64 0, .string ⟨#[]⟩, .slice none 0 0, .int .i64 0] 26)) (.cells #[.string ⟨#[108, 101, 110]⟩, .string ⟨#[105, 102]⟩] 9)
  have X1 := X0.on b1
  have cO := oneOf_but (w.heap.size + 1) 2 r lenIf ((w.alloc (.cells #[.string ⟨#[]⟩, .string ⟨#[]⟩, .int .i64 0, .int .i64 0, .string ⟨#[]⟩, .slice none 0 0, .int .i64 0] 26)).alloc (.cells #[.string ⟨#[108, 101, 110]⟩, .string ⟨#[105, 102]⟩] 9)) (by decide) (strs_alloc _ _ (by simp) _ _ _ (fun j hj => match j, hj with
    | 0, _ => rfl
    | 1, _ => rfl)) (by omega) (by simp; omega)
  have b2 := b0.trans (b1.mono (by simp))
  clear X0 b1 b0
  go_enter Tryz.func206, Tryz.ntmps206
  go_wp2_with fail
  refine cO.mono ?_
  rintro e w2 ⟨⟨p, rfl, hp⟩, b3⟩
  have X2 := X1.on b3
  have B2 := b2.trans (b3.mono (by simp; omega))
  have hz2 : w.heap.size + 2 ≤ w2.heap.size := by have := b3.size; simpa using this
  have rd2 := HR.out.on B2
  have BB2 := But.of_below' B2 (r := r) (by omega)
  clear X1 b2 b3 cO
  cases hn : nxT (sgT lenIf) ts with
  | some y =>
    obtain ⟨tt, rs⟩ := y
    have cT := take_sign_some lenIf p w2 r tt ts rs rd2 hp.sign hn
    have hU := uOne_call (sub := sub) hn
    have hmo := many_ops (nxT_len hn).2
    have hts := HG.out tt (by rw [(nxT_len hn).1]; exact List.mem_cons_self)
    have hrs : rs <:+ ts := by rw [(nxT_len hn).1]; exact List.suffix_cons tt rs
    have hrl : rs.length < ts.length := by rw [(nxT_len hn).1]; simp
    have hm3 : manyT tt ≤ 3 := by rw [manyT]; split <;> omega
    have cB := fun W h1 h2 => bracketed_any (en := en) sub (manyT tt) hm3 rs hsuf (HG.out.suf hrs) (fun ts' h1 h2 => HC.out ts' (h1.trans hrs) (by omega)) W r h1 h2 hr
    have cA := fun W h1 => argsOf_any tt.2.1 W h1 _ _ hmo
    generalize manyT tt = mm at cB cA hU hm3
    obtain ⟨tk, tx, ta⟩ := tt
    rw [tokV] at cT
    simp only at cT cA hU hts
    clear hn hmo
    go_wp2_with fail
    refine cT.mono ?_
    rintro e w3 ⟨rfl, rd3, b3⟩
    have hz3 := b3.size
    have bb := al w3 (.cells #[.int .i64 tk, .string tx, .int .i64 (ta : Int)] 80)
    have X3 := (X2.but b3 (by omega)).on bb
    have BB3 := (BB2.trans b3).on bb hl
    have rd3' := rd3.on bb
    clear X2 cT
    go_wp2_with fail
    refine (cA _ (HE.out.but BB3 hr)).mono ?_
    rintro e w4 ⟨rfl, b4⟩
    have X4 := X3.on b4
    have BB4 := BB3.on b4 hl
    have rd4 := rd3'.on b4
    have hz4 : w3.heap.size + 1 ≤ w4.heap.size := by have := b4.size; simpa using this
    have T4 : ∀ i, w4.cell? ⟨w3.heap.size, i, none⟩ = (#[.int .i64 tk, .string tx, .int .i64 (ta : Int)] : Array Value)[i]? := fun i => by
      rw [b4.cell (p := ⟨w3.heap.size, i, none⟩) (by simp), World.cell?_alloc_at _ _ _ _ rfl]
    clear X3 cA BB3 rd3' bb
    go_wp2_with fail
    refine (cB _ rd4 (HE.out.but BB4 hr)).mono ?_
    rintro e w5 ⟨v, ok, xs, rfl, hx, hrd, hbt, hres⟩
    have hz5 := hbt.out.size
    have X5 := X4.but hbt.out (by omega)
    have BB5 := BB4.trans hbt.out
    have hx' := hx.out
    obtain ⟨q5, c5, rfl, hx1, hx2⟩ := hx'
    have g1 : w5.cell? ⟨w3.heap.size, 1, none⟩ = some (.string tx) := by rw [hbt.out.cell _ (by omega) (by omega), T4]; rfl
    have g2 : w5.cell? ⟨w3.heap.size, 2, none⟩ = some (.int .i64 (ta : Int)) := by rw [hbt.out.cell _ (by omega) (by omega), T4]; rfl
    have hlt5 : w3.heap.size < w5.heap.size := by omega
    obtain ⟨c0, c1, c2, c3, c4, c5', c6, cf, cl⟩ := X5
    have rf0 := cf 0
    have rf1 := cf 1
    have rf2 := cf 2
    have rf3 := cf 3
    have rf4 := cf 4
    have rf5 := cf 5
    have rf6 := cf 6
    clear cf T4 X4 cB hx1 hx2
    have hxx := ex_args (op := tx) (nm := ⟨#[]⟩) (vs := ⟨#[]⟩) (vt := 0) (vn := 0) (pos := (ta : Int)) hx.out (by unfold maxLen; omega) (by decide) (by decide)
    go_wp2
    refine bodyPost_ret (v := .tuple #[.agg #[.string tx, .string ⟨#[]⟩, .int .i64 0, .int .i64 0, .string ⟨#[]⟩, .slice q5 xs.length c5, .int .i64 (ta : Int)], .bool ok]) (by simp [results, Tryz.results206, go_sem, c0, c1, c2, c3, c4, c5', c6]) rfl ⟨_, ok, .node tx ⟨#[]⟩ 0 0 ⟨#[]⟩ (ta : Int) xs, rfl, ?_, ?_, ?_, ?_⟩
    · exact ExIn.low (fun b _ (hb : w4.heap.size ≤ b) => (show w.heap.size ≤ b by omega)) _ _ (hxx.set7 (fun b (hb : w4.heap.size ≤ b) => by omega) _ _ _ _ _ _ _)
    · rw [hU]; exact hrd.out.set7 (by omega) _ _ _ _ _ _ _
    · exact BB5.set7 (Nat.le_refl _) (by omega) _ _ _ _ _ _ _
    · rw [hU]; exact map_ifs hres.out
  | none =>
    have cT := take_sign_none lenIf p w2 r ts rd2 hp.sign hn
    rw [noTok] at cT
    go_wp2_with fail
    refine cT.mono ?_
    rintro e w3 ⟨rfl, rd3, b3⟩
    have hz3 := b3.size
    have bb := al w3 (.cells #[.int .i64 0, .string ⟨#[]⟩, .int .i64 0] 80)
    have X3 := (X2.but b3 (by omega)).on bb
    have BB3 := (BB2.trans b3).on bb hl
    have rd3' := rd3.on bb
    have he3 := HE.out.but BB3 hr
    clear X2 cT
    cases hv : nxT vlT ts with
    | some y =>
      obtain ⟨tt, rs⟩ := y
      have cT := take_val_some _ r tt ts rs rd3' HG.out he3 hv
      have hU := uOne_val (sub := sub) hn hv
      have hts := HG.out tt (by rw [(nxT_len hv).1]; exact List.mem_cons_self)
      have hvt := (nxT_len hv).2
      have cV := fun W (h1 : TEnv W) => parse_any tt.2.1 W (by omega) h1.env
      rw [vlT] at hvt
      rw [valE] at hU
      obtain ⟨tk, tx, ta⟩ := tt
      rw [tokV] at cT
      simp only at cT cV hU hts hvt
      obtain ⟨vt, vn, vl, er, hrv⟩ : ∃ vt vn vl er, readV tx = (vt, vn, vl, er) := ⟨_, _, _, _, rfl⟩
      rw [hrv] at cV hU hvt
      simp only at hvt
      obtain rfl : er = 0 := by simpa using hvt
      rw [readR, errV, if_pos rfl] at cV
      simp only at cV hU
      have hvl : vl.length ≤ 40 := (shown_read vt vn vl tx hrv).2.2.1
      have hvl2 : (⟨vl.toArray⟩ : ByteArray).size ≤ maxLen := by show vl.toArray.size ≤ maxLen; rw [List.size_toArray]; unfold maxLen; omega
      generalize (⟨vl.toArray⟩ : ByteArray) = vs at cV hU hvl2
      clear hn hv hrv hvt
      go_wp2_with fail
      refine cT.mono ?_
      rintro e w4 ⟨rfl, rd4, b4⟩
      have hz4 : w3.heap.size + 1 ≤ w4.heap.size := by have := b4.size; simpa using this
      have bb4 := al w4 (.cells #[.int .i64 tk, .string tx, .int .i64 (ta : Int)] 80)
      have X4 := (X3.but b4 (by omega)).on bb4
      have BB4 := (BB3.trans b4).on bb4 hl
      have rd4' := rd4.on bb4
      clear X3 cT bb
      go_wp2_with fail
      refine (cV _ (HE.out.but BB4 hr)).mono ?_
      rintro e w5 ⟨rfl, b5⟩
      have hz5 : w4.heap.size + 1 ≤ w5.heap.size := by have := b5.size; simpa using this
      have hlt5 : w4.heap.size < w5.heap.size := by omega
      have g2 : w5.cell? ⟨w4.heap.size, 2, none⟩ = some (.int .i64 (ta : Int)) := by rw [b5.cell (p := ⟨w4.heap.size, 2, none⟩) (by simp), World.cell?_alloc_at _ _ _ _ rfl]; rfl
      obtain ⟨c0, c1, c2, c3, c4, c5, c6, cf, cl⟩ := X4.on b5
      have rf0 := cf 0
      have rf1 := cf 1
      have rf2 := cf 2
      have rf3 := cf 3
      have rf4 := cf 4
      have rf5 := cf 5
      have rf6 := cf 6
      have BB5 := BB4.on b5 hl
      have rd5 := rd4'.on b5
      clear cf X4 cV
      go_wp2
      refine bodyPost_ret (v := .tuple #[.agg #[.string ⟨#[118, 97, 108]⟩, .string ⟨#[]⟩, .int .i64 vt, .int .i64 vn, .string vs, .slice none 0 0, .int .i64 (ta : Int)], .bool true]) (by simp [results, Tryz.results206, go_sem, c0, c1, c2, c3, c4, c5, c6, cl]) rfl ⟨_, true, .node ⟨#[118, 97, 108]⟩ ⟨#[]⟩ vt vn vs (ta : Int) [], rfl, ?_, ?_, ?_, ?_⟩
      · exact ex_leaf (by decide) (by decide) hvl2
      · rw [hU]; exact (rd5.set7 (by omega) _ _ _ _ _ _ _).on (al _ _)
      · exact (BB5.set7 (Nat.le_refl _) (by omega) _ _ _ _ _ _ _).on (al _ _) hl
      · rw [hU]; exact rfl
    | none =>
      have cT := take_val_none _ r ts rd3' HG.out he3 hv
      rw [noTok] at cT
      go_wp2_with fail
      refine cT.mono ?_
      rintro e w4 ⟨rfl, rd4, b4⟩
      have hz4 : w3.heap.size + 1 ≤ w4.heap.size := by have := b4.size; simpa using this
      have bb4 := al w4 (.cells #[.int .i64 0, .string ⟨#[]⟩, .int .i64 0] 80)
      have X4 := (X3.but b4 (by omega)).on bb4
      have BB4 := (BB3.trans b4).on bb4 hl
      have rd4' := rd4.on bb4
      have he4 := HE.out.but BB4 hr
      clear X3 cT bb
      cases hc : nxT nmT ts with
      | some y =>
        obtain ⟨tt, rs⟩ := y
        have cT := take_col_some _ r tt ts rs rd4' HG.out he4 hc
        have hU := uOne_col (sub := sub) hn hv hc
        have hts := HG.out tt (by rw [(nxT_len hc).1]; exact List.mem_cons_self)
        rw [colE1] at hU
        obtain ⟨tk, tx, ta⟩ := tt
        rw [tokV] at cT
        simp only at cT hU hts
        clear hn hv hc
        go_wp2_with fail
        refine cT.mono ?_
        rintro e w5 ⟨rfl, rd5, b5⟩
        have hz5 : w4.heap.size + 1 ≤ w5.heap.size := by have := b5.size; simpa using this
        obtain ⟨c0, c1, c2, c3, c4, c5, c6, cf, cl⟩ := X4.but b5 (by omega)
        have rf0 := cf 0
        have rf1 := cf 1
        have rf2 := cf 2
        have rf3 := cf 3
        have rf4 := cf 4
        have rf5 := cf 5
        have rf6 := cf 6
        have BB5 := BB4.trans b5
        clear cf X4
        go_wp2
        refine bodyPost_ret (v := .tuple #[.agg #[.string ⟨#[99, 111, 108]⟩, .string tx, .int .i64 0, .int .i64 0, .string ⟨#[]⟩, .slice none 0 0, .int .i64 (ta : Int)], .bool true]) (by simp [results, Tryz.results206, go_sem, c0, c1, c2, c3, c4, c5, c6, cl]) rfl ⟨_, true, .node ⟨#[99, 111, 108]⟩ tx 0 0 ⟨#[]⟩ (ta : Int) [], rfl, ?_, ?_, ?_, ?_⟩
        · exact ex_leaf (by decide) (by unfold maxLen; omega) (by decide)
        · rw [hU]; exact (rd5.set7 (by omega) _ _ _ _ _ _ _).on (al _ _)
        · exact (BB5.set7 (Nat.le_refl _) (by omega) _ _ _ _ _ _ _).on (al _ _) hl
        · rw [hU]; exact rfl
      | none =>
        have cT := take_col_none _ r ts rd4' HG.out he4 hc
        have HU : Hid (uOne sub ts = ((uBr sub 1 [] ts).1.bind List.head?, (uBr sub 1 [] ts).2)) := uOne_br (sub := sub) hn hv hc
        rw [noTok] at cT
        clear hn hv hc
        go_wp2_with fail
        refine cT.mono ?_
        rintro e w5 ⟨rfl, rd5, b5⟩
        have hz5 : w4.heap.size + 1 ≤ w5.heap.size := by have := b5.size; simpa using this
        have bb5 := al w5 (.cells #[.int .i64 0, .string ⟨#[]⟩, .int .i64 0] 80)
        have X5 := (X4.but b5 (by omega)).on bb5
        have BB5 := (BB4.trans b5).on bb5 hl
        have rd5' := rd5.on bb5
        have cB := bracketed_any sub 1 (by decide) ts hsuf HG.out HC.out _ r rd5' (HE.out.but BB5 hr) hr
        clear X4 cT bb4
        go_wp2_with fail
        refine cB.mono ?_
        rintro e w6 ⟨v, ok, xs, rfl, hx, hrd, hbt, hres⟩
        have hz6 : w5.heap.size + 1 ≤ w6.heap.size := by have := hbt.out.size; simpa using this
        obtain ⟨c0, c1, c2, c3, c4, c5, c6, cf, cl⟩ := X5.but hbt.out (by omega)
        have rf0 := cf 0
        have rf1 := cf 1
        have rf2 := cf 2
        have rf3 := cf 3
        have rf4 := cf 4
        have rf5 := cf 5
        have rf6 := cf 6
        have BB6 := BB5.trans hbt.out
        clear cf X5 cB
        cases ok
        · obtain ⟨q5, e5, rfl, _, _⟩ := hx.out
          have HU2 : Hid (uOne sub ts = (none, (uBr sub 1 [] ts).2)) := by show _ = _; rw [HU.out, hres.out]; rfl
          go_wp2
          refine bodyPost_ret (v := .tuple #[.agg #[.string ⟨#[]⟩, .string ⟨#[]⟩, .int .i64 0, .int .i64 0, .string ⟨#[]⟩, .slice none 0 0, .int .i64 0], .bool false]) (by simp [results, Tryz.results206, go_sem, c0, c1, c2, c3, c4, c5, c6]) rfl ⟨_, false, ex0, rfl, ?_, ?_, ?_, ?_⟩
          · exact ex_zero _ _
          · rw [HU2.out]; exact hrd.out.set7 (by omega) _ _ _ _ _ _ _
          · exact BB6.set7 (Nat.le_refl _) (by omega) _ _ _ _ _ _ _
          · rw [HU2.out]; exact rfl
        · have hlen := uBr_len 1 [] ts xs hres.out
          obtain ⟨x, rfl⟩ : ∃ x, xs = [x] := by
            match xs, hlen with
            | [x], _ => exact ⟨x, rfl⟩
          obtain ⟨q5, e5, rfl, _, h7⟩ := hx.out
          have HU2 : Hid (uOne sub ts = (some x, (uBr sub 1 [] ts).2)) := by show _ = _; rw [HU.out, hres.out]; rfl
          rcases h7 with h7 | ⟨gb, go, rfl, hgl, hglo, h7⟩
          · simp at h7
          rw [ExsIn] at h7
          obtain ⟨⟨v0, v1, v2, v3, v4, v5, v6, e0, e1, e2, e3, e4, e5', e6, hxx⟩, _⟩ := h7
          obtain ⟨u0, u1, u2, u3, u4, u5, u6, u7, u8, huu⟩ := hxx.agg
          injection huu with huu
          simp only [Array.mk.injEq, List.cons.injEq, and_true] at huu
          obtain ⟨rfl, rfl, rfl, rfl, rfl, rfl, rfl⟩ := huu
          go_wp2
          refine bodyPost_ret (v := .tuple #[.agg #[.string u0, .string u1, .int .i64 u2, .int .i64 u3, .string u4, .slice u5 u6 u7, .int .i64 u8], .bool true]) (by simp [results, Tryz.results206, go_sem, c0, c1, c2, c3, c4, c5, c6]) rfl ⟨_, true, x, rfl, ?_, ?_, ?_, ?_⟩
          · exact ExIn.low (fun b _ hb => (show w.heap.size ≤ b by simp at hb; omega)) _ _ (hxx.set7 (fun b hb => by simp at hb; omega) _ _ _ _ _ _ _)
          · rw [HU2.out]; exact hrd.out.set7 (by omega) _ _ _ _ _ _ _
          · exact BB6.set7 (Nat.le_refl _) (by omega) _ _ _ _ _ _ _
          · rw [HU2.out]; exact rfl
end Go.Proofs.YtkbhmghdonomnaaGreatDoor
namespace Go.Proofs.YtkbhmghdonomnaaGreatDoor
open Go.RowKit Go.BigFrame
set_option linter.unusedVariables false

theorem reads_all : ∀ (f : Nat) (ts : List Tok), Fit ts →
    (ts.length * 8 + 7 < f → Reads 112 (uE f 0) ts) ∧
    (ts.length * 8 + 6 < f → Reads 129 (uE f 1) ts) ∧
    (ts.length * 8 + 5 < f → Reads 147 (uE f 2) ts) ∧
    (ts.length * 8 + 4 < f → Reads 172 (uE f 3) ts) ∧
    (ts.length * 8 + 3 < f → Reads 185 (uE f 4) ts) ∧
    (ts.length * 8 + 2 < f → Reads 194 (uE f 5) ts) ∧
    (ts.length * 8 + 1 < f → Reads 200 (uE f 6) ts) ∧
    (ts.length * 8 < f → Reads 206 (uE f 7) ts)
  | 0, ts, hg => ⟨fun h => absurd h (by omega), fun h => absurd h (by omega), fun h => absurd h (by omega), fun h => absurd h (by omega), fun h => absurd h (by omega), fun h => absurd h (by omega), fun h => absurd h (by omega), fun h => absurd h (by omega)⟩
  | f + 1, ts, hg => by
    have ih := fun ts' (hs : ts' <:+ ts) => reads_all f ts' (hg.suf hs)
    have e0 : uE (f + 1) 0 = uSev (uE f 1) [[111, 114]] := funext fun ts => by rw [uE]
    have e1 : uE (f + 1) 1 = uSev (uE f 2) [[97, 110, 100]] := funext fun ts => by rw [uE]
    have e2 : uE (f + 1) 2 = uAhead [110, 111, 116] [[110, 111, 116]] (uE f 2) (uE f 3) := funext fun ts => by rw [uE]
    have e3 : uE (f + 1) 3 = uCmp (uE f 4) := funext fun ts => by rw [uE]
    have e4 : uE (f + 1) 4 = uSev (uE f 5) [[43], [45]] := funext fun ts => by rw [uE]
    have e5 : uE (f + 1) 5 = uSev (uE f 6) [[42], [47], [37]] := funext fun ts => by rw [uE]
    have e6 : uE (f + 1) 6 = uAhead [110, 101, 103] [[45]] (uE f 6) (uE f 7) := funext fun ts => by rw [uE]
    have e7 : uE (f + 1) 7 = uOne (uE f 0) := funext fun ts => by rw [uE] <;> simp
    rw [e0, e1, e2, e3, e4, e5, e6, e7]
    refine ⟨fun h => ?_, fun h => ?_, fun h => ?_, fun h => ?_, fun h => ?_, fun h => ?_, fun h => ?_, fun h => ?_⟩
    · exact expression_any _ ts (uE_suf f 1) hg fun ts' hs => (ih ts' hs).2.1 (by have := hs.length_le; omega)
    · exact conjunction_any _ ts (uE_suf f 2) hg fun ts' hs => (ih ts' hs).2.2.1 (by have := hs.length_le; omega)
    · exact denial_any _ _ ts hg (fun t rs e => (ih rs (by rw [e]; exact List.suffix_cons t rs)).2.2.1 (by rw [e, List.length_cons] at h; omega)) ((ih ts List.suffix_rfl).2.2.2.1 (by omega))
    · exact comparison_any _ ts (uE_suf f 4) hg fun ts' hs => (ih ts' hs).2.2.2.2.1 (by have := hs.length_le; omega)
    · exact sum_any _ ts (uE_suf f 5) hg fun ts' hs => (ih ts' hs).2.2.2.2.2.1 (by have := hs.length_le; omega)
    · exact product_any _ ts (uE_suf f 6) hg fun ts' hs => (ih ts' hs).2.2.2.2.2.2.1 (by have := hs.length_le; omega)
    · exact negation_any _ _ ts hg (fun t rs e => (ih rs (by rw [e]; exact List.suffix_cons t rs)).2.2.2.2.2.2.1 (by rw [e, List.length_cons] at h; omega)) ((ih ts List.suffix_rfl).2.2.2.2.2.2.2 (by omega))
    · exact operand_any _ ts (uE_suf f 0) hg fun ts' hs hl => (ih ts' hs).1 (by omega)
theorem expression_reads (ts : List Tok) (hg : Fit ts) : Reads 112 (uE (ts.length * 8 + 8) 0) ts := (reads_all _ ts hg).1 (by omega)
end Go.Proofs.YtkbhmghdonomnaaGreatDoor
