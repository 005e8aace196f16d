/-
  The program's reader of words (package tree): oneAhead.
-/
import Derived.Test.YtomakklbfjkdpaaGreatDoorTreeR5
namespace Go.Proofs.YtomakklbfjkdpaaGreatDoor
open Go.RowKit Go.BigFrame
set_option linter.unusedVariables false

theorem uAhead_some {opl : List UInt8} {gs : List (List UInt8)} {sub other : List Tok → Option Ex × List Tok} {ts rs : List Tok} {t : Tok} (hn : nxT (sgT gs) ts = some (t, rs)) : uAhead opl gs sub other ts = ((sub rs).1.map fun e => op1 opl (t.2.2 : Int) [e], (sub rs).2) := by
  rw [uAhead, hn]
  simp only
  cases sub rs with
  | mk o r => cases o <;> rfl
theorem map_if {ok : Bool} {x : Ex} {o : Option Ex} {F : Ex → Ex} (h : o = if ok = true then some x else none) : o.map F = if ok = true then some (F x) else none := by
  subst h
  cases ok <;> rfl
set_option maxHeartbeats 8000000 in
set_option maxRecDepth 20000 in
theorem oneAhead_any (f g : FuncId) (hentf : ∀ (args : Array Value) (W : World), Sem.run Tryz.prog (callFunc f args) W = .ok (.enter f args) W) (hentg : ∀ (args : Array Value) (W : World), Sem.run Tryz.prog (callFunc g args) W = .ok (.enter g args) W) (sub other : List Tok → Option Ex × List Tok) (opl : List UInt8) (hop : (⟨opl.toArray⟩ : ByteArray).size ≤ maxLen) (gs : List (List UInt8)) (ts : List Tok) (hg : Fit ts)
    (hsub : ∀ t rs, ts = t :: rs → Reads f sub rs) (hoth : Reads g other ts) (w : World) (r p : Nat) (h : RdAt w r ts) (hs : SignBut w r p gs) (henv : TEnv w) (hr : 12 ≤ r) :
    Calls Tryz.prog 99 #[.pointer (some ⟨r, 0, none⟩), .string ⟨opl.toArray⟩, signV p, partV f r, partV g r] w fun e w' => ∃ v ok x, e = .returned (.tuple #[v, .bool ok]) ∧ Aside (ExIn w' (w.heap.size ≤ ·) v x) ∧ Aside (RdAt w' r (uAhead opl gs sub other ts).2) ∧ Aside (But r w w') ∧ Hid ((uAhead opl gs sub other ts).1 = if ok = true then some x else none) := by
  have HR : Aside (RdAt w r ts) := h
  have HS : Aside (SignBut w r p gs) := hs
  have HE : Aside (TEnv w) := henv
  have hl := h.lt
  clear h hs henv
  have b0 := al w (.cells #[.string ⟨#[]⟩, .string ⟨#[]⟩, .int .i64 0, .int .i64 0, .string ⟨#[]⟩, .slice none 0 0, .int .i64 0] 26)
  have X0 := box7_alloc w (.string ⟨#[]⟩) (.string ⟨#[]⟩) (.int .i64 0) (.int .i64 0) (.string ⟨#[]⟩) (.slice none 0 0) (.int .i64 0) 26
  cases hn : nxT (sgT gs) ts with
  | none =>
    have cT := take_sign_none gs p _ r ts (HR.out.on b0) (HS.out.but (But.of_below' b0 (by omega))).sign hn
    have hU : uAhead opl gs sub other ts = other ts := by rw [uAhead, hn]
    rw [hU]
    rw [noTok] at cT
    clear hn hU
    go_enter Tryz.func99, Tryz.ntmps99
    go_wp2_with fail
    refine cT.mono ?_
    rintro e w2 ⟨rfl, rd2, b2⟩
    have X2 := X0.but b2 (by omega)
    have hz2 : w.heap.size + 1 ≤ w2.heap.size := by have := b2.size; simpa using this
    have bb := al w2 (.cells #[.int .i64 0, .string ⟨#[]⟩, .int .i64 0] 83)
    have B2 : But r w _ := (But.of_below' b0 (by omega)).trans b2
    clear b2 b0 X0 cT
    go_wp2_with fail
    refine (hoth _ r (rd2.on bb) (HE.out.but (B2.on bb hl) hr) hr).mono ?_
    rintro e w3 ⟨v, ok, x, rfl, hx, hrd, hbt, hres⟩
    obtain ⟨u0, u1, u2, u3, u4, u5, u6, u7, u8, rfl⟩ := hx.out.agg
    obtain ⟨c0, c1, c2, c3, c4, c5, c6, cf, cl⟩ := (X2.on bb).but hbt.out (by omega)
    have rf0 := cf 0
    have rf1 := cf 1
    have rf2 := cf 2
    have rf3 := cf 3
    have rf4 := cf 4
    have rf5 := cf 5
    have rf6 := cf 6
    have B3 := (B2.on bb hl).trans hbt.out
    clear cf X2
    go_wp2
    refine bodyPost_ret (v := .tuple #[.agg #[.string u0, .string u1, .int .i64 u2, .int .i64 u3, .string u4, .slice u5 u6 u7, .int .i64 u8], .bool ok]) (by simp [results, Tryz.results99, go_sem, c0, c1, c2, c3, c4, c5, c6]) rfl ⟨_, ok, x, rfl, ?_, ?_, ?_, hres⟩
    · exact ExIn.low (fun b _ hb => (show w.heap.size ≤ b by simp at hb; omega)) _ _ (hx.out.set7 (fun b hb => by simp at hb; omega) _ _ _ _ _ _ _)
    · exact hrd.out.set7 (by omega) _ _ _ _ _ _ _
    · exact B3.set7 (Nat.le_refl _) (by omega) _ _ _ _ _ _ _
  | some y =>
    obtain ⟨tt, rs⟩ := y
    have cT := take_sign_some gs p _ r tt ts rs (HR.out.on b0) (HS.out.but (But.of_below' b0 (by omega))).sign hn
    have cP := hsub tt rs (nxT_len hn).1
    have HN : Hid (nxT (sgT gs) ts = some (tt, rs)) := hn
    obtain ⟨tk, tx, ta⟩ := tt
    rw [tokV] at cT
    simp only at cT
    clear hn
    go_enter Tryz.func99, Tryz.ntmps99
    go_wp2_with fail
    refine cT.mono ?_
    rintro e w2 ⟨rfl, rd2, b2⟩
    have X2 := X0.but b2 (by omega)
    have hz2 : w.heap.size + 1 ≤ w2.heap.size := by have := b2.size; simpa using this
    have bb := al w2 (.cells #[.int .i64 tk, .string tx, .int .i64 (ta : Int)] 83)
    have B2 : But r w _ := (But.of_below' b0 (by omega)).trans b2
    clear b2 b0 X0 cT
    go_wp2_with fail
    refine (cP _ r (rd2.on bb) (HE.out.but (B2.on bb hl) hr) hr).mono ?_
    rintro e w3 ⟨v, ok, x, rfl, hx, hrd, hbt, hres⟩
    obtain ⟨u0, u1, u2, u3, u4, u5, u6, u7, u8, rfl⟩ := hx.out.agg
    obtain ⟨c0, c1, c2, c3, c4, c5, c6, cf, cl⟩ := (X2.on bb).but hbt.out (by omega)
    have rf0 := cf 0
    have rf1 := cf 1
    have rf2 := cf 2
    have rf3 := cf 3
    have rf4 := cf 4
    have rf5 := cf 5
    have rf6 := cf 6
    have B3 := (B2.on bb hl).trans hbt.out
    have hz3 : w2.heap.size + 1 ≤ w3.heap.size := by have := hbt.out.size; simpa using this
    have hlt3 : w2.heap.size < w3.heap.size := by omega
    have g2 : w3.cell? ⟨w2.heap.size, 2, none⟩ = some (.int .i64 (ta : Int)) := by
      rw [hbt.out.cell _ (by simp) (by omega), World.cell?_alloc_at _ _ _ _ rfl]; rfl
    have hU := uAhead_some (opl := opl) (sub := sub) (other := other) HN.out
    have RU := hx.out.set7 (z := w.heap.size) (fun b hb => by simp at hb; omega) (.string ⟨opl.toArray⟩) (.string ⟨#[]⟩) (.int .i64 0) (.int .i64 0) (.string ⟨#[]⟩) (.slice (some ⟨w3.heap.size + 1, 0, none⟩) 1 1) (.int .i64 (ta : Int))
    clear cf X2
    go_wp2
    refine bodyPost_ret (v := .tuple #[.agg #[.string ⟨opl.toArray⟩, .string ⟨#[]⟩, .int .i64 0, .int .i64 0, .string ⟨#[]⟩, .slice (some ⟨w3.heap.size + 1, 0, none⟩) 1 1, .int .i64 (ta : Int)], .bool ok]) (by simp [results, Tryz.results99, go_sem, c0, c1, c2, c3, c4, c5, c6, cl]) rfl ⟨_, ok, op1 opl (ta : Int) [x], rfl, ?_, ?_, ?_, ?_⟩
    · exact ex_one (ExIn.low (lo' := (w.heap.size ≤ ·)) (fun b _ hb => (show w.heap.size ≤ b by simp at hb; omega)) _ _ RU) ((al _ _).trans ((al _ _).mono (by simp))) (by simp [World.setCell]) (show w.heap.size ≤ w3.heap.size + 1 by omega) (fun i => World.cell?_alloc_at _ _ _ _ (by simp [World.setCell])) hop (by decide) (by decide)
    · rw [hU]; exact ((hrd.out.set7 (by omega) _ _ _ _ _ _ _).on (al _ _)).on (al _ _)
    · exact ((B3.set7 (Nat.le_refl _) (by omega) _ _ _ _ _ _ _).on (al _ _) hl).on (al _ _) hl
    · rw [hU]; exact map_if hres.out
set_option maxHeartbeats 4000000 in
set_option maxRecDepth 20000 in
theorem denial_any (sub other : List Tok → Option Ex × List Tok) (ts : List Tok) (hg : Fit ts) (hsub : ∀ t rs, ts = t :: rs → Reads 76 sub rs) (hoth : Reads 100 other ts) : Reads 76 (uAhead [110, 111, 116] [[110, 111, 116]] sub other) ts := by
  intro w r h henv hr
  have HR : Aside (RdAt w r ts) := h
  have HE : Aside (TEnv w) := henv
  have hl := h.lt
  clear h henv
  have cS := fun W p h hs he => oneAhead_any 76 100 (fun args W => by kernel_rfl) (fun args W => by kernel_rfl) sub other [110, 111, 116] (by decide) [[110, 111, 116]] ts hg hsub hoth W r p h hs he hr
  have X0 := box7_alloc w (.string ⟨#[]⟩) (.string ⟨#[]⟩) (.int .i64 0) (.int .i64 0) (.string ⟨#[]⟩) (.slice none 0 0) (.int .i64 0) 26
  have b0 := (Below.refl w.heap.size w).alloc (Nat.le_refl _) (.cells #[.string ⟨#[]⟩, .string ⟨#[]⟩, .int .i64 0, .int .i64 0, .string ⟨#[]⟩, .slice none 0 0, .int .i64 0] 26)
  have b1 := al (w.alloc (.cells #[.string ⟨#[]⟩, .string ⟨#[]⟩, .int .i64 0, .int .i64 0, .string ⟨#[]⟩, .slice none 0 0, .int .i64 0] 26)) (.cells #[.string ⟨#[110, 111, 116]⟩] 9)
  have X1 := X0.on b1
  have cO := oneOf_but (w.heap.size + 1) 1 r [[110, 111, 116]] ((w.alloc (.cells #[.string ⟨#[]⟩, .string ⟨#[]⟩, .int .i64 0, .int .i64 0, .string ⟨#[]⟩, .slice none 0 0, .int .i64 0] 26)).alloc (.cells #[.string ⟨#[110, 111, 116]⟩] 9)) (by decide) (strs_alloc _ _ (by simp) _ _ _ (fun j hj => match j, hj with
    | 0, _ => rfl)) (by omega) (by simp; omega)
  have b2 := b0.trans (b1.mono (by simp))
  clear X0 b1 b0
  go_enter Tryz.func76, Tryz.ntmps76
  go_wp2_with fail
  refine cO.mono ?_
  rintro e w2 ⟨⟨p, rfl, hp⟩, b3⟩
  have X2 := X1.on b3
  have B2 := b2.trans (b3.mono (by simp; omega))
  have hz2 : w.heap.size + 2 ≤ w2.heap.size := by have := b3.size; simpa using this
  clear X1 b2 b3 cO
  go_wp2_with fail
  refine (cS _ p (HR.out.on B2) hp (HE.out.on B2)).mono ?_
  rintro e w3 ⟨v, ok, x, rfl, hx, hrd, hbt, hres⟩
  obtain ⟨u0, u1, u2, u3, u4, u5, u6, u7, u8, rfl⟩ := hx.out.agg
  obtain ⟨c0, c1, c2, c3, c4, c5, c6, cf, cl⟩ := X2.but hbt.out (by omega)
  have rf0 := cf 0
  have rf1 := cf 1
  have rf2 := cf 2
  have rf3 := cf 3
  have rf4 := cf 4
  have rf5 := cf 5
  have rf6 := cf 6
  clear cf X2 cS
  go_wp2
  refine bodyPost_ret (v := .tuple #[.agg #[.string u0, .string u1, .int .i64 u2, .int .i64 u3, .string u4, .slice u5 u6 u7, .int .i64 u8], .bool ok]) (by simp [results, Tryz.results76, go_sem, c0, c1, c2, c3, c4, c5, c6]) rfl ⟨_, ok, x, rfl, ?_, ?_, ?_, hres⟩
  · exact ExIn.low (fun b _ (hb : w2.heap.size ≤ b) => (show w.heap.size ≤ b by omega)) _ _ (hx.out.set7 (fun b (hb : w2.heap.size ≤ b) => by omega) _ _ _ _ _ _ _)
  · exact hrd.out.set7 (by omega) _ _ _ _ _ _ _
  · exact ((But.of_below' B2 (by omega)).trans hbt.out).set7 (Nat.le_refl _) (by omega) _ _ _ _ _ _ _
set_option maxHeartbeats 4000000 in
set_option maxRecDepth 20000 in
theorem negation_any (sub other : List Tok → Option Ex × List Tok) (ts : List Tok) (hg : Fit ts) (hsub : ∀ t rs, ts = t :: rs → Reads 146 sub rs) (hoth : Reads 159 other ts) : Reads 146 (uAhead [110, 101, 103] [[45]] sub other) ts := by
  intro w r h henv hr
  have HR : Aside (RdAt w r ts) := h
  have HE : Aside (TEnv w) := henv
  have hl := h.lt
  clear h henv
  have cS := fun W p h hs he => oneAhead_any 146 159 (fun args W => by kernel_rfl) (fun args W => by kernel_rfl) sub other [110, 101, 103] (by decide) [[45]] ts hg hsub hoth W r p h hs he hr
  have X0 := box7_alloc w (.string ⟨#[]⟩) (.string ⟨#[]⟩) (.int .i64 0) (.int .i64 0) (.string ⟨#[]⟩) (.slice none 0 0) (.int .i64 0) 26
  have b0 := (Below.refl w.heap.size w).alloc (Nat.le_refl _) (.cells #[.string ⟨#[]⟩, .string ⟨#[]⟩, .int .i64 0, .int .i64 0, .string ⟨#[]⟩, .slice none 0 0, .int .i64 0] 26)
  have b1 := al (w.alloc (.cells #[.string ⟨#[]⟩, .string ⟨#[]⟩, .int .i64 0, .int .i64 0, .string ⟨#[]⟩, .slice none 0 0, .int .i64 0] 26)) (.cells #[.string ⟨#[45]⟩] 9)
  have X1 := X0.on b1
  have cO := oneOf_but (w.heap.size + 1) 1 r [[45]] ((w.alloc (.cells #[.string ⟨#[]⟩, .string ⟨#[]⟩, .int .i64 0, .int .i64 0, .string ⟨#[]⟩, .slice none 0 0, .int .i64 0] 26)).alloc (.cells #[.string ⟨#[45]⟩] 9)) (by decide) (strs_alloc _ _ (by simp) _ _ _ (fun j hj => match j, hj with
    | 0, _ => rfl)) (by omega) (by simp; omega)
  have b2 := b0.trans (b1.mono (by simp))
  clear X0 b1 b0
  go_enter Tryz.func146, Tryz.ntmps146
  go_wp2_with fail
  refine cO.mono ?_
  rintro e w2 ⟨⟨p, rfl, hp⟩, b3⟩
  have X2 := X1.on b3
  have B2 := b2.trans (b3.mono (by simp; omega))
  have hz2 : w.heap.size + 2 ≤ w2.heap.size := by have := b3.size; simpa using this
  clear X1 b2 b3 cO
  go_wp2_with fail
  refine (cS _ p (HR.out.on B2) hp (HE.out.on B2)).mono ?_
  rintro e w3 ⟨v, ok, x, rfl, hx, hrd, hbt, hres⟩
  obtain ⟨u0, u1, u2, u3, u4, u5, u6, u7, u8, rfl⟩ := hx.out.agg
  obtain ⟨c0, c1, c2, c3, c4, c5, c6, cf, cl⟩ := X2.but hbt.out (by omega)
  have rf0 := cf 0
  have rf1 := cf 1
  have rf2 := cf 2
  have rf3 := cf 3
  have rf4 := cf 4
  have rf5 := cf 5
  have rf6 := cf 6
  clear cf X2 cS
  go_wp2
  refine bodyPost_ret (v := .tuple #[.agg #[.string u0, .string u1, .int .i64 u2, .int .i64 u3, .string u4, .slice u5 u6 u7, .int .i64 u8], .bool ok]) (by simp [results, Tryz.results146, go_sem, c0, c1, c2, c3, c4, c5, c6]) rfl ⟨_, ok, x, rfl, ?_, ?_, ?_, hres⟩
  · exact ExIn.low (fun b _ (hb : w2.heap.size ≤ b) => (show w.heap.size ≤ b by omega)) _ _ (hx.out.set7 (fun b (hb : w2.heap.size ≤ b) => by omega) _ _ _ _ _ _ _)
  · exact hrd.out.set7 (by omega) _ _ _ _ _ _ _
  · exact ((But.of_below' B2 (by omega)).trans hbt.out).set7 (Nat.le_refl _) (by omega) _ _ _ _ _ _ _
end Go.Proofs.YtomakklbfjkdpaaGreatDoor
