/-
  TreeR5, TreeR6, TreeR7, Row1, Row2, in one text.
-/
import Derived.Test.YtkoejkpjkcejcaaGreatDoorGrAf
import Derived.Test.YtkoejkpjkcejcaaGreatDoorProg
import Derived.WalkKit
import Derived.Below
import Derived.RowKitTokens
import Derived.Lib.OthersKept
import Derived.Lib.Strings
import Derived.Laws.RangeAny
import Derived.Deep.DeepCutAuto
namespace Go.Proofs.YtkoejkpjkcejcaaGreatDoor
open Go.RowKit Go.BigFrame
set_option linter.unusedVariables false
variable {en : Nat}

theorem oneOf_but (b c r : Nat) (gs : List (List UInt8)) (w : World) (h4 : gs.length ≤ 100) (hs : StrsIn w b gs) (hb : b ≠ r) (hr : r < w.heap.size) :
    Calls Tryz.prog 47 #[.slice (some ⟨b, 0, none⟩) gs.length c] w fun e w' => (∃ p, e = .returned (signV p) ∧ SignBut w' r p gs) ∧ Below w.heap.size w w' := by
  go_enter Tryz.func47, Tryz.ntmps47
  go_wp2
  go_ret
  have hb := (Below.refl w.heap.size w).alloc (Nat.le_refl _) (.cells #[.slice (some ⟨b, 0, none⟩) gs.length c] 46)
  exact ⟨⟨w.heap.size, rfl, b, c, by rw [World.cell?_alloc_at _ _ _ _ rfl]; rfl, by simp, hs.on hb, h4, by omega, by assumption⟩, hb⟩
theorem strs_alloc (w : World) (n : Nat) (hn : n = w.heap.size) (gs : List (List UInt8)) (cs : Array Value) (t : TypeId) (h : ∀ j (hj : j < gs.length), cs[j]? = some (.string ⟨gs[j].toArray⟩)) : StrsIn (w.alloc (.cells cs t)) n gs :=
  ⟨by simp; omega, fun j hj => by rw [World.cell?_alloc_at _ _ _ _ hn]; exact h j hj⟩
set_option maxHeartbeats 4000000 in
set_option maxRecDepth 20000 in
theorem expression_any (sub : List Tok → Option Ex × List Tok) (ts : List Tok) (hsuf : Suf sub) (hg : Fit ts) (hsub : ∀ ts', ts' <:+ ts → Reads 46 sub ts') : Reads 22 (uSev sub [[111, 114]]) ts := by
  intro w r en h henv hr
  have HR : Aside (RdAt en w r ts) := h
  have HE : Aside (TEnv w) := henv
  have hl := h.lt
  clear h henv
  have cS := fun W p h hs he => several_any (en := en) _ (fun args W => by kernel_rfl) sub [[111, 114]] ts hsuf hg hsub W r p h hs he hr
  have X0 := box7_alloc w (.string ⟨#[]⟩) (.string ⟨#[]⟩) (.int .i64 0) (.int .i64 0) (.string ⟨#[]⟩) (.slice none 0 0) (.int .i64 0) 26
  have b0 := (Below.refl w.heap.size w).alloc (Nat.le_refl _) (.cells #[.string ⟨#[]⟩, .string ⟨#[]⟩, .int .i64 0, .int .i64 0, .string ⟨#[]⟩, .slice none 0 0, .int .i64 0] 26)
  have b1 := al (w.alloc (.cells #[.string ⟨#[]⟩, .string ⟨#[]⟩, .int .i64 0, .int .i64 0, .string ⟨#[]⟩, .slice none 0 0, .int .i64 0] 26)) (.cells #[.string ⟨#[111, 114]⟩] 9)
  have X1 := X0.on b1
  have cO := oneOf_but (w.heap.size + 1) 1 r [[111, 114]] ((w.alloc (.cells #[.string ⟨#[]⟩, .string ⟨#[]⟩, .int .i64 0, .int .i64 0, .string ⟨#[]⟩, .slice none 0 0, .int .i64 0] 26)).alloc (.cells #[.string ⟨#[111, 114]⟩] 9)) (by decide) (strs_alloc _ _ (by simp) _ _ _ (fun j hj => match j, hj with
    | 0, _ => rfl)) (by omega) (by simp; omega)
  have b2 := b0.trans (b1.mono (by simp))
  clear X0 b1 b0
  go_enter Tryz.func22, Tryz.ntmps22
  go_wp2_with fail
  refine cO.mono ?_
  rintro e w2 ⟨⟨p, rfl, hp⟩, b3⟩
  have X2 := X1.on b3
  have B2 := b2.trans (b3.mono (by simp; omega))
  have hz2 : w.heap.size + 2 ≤ w2.heap.size := by have := b3.size; simpa using this
  clear X1 b2 b3 cO
  go_wp2_with fail
  refine (cS _ p (HR.out.on B2) hp (HE.out.on B2)).mono ?_
  rintro e w3 ⟨v, ok, x, rfl, hx, hrd, hbt, hres⟩
  obtain ⟨u0, u1, u2, u3, u4, u5, u6, u7, u8, rfl⟩ := hx.out.agg
  obtain ⟨c0, c1, c2, c3, c4, c5, c6, cf, cl⟩ := X2.but hbt.out (by omega)
  have rf0 := cf 0
  have rf1 := cf 1
  have rf2 := cf 2
  have rf3 := cf 3
  have rf4 := cf 4
  have rf5 := cf 5
  have rf6 := cf 6
  clear cf X2 cS
  have bE := al w3 (.cells #[.string u0, .string u1, .int .i64 u2, .int .i64 u3, .string u4, .slice u5 u6 u7, .int .i64 u8] 26)
  have hz3 : w.heap.size + 2 ≤ w3.heap.size := by have := hbt.out.size; omega
  cases ok
  · go_wp2
    refine bodyPost_ret (v := .tuple #[.agg #[.string ⟨#[]⟩, .string ⟨#[]⟩, .int .i64 0, .int .i64 0, .string ⟨#[]⟩, .slice none 0 0, .int .i64 0], .bool false]) (by simp [results, Tryz.results22, go_sem, c0, c1, c2, c3, c4, c5, c6, cl]) rfl ⟨_, false, .node ⟨#[]⟩ ⟨#[]⟩ 0 0 ⟨#[]⟩ 0 [], rfl, ?_, ?_, ?_, hres⟩
    · exact ex_leaf (by decide) (by decide) (by decide)
    · exact (hrd.out.set7 (by omega) _ _ _ _ _ _ _).on (al _ _)
    · exact (((But.of_below' B2 (by omega)).trans hbt.out).set7 (Nat.le_refl _) (by omega) _ _ _ _ _ _ _).on (al _ _) hl
  · go_wp2
    refine bodyPost_ret (v := .tuple #[.agg #[.string u0, .string u1, .int .i64 u2, .int .i64 u3, .string u4, .slice u5 u6 u7, .int .i64 u8], .bool true]) (by simp [results, Tryz.results22, go_sem, c0, c1, c2, c3, c4, c5, c6, cl]) rfl ⟨_, true, x, rfl, ?_, ?_, ?_, hres⟩
    · exact (ExIn.low (fun b _ (hb : w2.heap.size ≤ b) => (show w.heap.size ≤ b by omega)) _ _ (hx.out.set7 (fun b (hb : w2.heap.size ≤ b) => by omega) _ _ _ _ _ _ _)).on (al _ _)
    · exact (hrd.out.set7 (by omega) _ _ _ _ _ _ _).on (al _ _)
    · exact (((But.of_below' B2 (by omega)).trans hbt.out).set7 (Nat.le_refl _) (by omega) _ _ _ _ _ _ _).on (al _ _) hl
set_option maxHeartbeats 4000000 in
set_option maxRecDepth 20000 in
theorem conjunction_any (sub : List Tok → Option Ex × List Tok) (ts : List Tok) (hsuf : Suf sub) (hg : Fit ts) (hsub : ∀ ts', ts' <:+ ts → Reads 71 sub ts') : Reads 46 (uSev sub [[97, 110, 100]]) ts := by
  intro w r en h henv hr
  have HR : Aside (RdAt en w r ts) := h
  have HE : Aside (TEnv w) := henv
  have hl := h.lt
  clear h henv
  have cS := fun W p h hs he => several_any (en := en) _ (fun args W => by kernel_rfl) sub [[97, 110, 100]] ts hsuf hg hsub W r p h hs he hr
  have X0 := box7_alloc w (.string ⟨#[]⟩) (.string ⟨#[]⟩) (.int .i64 0) (.int .i64 0) (.string ⟨#[]⟩) (.slice none 0 0) (.int .i64 0) 26
  have b0 := (Below.refl w.heap.size w).alloc (Nat.le_refl _) (.cells #[.string ⟨#[]⟩, .string ⟨#[]⟩, .int .i64 0, .int .i64 0, .string ⟨#[]⟩, .slice none 0 0, .int .i64 0] 26)
  have b1 := al (w.alloc (.cells #[.string ⟨#[]⟩, .string ⟨#[]⟩, .int .i64 0, .int .i64 0, .string ⟨#[]⟩, .slice none 0 0, .int .i64 0] 26)) (.cells #[.string ⟨#[97, 110, 100]⟩] 9)
  have X1 := X0.on b1
  have cO := oneOf_but (w.heap.size + 1) 1 r [[97, 110, 100]] ((w.alloc (.cells #[.string ⟨#[]⟩, .string ⟨#[]⟩, .int .i64 0, .int .i64 0, .string ⟨#[]⟩, .slice none 0 0, .int .i64 0] 26)).alloc (.cells #[.string ⟨#[97, 110, 100]⟩] 9)) (by decide) (strs_alloc _ _ (by simp) _ _ _ (fun j hj => match j, hj with
    | 0, _ => rfl)) (by omega) (by simp; omega)
  have b2 := b0.trans (b1.mono (by simp))
  clear X0 b1 b0
  go_enter Tryz.func46, Tryz.ntmps46
  go_wp2_with fail
  refine cO.mono ?_
  rintro e w2 ⟨⟨p, rfl, hp⟩, b3⟩
  have X2 := X1.on b3
  have B2 := b2.trans (b3.mono (by simp; omega))
  have hz2 : w.heap.size + 2 ≤ w2.heap.size := by have := b3.size; simpa using this
  clear X1 b2 b3 cO
  go_wp2_with fail
  refine (cS _ p (HR.out.on B2) hp (HE.out.on B2)).mono ?_
  rintro e w3 ⟨v, ok, x, rfl, hx, hrd, hbt, hres⟩
  obtain ⟨u0, u1, u2, u3, u4, u5, u6, u7, u8, rfl⟩ := hx.out.agg
  obtain ⟨c0, c1, c2, c3, c4, c5, c6, cf, cl⟩ := X2.but hbt.out (by omega)
  have rf0 := cf 0
  have rf1 := cf 1
  have rf2 := cf 2
  have rf3 := cf 3
  have rf4 := cf 4
  have rf5 := cf 5
  have rf6 := cf 6
  clear cf X2 cS
  go_wp2
  refine bodyPost_ret (v := .tuple #[.agg #[.string u0, .string u1, .int .i64 u2, .int .i64 u3, .string u4, .slice u5 u6 u7, .int .i64 u8], .bool ok]) (by simp [results, Tryz.results46, go_sem, c0, c1, c2, c3, c4, c5, c6]) rfl ⟨_, ok, x, rfl, ?_, ?_, ?_, hres⟩
  · exact ExIn.low (fun b _ (hb : w2.heap.size ≤ b) => (show w.heap.size ≤ b by omega)) _ _ (hx.out.set7 (fun b (hb : w2.heap.size ≤ b) => by omega) _ _ _ _ _ _ _)
  · exact hrd.out.set7 (by omega) _ _ _ _ _ _ _
  · exact ((But.of_below' B2 (by omega)).trans hbt.out).set7 (Nat.le_refl _) (by omega) _ _ _ _ _ _ _
set_option maxHeartbeats 4000000 in
set_option maxRecDepth 20000 in
theorem sum_any (sub : List Tok → Option Ex × List Tok) (ts : List Tok) (hsuf : Suf sub) (hg : Fit ts) (hsub : ∀ ts', ts' <:+ ts → Reads 130 sub ts') : Reads 116 (uSev sub [[43], [45]]) ts := by
  intro w r en h henv hr
  have HR : Aside (RdAt en w r ts) := h
  have HE : Aside (TEnv w) := henv
  have hl := h.lt
  clear h henv
  have cS := fun W p h hs he => several_any (en := en) _ (fun args W => by kernel_rfl) sub [[43], [45]] ts hsuf hg hsub W r p h hs he hr
  have X0 := box7_alloc w (.string ⟨#[]⟩) (.string ⟨#[]⟩) (.int .i64 0) (.int .i64 0) (.string ⟨#[]⟩) (.slice none 0 0) (.int .i64 0) 26
  have b0 := (Below.refl w.heap.size w).alloc (Nat.le_refl _) (.cells #[.string ⟨#[]⟩, .string ⟨#[]⟩, .int .i64 0, .int .i64 0, .string ⟨#[]⟩, .slice none 0 0, .int .i64 0] 26)
  have b1 := al (w.alloc (.cells #[.string ⟨#[]⟩, .string ⟨#[]⟩, .int .i64 0, .int .i64 0, .string ⟨#[]⟩, .slice none 0 0, .int .i64 0] 26)) (.cells #[.string ⟨#[43]⟩, .string ⟨#[45]⟩] 9)
  have X1 := X0.on b1
  have cO := oneOf_but (w.heap.size + 1) 2 r [[43], [45]] ((w.alloc (.cells #[.string ⟨#[]⟩, .string ⟨#[]⟩, .int .i64 0, .int .i64 0, .string ⟨#[]⟩, .slice none 0 0, .int .i64 0] 26)).alloc (.cells #[.string ⟨#[43]⟩, .string ⟨#[45]⟩] 9)) (by decide) (strs_alloc _ _ (by simp) _ _ _ (fun j hj => match j, hj with
    | 0, _ => rfl
    | 1, _ => rfl)) (by omega) (by simp; omega)
  have b2 := b0.trans (b1.mono (by simp))
  clear X0 b1 b0
  go_enter Tryz.func116, Tryz.ntmps116
  go_wp2_with fail
  refine cO.mono ?_
  rintro e w2 ⟨⟨p, rfl, hp⟩, b3⟩
  have X2 := X1.on b3
  have B2 := b2.trans (b3.mono (by simp; omega))
  have hz2 : w.heap.size + 2 ≤ w2.heap.size := by have := b3.size; simpa using this
  clear X1 b2 b3 cO
  go_wp2_with fail
  refine (cS _ p (HR.out.on B2) hp (HE.out.on B2)).mono ?_
  rintro e w3 ⟨v, ok, x, rfl, hx, hrd, hbt, hres⟩
  obtain ⟨u0, u1, u2, u3, u4, u5, u6, u7, u8, rfl⟩ := hx.out.agg
  obtain ⟨c0, c1, c2, c3, c4, c5, c6, cf, cl⟩ := X2.but hbt.out (by omega)
  have rf0 := cf 0
  have rf1 := cf 1
  have rf2 := cf 2
  have rf3 := cf 3
  have rf4 := cf 4
  have rf5 := cf 5
  have rf6 := cf 6
  clear cf X2 cS
  go_wp2
  refine bodyPost_ret (v := .tuple #[.agg #[.string u0, .string u1, .int .i64 u2, .int .i64 u3, .string u4, .slice u5 u6 u7, .int .i64 u8], .bool ok]) (by simp [results, Tryz.results116, go_sem, c0, c1, c2, c3, c4, c5, c6]) rfl ⟨_, ok, x, rfl, ?_, ?_, ?_, hres⟩
  · exact ExIn.low (fun b _ (hb : w2.heap.size ≤ b) => (show w.heap.size ≤ b by omega)) _ _ (hx.out.set7 (fun b (hb : w2.heap.size ≤ b) => by omega) _ _ _ _ _ _ _)
  · exact hrd.out.set7 (by omega) _ _ _ _ _ _ _
  · exact ((But.of_below' B2 (by omega)).trans hbt.out).set7 (Nat.le_refl _) (by omega) _ _ _ _ _ _ _
set_option maxHeartbeats 4000000 in
set_option maxRecDepth 20000 in
theorem product_any (sub : List Tok → Option Ex × List Tok) (ts : List Tok) (hsuf : Suf sub) (hg : Fit ts) (hsub : ∀ ts', ts' <:+ ts → Reads 147 sub ts') : Reads 130 (uSev sub [[42], [47], [37]]) ts := by
  intro w r en h henv hr
  have HR : Aside (RdAt en w r ts) := h
  have HE : Aside (TEnv w) := henv
  have hl := h.lt
  clear h henv
  have cS := fun W p h hs he => several_any (en := en) _ (fun args W => by kernel_rfl) sub [[42], [47], [37]] ts hsuf hg hsub W r p h hs he hr
  have X0 := box7_alloc w (.string ⟨#[]⟩) (.string ⟨#[]⟩) (.int .i64 0) (.int .i64 0) (.string ⟨#[]⟩) (.slice none 0 0) (.int .i64 0) 26
  have b0 := (Below.refl w.heap.size w).alloc (Nat.le_refl _) (.cells #[.string ⟨#[]⟩, .string ⟨#[]⟩, .int .i64 0, .int .i64 0, .string ⟨#[]⟩, .slice none 0 0, .int .i64 0] 26)
  have b1 := al (w.alloc (.cells #[.string ⟨#[]⟩, .string ⟨#[]⟩, .int .i64 0, .int .i64 0, .string ⟨#[]⟩, .slice none 0 0, .int .i64 0] 26)) (.cells #[.string ⟨#[42]⟩, .string ⟨#[47]⟩, .string ⟨#[37]⟩] 9)
  have X1 := X0.on b1
  have cO := oneOf_but (w.heap.size + 1) 3 r [[42], [47], [37]] ((w.alloc (.cells #[.string ⟨#[]⟩, .string ⟨#[]⟩, .int .i64 0, .int .i64 0, .string ⟨#[]⟩, .slice none 0 0, .int .i64 0] 26)).alloc (.cells #[.string ⟨#[42]⟩, .string ⟨#[47]⟩, .string ⟨#[37]⟩] 9)) (by decide) (strs_alloc _ _ (by simp) _ _ _ (fun j hj => match j, hj with
    | 0, _ => rfl
    | 1, _ => rfl
    | 2, _ => rfl)) (by omega) (by simp; omega)
  have b2 := b0.trans (b1.mono (by simp))
  clear X0 b1 b0
  go_enter Tryz.func130, Tryz.ntmps130
  go_wp2_with fail
  refine cO.mono ?_
  rintro e w2 ⟨⟨p, rfl, hp⟩, b3⟩
  have X2 := X1.on b3
  have B2 := b2.trans (b3.mono (by simp; omega))
  have hz2 : w.heap.size + 2 ≤ w2.heap.size := by have := b3.size; simpa using this
  clear X1 b2 b3 cO
  go_wp2_with fail
  refine (cS _ p (HR.out.on B2) hp (HE.out.on B2)).mono ?_
  rintro e w3 ⟨v, ok, x, rfl, hx, hrd, hbt, hres⟩
  obtain ⟨u0, u1, u2, u3, u4, u5, u6, u7, u8, rfl⟩ := hx.out.agg
  obtain ⟨c0, c1, c2, c3, c4, c5, c6, cf, cl⟩ := X2.but hbt.out (by omega)
  have rf0 := cf 0
  have rf1 := cf 1
  have rf2 := cf 2
  have rf3 := cf 3
  have rf4 := cf 4
  have rf5 := cf 5
  have rf6 := cf 6
  clear cf X2 cS
  go_wp2
  refine bodyPost_ret (v := .tuple #[.agg #[.string u0, .string u1, .int .i64 u2, .int .i64 u3, .string u4, .slice u5 u6 u7, .int .i64 u8], .bool ok]) (by simp [results, Tryz.results130, go_sem, c0, c1, c2, c3, c4, c5, c6]) rfl ⟨_, ok, x, rfl, ?_, ?_, ?_, hres⟩
  · exact ExIn.low (fun b _ (hb : w2.heap.size ≤ b) => (show w.heap.size ≤ b by omega)) _ _ (hx.out.set7 (fun b (hb : w2.heap.size ≤ b) => by omega) _ _ _ _ _ _ _)
  · exact hrd.out.set7 (by omega) _ _ _ _ _ _ _
  · exact ((But.of_below' B2 (by omega)).trans hbt.out).set7 (Nat.le_refl _) (by omega) _ _ _ _ _ _ _
end Go.Proofs.YtkoejkpjkcejcaaGreatDoor
namespace Go.Proofs.YtkoejkpjkcejcaaGreatDoor
open Go.RowKit Go.BigFrame
set_option linter.unusedVariables false
variable {en : Nat}

theorem uAhead_some {opl : List UInt8} {gs : List (List UInt8)} {sub other : List Tok → Option Ex × List Tok} {ts rs : List Tok} {t : Tok} (hn : nxT (sgT gs) ts = some (t, rs)) : uAhead opl gs sub other ts = ((sub rs).1.map fun e => op1 opl (t.2.2 : Int) [e], (sub rs).2) := by
  rw [uAhead, hn]
  simp only
  cases sub rs with
  | mk o r => cases o <;> rfl
theorem map_if {ok : Bool} {x : Ex} {o : Option Ex} {F : Ex → Ex} (h : o = if ok = true then some x else none) : o.map F = if ok = true then some (F x) else none := by
  subst h
  cases ok <;> rfl
set_option maxHeartbeats 8000000 in
set_option maxRecDepth 20000 in
theorem oneAhead_any (f g : FuncId) (hentf : ∀ (args : Array Value) (W : World), Sem.run Tryz.prog (callFunc f args) W = .ok (.enter f args) W) (hentg : ∀ (args : Array Value) (W : World), Sem.run Tryz.prog (callFunc g args) W = .ok (.enter g args) W) (sub other : List Tok → Option Ex × List Tok) (opl : List UInt8) (hop : (⟨opl.toArray⟩ : ByteArray).size ≤ maxLen) (gs : List (List UInt8)) (ts : List Tok) (hg : Fit ts)
    (hsub : ∀ t rs, ts = t :: rs → Reads f sub rs) (hoth : Reads g other ts) (w : World) (r p : Nat) (h : RdAt en w r ts) (hs : SignBut w r p gs) (henv : TEnv w) (hr : 12 ≤ r) :
    Calls Tryz.prog 97 #[.pointer (some ⟨r, 0, none⟩), .string ⟨opl.toArray⟩, signV p, partV f r, partV g r] w fun e w' => ∃ v ok x, e = .returned (.tuple #[v, .bool ok]) ∧ Aside (ExIn w' (w.heap.size ≤ ·) v x) ∧ Aside (RdAt en w' r (uAhead opl gs sub other ts).2) ∧ Aside (But r w w') ∧ Hid ((uAhead opl gs sub other ts).1 = if ok = true then some x else none) := by
  have HR : Aside (RdAt en w r ts) := h
  have HS : Aside (SignBut w r p gs) := hs
  have HE : Aside (TEnv w) := henv
  have hl := h.lt
  clear h hs henv
  have b0 := al w (.cells #[.string ⟨#[]⟩, .string ⟨#[]⟩, .int .i64 0, .int .i64 0, .string ⟨#[]⟩, .slice none 0 0, .int .i64 0] 26)
  have X0 := box7_alloc w (.string ⟨#[]⟩) (.string ⟨#[]⟩) (.int .i64 0) (.int .i64 0) (.string ⟨#[]⟩) (.slice none 0 0) (.int .i64 0) 26
  cases hn : nxT (sgT gs) ts with
  | none =>
    have cT := take_sign_none gs p _ r ts (HR.out.on b0) (HS.out.but (But.of_below' b0 (by omega))).sign hn
    have hU : uAhead opl gs sub other ts = other ts := by rw [uAhead, hn]
    rw [hU]
    rw [noTok] at cT
    clear hn hU
    go_enter Tryz.func97, Tryz.ntmps97
    go_wp2_with fail
    refine cT.mono ?_
    rintro e w2 ⟨rfl, rd2, b2⟩
    have X2 := X0.but b2 (by omega)
    have hz2 : w.heap.size + 1 ≤ w2.heap.size := by have := b2.size; simpa using this
    have bb := al w2 (.cells #[.int .i64 0, .string ⟨#[]⟩, .int .i64 0] 83)
    have B2 : But r w _ := (But.of_below' b0 (by omega)).trans b2
    clear b2 b0 X0 cT
    go_wp2_with fail
    refine (hoth _ r (rd2.on bb) (HE.out.but (B2.on bb hl) hr) hr).mono ?_
    rintro e w3 ⟨v, ok, x, rfl, hx, hrd, hbt, hres⟩
    obtain ⟨u0, u1, u2, u3, u4, u5, u6, u7, u8, rfl⟩ := hx.out.agg
    obtain ⟨c0, c1, c2, c3, c4, c5, c6, cf, cl⟩ := (X2.on bb).but hbt.out (by omega)
    have rf0 := cf 0
    have rf1 := cf 1
    have rf2 := cf 2
    have rf3 := cf 3
    have rf4 := cf 4
    have rf5 := cf 5
    have rf6 := cf 6
    have B3 := (B2.on bb hl).trans hbt.out
    clear cf X2
    go_wp2
    refine bodyPost_ret (v := .tuple #[.agg #[.string u0, .string u1, .int .i64 u2, .int .i64 u3, .string u4, .slice u5 u6 u7, .int .i64 u8], .bool ok]) (by simp [results, Tryz.results97, go_sem, c0, c1, c2, c3, c4, c5, c6]) rfl ⟨_, ok, x, rfl, ?_, ?_, ?_, hres⟩
    · exact ExIn.low (fun b _ hb => (show w.heap.size ≤ b by simp at hb; omega)) _ _ (hx.out.set7 (fun b hb => by simp at hb; omega) _ _ _ _ _ _ _)
    · exact hrd.out.set7 (by omega) _ _ _ _ _ _ _
    · exact B3.set7 (Nat.le_refl _) (by omega) _ _ _ _ _ _ _
  | some y =>
    obtain ⟨tt, rs⟩ := y
    have cT := take_sign_some gs p _ r tt ts rs (HR.out.on b0) (HS.out.but (But.of_below' b0 (by omega))).sign hn
    have cP := hsub tt rs (nxT_len hn).1
    have HN : Hid (nxT (sgT gs) ts = some (tt, rs)) := hn
    obtain ⟨tk, tx, ta⟩ := tt
    rw [tokV] at cT
    simp only at cT
    clear hn
    go_enter Tryz.func97, Tryz.ntmps97
    go_wp2_with fail
    refine cT.mono ?_
    rintro e w2 ⟨rfl, rd2, b2⟩
    have X2 := X0.but b2 (by omega)
    have hz2 : w.heap.size + 1 ≤ w2.heap.size := by have := b2.size; simpa using this
    have bb := al w2 (.cells #[.int .i64 tk, .string tx, .int .i64 (ta : Int)] 83)
    have B2 : But r w _ := (But.of_below' b0 (by omega)).trans b2
    clear b2 b0 X0 cT
    go_wp2_with fail
    refine (cP _ r (rd2.on bb) (HE.out.but (B2.on bb hl) hr) hr).mono ?_
    rintro e w3 ⟨v, ok, x, rfl, hx, hrd, hbt, hres⟩
    obtain ⟨u0, u1, u2, u3, u4, u5, u6, u7, u8, rfl⟩ := hx.out.agg
    obtain ⟨c0, c1, c2, c3, c4, c5, c6, cf, cl⟩ := (X2.on bb).but hbt.out (by omega)
    have rf0 := cf 0
    have rf1 := cf 1
    have rf2 := cf 2
    have rf3 := cf 3
    have rf4 := cf 4
    have rf5 := cf 5
    have rf6 := cf 6
    have B3 := (B2.on bb hl).trans hbt.out
    have hz3 : w2.heap.size + 1 ≤ w3.heap.size := by have := hbt.out.size; simpa using this
    have hlt3 : w2.heap.size < w3.heap.size := by omega
    have g2 : w3.cell? ⟨w2.heap.size, 2, none⟩ = some (.int .i64 (ta : Int)) := by
      rw [hbt.out.cell _ (by simp) (by omega), World.cell?_alloc_at _ _ _ _ rfl]; rfl
    have hU := uAhead_some (opl := opl) (sub := sub) (other := other) HN.out
    have RU := hx.out.set7 (z := w.heap.size) (fun b hb => by simp at hb; omega) (.string ⟨opl.toArray⟩) (.string ⟨#[]⟩) (.int .i64 0) (.int .i64 0) (.string ⟨#[]⟩) (.slice (some ⟨w3.heap.size + 1, 0, none⟩) 1 1) (.int .i64 (ta : Int))
    clear cf X2
    go_wp2
    refine bodyPost_ret (v := .tuple #[.agg #[.string ⟨opl.toArray⟩, .string ⟨#[]⟩, .int .i64 0, .int .i64 0, .string ⟨#[]⟩, .slice (some ⟨w3.heap.size + 1, 0, none⟩) 1 1, .int .i64 (ta : Int)], .bool ok]) (by simp [results, Tryz.results97, go_sem, c0, c1, c2, c3, c4, c5, c6, cl]) rfl ⟨_, ok, op1 opl (ta : Int) [x], rfl, ?_, ?_, ?_, ?_⟩
    · exact ex_one (ExIn.low (lo' := (w.heap.size ≤ ·)) (fun b _ hb => (show w.heap.size ≤ b by simp at hb; omega)) _ _ RU) ((al _ _).trans ((al _ _).mono (by simp))) (by simp [World.setCell]) (show w.heap.size ≤ w3.heap.size + 1 by omega) (fun i => World.cell?_alloc_at _ _ _ _ (by simp [World.setCell])) hop (by decide) (by decide)
    · rw [hU]; exact ((hrd.out.set7 (by omega) _ _ _ _ _ _ _).on (al _ _)).on (al _ _)
    · exact ((B3.set7 (Nat.le_refl _) (by omega) _ _ _ _ _ _ _).on (al _ _) hl).on (al _ _) hl
    · rw [hU]; exact map_if hres.out
set_option maxHeartbeats 4000000 in
set_option maxRecDepth 20000 in
theorem denial_any (sub other : List Tok → Option Ex × List Tok) (ts : List Tok) (hg : Fit ts) (hsub : ∀ t rs, ts = t :: rs → Reads 71 sub rs) (hoth : Reads 98 other ts) : Reads 71 (uAhead [110, 111, 116] [[110, 111, 116]] sub other) ts := by
  intro w r en h henv hr
  have HR : Aside (RdAt en w r ts) := h
  have HE : Aside (TEnv w) := henv
  have hl := h.lt
  clear h henv
  have cS := fun W p h hs he => oneAhead_any (en := en) 71 98 (fun args W => by kernel_rfl) (fun args W => by kernel_rfl) sub other [110, 111, 116] (by decide) [[110, 111, 116]] ts hg hsub hoth W r p h hs he hr
  have X0 := box7_alloc w (.string ⟨#[]⟩) (.string ⟨#[]⟩) (.int .i64 0) (.int .i64 0) (.string ⟨#[]⟩) (.slice none 0 0) (.int .i64 0) 26
  have b0 := (Below.refl w.heap.size w).alloc (Nat.le_refl _) (.cells #[.string ⟨#[]⟩, .string ⟨#[]⟩, .int .i64 0, .int .i64 0, .string ⟨#[]⟩, .slice none 0 0, .int .i64 0] 26)
  have b1 := al (w.alloc (.cells #[.string ⟨#[]⟩, .string ⟨#[]⟩, .int .i64 0, .int .i64 0, .string ⟨#[]⟩, .slice none 0 0, .int .i64 0] 26)) (.cells #[.string ⟨#[110, 111, 116]⟩] 9)
  have X1 := X0.on b1
  have cO := oneOf_but (w.heap.size + 1) 1 r [[110, 111, 116]] ((w.alloc (.cells #[.string ⟨#[]⟩, .string ⟨#[]⟩, .int .i64 0, .int .i64 0, .string ⟨#[]⟩, .slice none 0 0, .int .i64 0] 26)).alloc (.cells #[.string ⟨#[110, 111, 116]⟩] 9)) (by decide) (strs_alloc _ _ (by simp) _ _ _ (fun j hj => match j, hj with
    | 0, _ => rfl)) (by omega) (by simp; omega)
  have b2 := b0.trans (b1.mono (by simp))
  clear X0 b1 b0
  go_enter Tryz.func71, Tryz.ntmps71
  go_wp2_with fail
  refine cO.mono ?_
  rintro e w2 ⟨⟨p, rfl, hp⟩, b3⟩
  have X2 := X1.on b3
  have B2 := b2.trans (b3.mono (by simp; omega))
  have hz2 : w.heap.size + 2 ≤ w2.heap.size := by have := b3.size; simpa using this
  clear X1 b2 b3 cO
  go_wp2_with fail
  refine (cS _ p (HR.out.on B2) hp (HE.out.on B2)).mono ?_
  rintro e w3 ⟨v, ok, x, rfl, hx, hrd, hbt, hres⟩
  obtain ⟨u0, u1, u2, u3, u4, u5, u6, u7, u8, rfl⟩ := hx.out.agg
  obtain ⟨c0, c1, c2, c3, c4, c5, c6, cf, cl⟩ := X2.but hbt.out (by omega)
  have rf0 := cf 0
  have rf1 := cf 1
  have rf2 := cf 2
  have rf3 := cf 3
  have rf4 := cf 4
  have rf5 := cf 5
  have rf6 := cf 6
  clear cf X2 cS
  go_wp2
  refine bodyPost_ret (v := .tuple #[.agg #[.string u0, .string u1, .int .i64 u2, .int .i64 u3, .string u4, .slice u5 u6 u7, .int .i64 u8], .bool ok]) (by simp [results, Tryz.results71, go_sem, c0, c1, c2, c3, c4, c5, c6]) rfl ⟨_, ok, x, rfl, ?_, ?_, ?_, hres⟩
  · exact ExIn.low (fun b _ (hb : w2.heap.size ≤ b) => (show w.heap.size ≤ b by omega)) _ _ (hx.out.set7 (fun b (hb : w2.heap.size ≤ b) => by omega) _ _ _ _ _ _ _)
  · exact hrd.out.set7 (by omega) _ _ _ _ _ _ _
  · exact ((But.of_below' B2 (by omega)).trans hbt.out).set7 (Nat.le_refl _) (by omega) _ _ _ _ _ _ _
set_option maxHeartbeats 4000000 in
set_option maxRecDepth 20000 in
theorem negation_any (sub other : List Tok → Option Ex × List Tok) (ts : List Tok) (hg : Fit ts) (hsub : ∀ t rs, ts = t :: rs → Reads 147 sub rs) (hoth : Reads 160 other ts) : Reads 147 (uAhead [110, 101, 103] [[45]] sub other) ts := by
  intro w r en h henv hr
  have HR : Aside (RdAt en w r ts) := h
  have HE : Aside (TEnv w) := henv
  have hl := h.lt
  clear h henv
  have cS := fun W p h hs he => oneAhead_any (en := en) 147 160 (fun args W => by kernel_rfl) (fun args W => by kernel_rfl) sub other [110, 101, 103] (by decide) [[45]] ts hg hsub hoth W r p h hs he hr
  have X0 := box7_alloc w (.string ⟨#[]⟩) (.string ⟨#[]⟩) (.int .i64 0) (.int .i64 0) (.string ⟨#[]⟩) (.slice none 0 0) (.int .i64 0) 26
  have b0 := (Below.refl w.heap.size w).alloc (Nat.le_refl _) (.cells #[.string ⟨#[]⟩, .string ⟨#[]⟩, .int .i64 0, .int .i64 0, .string ⟨#[]⟩, .slice none 0 0, .int .i64 0] 26)
  have b1 := al (w.alloc (.cells #[.string ⟨#[]⟩, .string ⟨#[]⟩, .int .i64 0, .int .i64 0, .string ⟨#[]⟩, .slice none 0 0, .int .i64 0] 26)) (.cells #[.string ⟨#[45]⟩] 9)
  have X1 := X0.on b1
  have cO := oneOf_but (w.heap.size + 1) 1 r [[45]] ((w.alloc (.cells #[.string ⟨#[]⟩, .string ⟨#[]⟩, .int .i64 0, .int .i64 0, .string ⟨#[]⟩, .slice none 0 0, .int .i64 0] 26)).alloc (.cells #[.string ⟨#[45]⟩] 9)) (by decide) (strs_alloc _ _ (by simp) _ _ _ (fun j hj => match j, hj with
    | 0, _ => rfl)) (by omega) (by simp; omega)
  have b2 := b0.trans (b1.mono (by simp))
  clear X0 b1 b0
  go_enter Tryz.func147, Tryz.ntmps147
  go_wp2_with fail
  refine cO.mono ?_
  rintro e w2 ⟨⟨p, rfl, hp⟩, b3⟩
  have X2 := X1.on b3
  have B2 := b2.trans (b3.mono (by simp; omega))
  have hz2 : w.heap.size + 2 ≤ w2.heap.size := by have := b3.size; simpa using this
  clear X1 b2 b3 cO
  go_wp2_with fail
  refine (cS _ p (HR.out.on B2) hp (HE.out.on B2)).mono ?_
  rintro e w3 ⟨v, ok, x, rfl, hx, hrd, hbt, hres⟩
  obtain ⟨u0, u1, u2, u3, u4, u5, u6, u7, u8, rfl⟩ := hx.out.agg
  obtain ⟨c0, c1, c2, c3, c4, c5, c6, cf, cl⟩ := X2.but hbt.out (by omega)
  have rf0 := cf 0
  have rf1 := cf 1
  have rf2 := cf 2
  have rf3 := cf 3
  have rf4 := cf 4
  have rf5 := cf 5
  have rf6 := cf 6
  clear cf X2 cS
  go_wp2
  refine bodyPost_ret (v := .tuple #[.agg #[.string u0, .string u1, .int .i64 u2, .int .i64 u3, .string u4, .slice u5 u6 u7, .int .i64 u8], .bool ok]) (by simp [results, Tryz.results147, go_sem, c0, c1, c2, c3, c4, c5, c6]) rfl ⟨_, ok, x, rfl, ?_, ?_, ?_, hres⟩
  · exact ExIn.low (fun b _ (hb : w2.heap.size ≤ b) => (show w.heap.size ≤ b by omega)) _ _ (hx.out.set7 (fun b (hb : w2.heap.size ≤ b) => by omega) _ _ _ _ _ _ _)
  · exact hrd.out.set7 (by omega) _ _ _ _ _ _ _
  · exact ((But.of_below' B2 (by omega)).trans hbt.out).set7 (Nat.le_refl _) (by omega) _ _ _ _ _ _ _
end Go.Proofs.YtkoejkpjkcejcaaGreatDoor
namespace Go.Proofs.YtkoejkpjkcejcaaGreatDoor
open Go.RowKit Go.BigFrame
set_option linter.unusedVariables false
variable {en : Nat}

theorem uCmp_none {sub : List Tok → Option Ex × List Tok} {ts : List Tok} (h : (sub ts).1 = none) : uCmp sub ts = (none, (sub ts).2) := by
  rw [uCmp]
  cases h3 : sub ts with
  | mk o r => rw [h3] at h; simp only at h; subst h; rfl
theorem uCmp_no {sub : List Tok → Option Ex × List Tok} {ts : List Tok} {a : Ex} (h : (sub ts).1 = some a) (hn : nxT (sgT cmpL) (sub ts).2 = none) : uCmp sub ts = (some a, (sub ts).2) := by
  rw [uCmp]
  cases h3 : sub ts with
  | mk o r => rw [h3] at h hn; simp only at h hn; subst h; simp only [hn]
theorem uCmp_yes {sub : List Tok → Option Ex × List Tok} {ts rs : List Tok} {a : Ex} {t : Tok} (h : (sub ts).1 = some a) (hn : nxT (sgT cmpL) (sub ts).2 = some (t, rs)) : uCmp sub ts = ((sub rs).1.map fun b => betT a t b, (sub rs).2) := by
  rw [uCmp]
  cases h3 : sub ts with
  | mk o r =>
    rw [h3] at h hn; simp only at h hn; subst h; simp only [hn]
    cases sub rs with
    | mk o r => cases o <;> rfl
theorem ex_zero (W : World) (lo : Nat → Prop) : ExIn W lo (.agg #[.string ⟨#[]⟩, .string ⟨#[]⟩, .int .i64 0, .int .i64 0, .string ⟨#[]⟩, .slice none 0 0, .int .i64 0]) ex0 := by
  rw [ex0]
  exact ex_leaf (by decide) (by decide) (by decide)
set_option maxHeartbeats 1500000 in
set_option maxRecDepth 20000 in
theorem comparison_any (sub : List Tok → Option Ex × List Tok) (ts : List Tok) (hsuf : Suf sub) (hg : Fit ts) (hsub : ∀ ts', ts' <:+ ts → Reads 116 sub ts') : Reads 98 (uCmp sub) ts := by
  intro w r en h henv hr
  have HR : Aside (RdAt en w r ts) := h
  have HE : Aside (TEnv w) := henv
  have HG : Aside (Fit ts) := hg
  have hl := h.lt
  have cA := hsub ts List.suffix_rfl
  have HC : Aside (∀ ts', ts' <:+ ts → Reads 116 sub ts') := hsub
  clear h henv hg hsub
  have b0 := al w (.cells #[.string ⟨#[]⟩, .string ⟨#[]⟩, .int .i64 0, .int .i64 0, .string ⟨#[]⟩, .slice none 0 0, .int .i64 0] 26)
  have X0 := box7_alloc w (.string ⟨#[]⟩) (.string ⟨#[]⟩) (.int .i64 0) (.int .i64 0) (.string ⟨#[]⟩) (.slice none 0 0) (.int .i64 0) 26
  go_enter Tryz.func98, Tryz.ntmps98
  go_wp2_with fail
  refine (cA _ r (HR.out.on b0) (HE.out.on b0) hr).mono ?_
  rintro e w1 ⟨v, ok, x, rfl, hx, hrd, hbt, hres⟩
  obtain ⟨o1, n1, t1, k1, s1, p1, m1, q1, a1, rfl⟩ := hx.out.agg
  have X1 := X0.but hbt.out (by omega)
  have L1 := box7_alloc w1 (.string o1) (.string n1) (.int .i64 t1) (.int .i64 k1) (.string s1) (.slice p1 m1 q1) (.int .i64 a1) 26
  have bb := al w1 (.cells #[.string o1, .string n1, .int .i64 t1, .int .i64 k1, .string s1, .slice p1 m1 q1, .int .i64 a1] 26)
  have X2 := X1.on bb
  have hz0 : w.heap.size + 1 ≤ w1.heap.size := by have := hbt.out.size; simpa using this
  have B1 : But r w w1 := (But.of_below' b0 (by omega)).trans hbt.out
  clear X0 cA
  cases ok
  · have hU := uCmp_none (sub := sub) (ts := ts) hres.out
    obtain ⟨d0, d1, d2, d3, d4, d5, d6, df, dl⟩ := X1
    have df0 := df 0
    have df1 := df 1
    have df2 := df 2
    have df3 := df 3
    have df4 := df 4
    have df5 := df 5
    have df6 := df 6
    clear df L1 X2 bb
    go_wp2
    refine bodyPost_ret (v := .tuple #[.agg #[.string ⟨#[]⟩, .string ⟨#[]⟩, .int .i64 0, .int .i64 0, .string ⟨#[]⟩, .slice none 0 0, .int .i64 0], .bool false]) (by simp [results, Tryz.results98, go_sem, d0, d1, d2, d3, d4, d5, d6, dl]) rfl ⟨_, false, ex0, rfl, ?_, ?_, ?_, ?_⟩
    · exact ex_zero _ _
    · rw [hU]; exact (hrd.out.set7 (by omega) _ _ _ _ _ _ _).on (al _ _)
    · exact (B1.set7 (Nat.le_refl _) (by omega) _ _ _ _ _ _ _).on (al _ _) hl
    · rw [hU]; exact rfl
  · have b2 := al (w1.alloc (.cells #[.string o1, .string n1, .int .i64 t1, .int .i64 k1, .string s1, .slice p1 m1 q1, .int .i64 a1] 26)) (.cells #[.string ⟨#[61]⟩, .string ⟨#[60, 62]⟩, .string ⟨#[60]⟩, .string ⟨#[60, 61]⟩, .string ⟨#[62]⟩, .string ⟨#[62, 61]⟩] 9)
    have cO := oneOf_but (w1.heap.size + 1) 6 r cmpL ((w1.alloc (.cells #[.string o1, .string n1, .int .i64 t1, .int .i64 k1, .string s1, .slice p1 m1 q1, .int .i64 a1] 26)).alloc (.cells #[.string ⟨#[61]⟩, .string ⟨#[60, 62]⟩, .string ⟨#[60]⟩, .string ⟨#[60, 61]⟩, .string ⟨#[62]⟩, .string ⟨#[62, 61]⟩] 9)) (by decide) (strs_alloc _ _ (by simp) _ _ _ (fun j hj => match j, hj with
      | 0, _ => rfl
      | 1, _ => rfl
      | 2, _ => rfl
      | 3, _ => rfl
      | 4, _ => rfl
      | 5, _ => rfl)) (by omega) (by simp; omega)
    go_wp2_with fail
    refine cO.mono ?_
    rintro e w2 ⟨⟨p, rfl, hp⟩, b3⟩
    have B2 : Below w1.heap.size w1 w2 := (bb.trans (b2.mono (by simp))).trans (b3.mono (by simp; omega))
    have hz2 : w1.heap.size + 2 ≤ w2.heap.size := by have := b3.size; simpa using this
    have L2 := (L1.on b2).on b3
    have Z2 := X1.on B2
    have rd2 := hrd.out.on B2
    have x2 := ExIn.low (lo' := fun b => w.heap.size < b ∧ b < w1.heap.size) (fun b h1 h2 => ⟨by simp at h2; omega, h1⟩) _ _ hx.out
    have x3 := x2.on B2
    have BB2 := B1.on B2 hl
    clear X1 X2 L1 bb b2 b3 cO x2 hx hrd hbt B2
    cases hn : nxT (sgT cmpL) (sub ts).2 with
    | none =>
      have cT := take_sign_none cmpL p w2 r (sub ts).2 rd2 hp.sign hn
      have hU := uCmp_no hres.out hn
      rw [noTok] at cT
      clear hn
      go_wp2_with fail
      refine cT.mono ?_
      rintro e w3 ⟨rfl, rd3, b3⟩
      have hz3 := b3.size
      obtain ⟨c0, c1, c2, c3, c4, c5, c6, cf, cl⟩ := L2.but b3 (by omega)
      obtain ⟨d0, d1, d2, d3, d4, d5, d6, df, dl⟩ := Z2.but b3 (by omega)
      have df0 := df 0
      have df1 := df 1
      have df2 := df 2
      have df3 := df 3
      have df4 := df 4
      have df5 := df 5
      have df6 := df 6
      clear df cf cT
      go_wp2
      refine bodyPost_ret (v := .tuple #[.agg #[.string o1, .string n1, .int .i64 t1, .int .i64 k1, .string s1, .slice p1 m1 q1, .int .i64 a1], .bool true]) (by simp [results, Tryz.results98, go_sem, d0, d1, d2, d3, d4, d5, d6, dl]) rfl ⟨_, true, x, rfl, ?_, ?_, ?_, ?_⟩
      · exact ExIn.low (fun b _ hb => (show w.heap.size ≤ b by have := hb.1; omega)) _ _ (((x3.but b3 (fun b hb => by have := hb.1; omega)).set7 (fun b hb => by have := hb.1; omega) _ _ _ _ _ _ _).on (al _ _))
      · rw [hU]; exact (rd3.set7 (by omega) _ _ _ _ _ _ _).on (al _ _)
      · exact ((BB2.trans b3).set7 (Nat.le_refl _) (by omega) _ _ _ _ _ _ _).on (al _ _) hl
      · rw [hU]; exact rfl
    | some y =>
      obtain ⟨tt, rs⟩ := y
      have cT := take_sign_some cmpL p w2 r tt (sub ts).2 rs rd2 hp.sign hn
      have hU := uCmp_yes hres.out hn
      have hsf : rs <:+ ts := by
        have h1 := (nxT_len hn).1
        have h2 := hsuf ts
        rw [h1] at h2
        exact (List.suffix_cons tt rs).trans h2
      have hts : tt.2.1.size ≤ 400 := by
        have h1 := (nxT_len hn).1
        have h2 := hsuf ts
        rw [h1] at h2
        exact HG.out _ (h2.mem List.mem_cons_self)
      have cP := HC.out rs hsf
      have cBt := fun W v2 y (h1 : ExIn W (w.heap.size < ·) (.agg #[.string o1, .string n1, .int .i64 t1, .int .i64 k1, .string s1, .slice p1 m1 q1, .int .i64 a1]) x) (h2 : ExIn W (w.heap.size < ·) v2 y) (hW : w.heap.size < W.heap.size) => between_any W _ tt _ v2 x y h1 h2 (fun b hb => Nat.lt_of_lt_of_le hW hb) (by unfold maxLen; omega)
      rw [tokV] at cT cBt
      obtain ⟨tk, tx, ta⟩ := tt
      simp only at cT cBt hts
      clear hn
      go_wp2_with fail
      refine cT.mono ?_
      rintro e w3 ⟨rfl, rd3, b3⟩
      have hz3 := b3.size
      have bb := al w3 (.cells #[.int .i64 tk, .string tx, .int .i64 (ta : Int)] 83)
      have L3 := (L2.but b3 (by omega)).on bb
      have Z3 := (Z2.but b3 (by omega)).on bb
      have BB3 := (BB2.trans b3).on bb hl
      have x4 := (x3.but b3 (fun b hb => by have := hb.1; omega)).on bb
      clear L2 Z2 cT x3 BB2
      go_wp2_with fail
      refine (cP _ r (rd3.on bb) (HE.out.but BB3 hr) hr).mono ?_
      rintro e w4 ⟨v, ok, y, rfl, hy, hrd, hbt, hry⟩
      obtain ⟨o9, n9, t9, k9, s9, p9, m9, c9, a9, rfl⟩ := hy.out.agg
      have hz4 : w3.heap.size + 1 ≤ w4.heap.size := by have := hbt.out.size; simpa using this
      have hlt4 : w3.heap.size < w4.heap.size := by omega
      have T3 : ∀ i, w4.cell? ⟨w3.heap.size, i, none⟩ = (#[.int .i64 tk, .string tx, .int .i64 (ta : Int)] : Array Value)[i]? := fun i => by
        rw [hbt.out.cell _ (by simp) (by omega), World.cell?_alloc_at _ _ _ _ rfl]
      have g0 := T3 0
      have g1 := T3 1
      have g2 := T3 2
      simp at g0 g1 g2
      have BB4 := BB3.trans hbt.out
      have L4 := L3.but hbt.out (by omega)
      have Z4 := Z3.but hbt.out (by omega)
      have x5 := x4.but hbt.out (fun b hb => by have := hb.1; omega)
      have b5 := al w4 (.cells #[.string o9, .string n9, .int .i64 t9, .int .i64 k9, .string s9, .slice p9 m9 c9, .int .i64 a9] 26)
      have C4 := cBt _ _ y (ExIn.low (fun b _ hb => (show w.heap.size < b by have := hb.1; omega)) _ _ (x5.on b5)) (ExIn.low (fun b _ hb => (show w.heap.size < b by simp at hb; omega)) _ _ (hy.out.on b5)) (by simp; omega)
      obtain ⟨c0, c1, c2, c3, c4, c5, c6, cf, cl⟩ := L4
      have Z5 := Z4.on b5
      clear cf T3 L3 Z3 x4 x5 hy cBt cP bb
      go_wp2_with fail
      refine C4.mono ?_
      rintro e w5 ⟨⟨v, rfl, hv⟩, b6⟩
      obtain ⟨u0, u1, u2, u3, u4, u5, u6, u7, u8, rfl⟩ := hv.agg
      obtain ⟨d0, d1, d2, d3, d4, d5, d6, df, dl⟩ := Z5.on b6
      have df0 := df 0
      have df1 := df 1
      have df2 := df 2
      have df3 := df 3
      have df4 := df 4
      have df5 := df 5
      have df6 := df 6
      clear df
      go_wp2
      refine bodyPost_ret (v := .tuple #[.agg #[.string u0, .string u1, .int .i64 u2, .int .i64 u3, .string u4, .slice u5 u6 u7, .int .i64 u8], .bool ok]) (by simp [results, Tryz.results98, go_sem, d0, d1, d2, d3, d4, d5, d6]) rfl ⟨_, ok, betT x (tk, tx, ta) y, rfl, ?_, ?_, ?_, ?_⟩
      · exact ExIn.low (fun b _ (hb : w.heap.size < b) => (show w.heap.size ≤ b by omega)) _ _ (hv.set7 (fun b (hb : w.heap.size < b) => by omega) _ _ _ _ _ _ _)
      · rw [hU]; exact ((hrd.out.on b5).on b6).set7 (by omega) _ _ _ _ _ _ _
      · exact ((BB4.on b5 hl).on b6 hl).set7 (Nat.le_refl _) (by omega) _ _ _ _ _ _ _
      · rw [hU]; exact map_if hry.out
end Go.Proofs.YtkoejkpjkcejcaaGreatDoor
namespace Go.Proofs.YtkoejkpjkcejcaaGreatDoor
open Go.RowKit
set_option linter.unusedVariables false

/-- The columns of a list lie in memory one behind the other. -/
def ColsIn (w : World) (b off : Nat) (zs : List (ByteArray × Int)) : Prop :=
  b < w.heap.size ∧ ∀ j (h : j < zs.length), w.cell? ⟨b, off + j * 2, none⟩ = some (.string zs[j].1) ∧ w.cell? ⟨b, off + j * 2 + 1, none⟩ = some (.int .i64 zs[j].2)
theorem ColsIn.on {w w' : World} {b off : Nat} {zs : List (ByteArray × Int)} (h : ColsIn w b off zs) (hb : Below w.heap.size w w') : ColsIn w' b off zs :=
  ⟨by have := hb.size; have := h.1; omega, fun j hj => by
    rw [hb.cell (p := ⟨b, off + j * 2, none⟩) h.1, hb.cell (p := ⟨b, off + j * 2 + 1, none⟩) h.1]; exact h.2 j hj⟩
theorem ColsIn.take {w : World} {b off : Nat} {zs : List (ByteArray × Int)} (h : ColsIn w b off zs) (k : Nat) : ColsIn w b off (zs.take k) :=
  ⟨h.1, fun j hj => by
    have hj' : j < zs.length := by rw [List.length_take] at hj; omega
    have := h.2 j hj'
    simpa [List.getElem_take] using this⟩
/-- Where the first column of a name stands; below 0: there is none. -/
def findN (x : List UInt8) (zs : List (ByteArray × Int)) : Int := match zs.findIdx? (fun z => z.1.data.toList == x) with
  | some k => k
  | none => -1
theorem findN_hit {x : List UInt8} {zs : List (ByteArray × Int)} {k : Nat} (h : k < zs.length) (he : zs[k].1.data.toList = x) (hn : ∀ j (hj : j < k), zs[j].1.data.toList ≠ x) : findN x zs = k := by
  have : zs.findIdx? (fun z => z.1.data.toList == x) = some k := by
    rw [List.findIdx?_eq_some_iff_getElem]
    exact ⟨h, by simpa using he, fun j hj => by simpa using hn j hj⟩
  rw [findN, this]
theorem findN_miss {x : List UInt8} {zs : List (ByteArray × Int)} (hn : ∀ j (hj : j < zs.length), zs[j].1.data.toList ≠ x) : findN x zs = -1 := by
  have : zs.findIdx? (fun z => z.1.data.toList == x) = none := by
    rw [List.findIdx?_eq_none_iff]
    intro z hz
    obtain ⟨j, hj, rfl⟩ := List.getElem_of_mem hz
    simpa using hn j hj
  rw [findN, this]

end Go.Proofs.YtkoejkpjkcejcaaGreatDoor
namespace Go.Proofs.YtkoejkpjkcejcaaGreatDoor
open Go.RowKit
set_option linter.unusedVariables false

theorem findN_cases (x : List UInt8) (zs : List (ByteArray × Int)) : (findN x zs = -1 ∧ ∀ j (hj : j < zs.length), zs[j].1.data.toList ≠ x) ∨ ∃ k : Nat, findN x zs = k ∧ ∃ h : k < zs.length, zs[k].1.data.toList = x ∧ ∀ j (hj : j < k), zs[j].1.data.toList ≠ x := by
  rw [findN]
  cases h : zs.findIdx? (fun z => z.1.data.toList == x) with
  | none =>
    left
    refine ⟨rfl, fun j hj => ?_⟩
    rw [List.findIdx?_eq_none_iff] at h
    simpa using h _ (List.getElem_mem hj)
  | some k =>
    right
    rw [List.findIdx?_eq_some_iff_getElem] at h
    obtain ⟨hk, he, hn⟩ := h
    exact ⟨k, rfl, hk, by simpa using he, fun j hj => by simpa using hn j hj⟩
/-- A name of 1 to 8 letters a to z. -/
def letN (c : UInt8) : Bool := decide (97 ≤ c.toNat) && decide (c.toNat ≤ 122)
def nameB (l : List UInt8) : Bool := decide (1 ≤ l.length) && (decide (l.length ≤ 8) && l.all letN)
def noLet (r : Int) : Bool := decide (r < 97) || decide (122 < r)
theorem isName1_any (r : Int) (w : World) :
    Calls Tryz.prog 103 #[.int .i32 r] w fun e w' => e = .returned (.bool (noLet r)) ∧ w' = w := by
  by_cases h1 : r < 97
  · rw [show noLet r = true by simp [noLet, h1]]
    go_enter Tryz.func103, Tryz.ntmps103
    go_wp2
    go_ret
    exact ⟨rfl, rfl⟩
  · by_cases h2 : 122 < r
    · rw [show noLet r = true by simp [noLet, h2]]
      go_enter Tryz.func103, Tryz.ntmps103
      go_wp2
      go_ret
      exact ⟨rfl, rfl⟩
    · rw [show noLet r = false by simp [noLet, h1, h2]]
      go_enter Tryz.func103, Tryz.ntmps103
      go_wp2
      go_ret
      exact ⟨rfl, rfl⟩
theorem let_take (s : ByteArray) (k : Nat) (h : k < s.size) : (s.data.toList.take (k + 1)).all letN = ((s.data.toList.take k).all letN && letN s[k]) := by
  have : s.data.toList.take (k + 1) = s.data.toList.take k ++ [s[k]] := by
    rw [List.take_succ_eq_append_getElem (by simpa using h)]; rfl
  rw [this, List.all_append]; simp
theorem let_not (s : ByteArray) (k : Nat) (h : k < s.size) (hc : letN s[k] = false) : s.data.toList.all letN = false := by
  rw [List.all_eq_false]
  exact ⟨s[k], by rw [show s[k] = s.data.toList[k]'(by simpa using h) from rfl]; exact List.getElem_mem _, by simp [hc]⟩
set_option maxHeartbeats 2000000 in
theorem indexFunc_name (s : ByteArray) (w : World) :
    Calls Tryz.prog 131 #[.string s, .func (.func 103) #[] #[], .bool true] w fun e w' => (∃ k : Int, e = .returned (.int .i64 k) ∧ decide (0 ≤ k) = !s.data.toList.all letN) ∧ Below w.heap.size w w' := by
  go_enter Tryz.func131, Tryz.ntmps131
  go_wp2
  go_loopg [7, 8] s.size (fun gf _ _ wx => ∃ pos : Nat, wx.heap[w.heap.size]? = some (.stringIter s pos) ∧ Below w.heap.size w wx ∧ Hid ((s.data.toList.take pos).all letN = true) ∧ s.size ≤ pos + gf ∧ pos ≤ s.size)
  case atStart => exact ⟨0, World.iter_heap w s 0, (Below.refl _ w).alloc (Nat.le_refl _) _, (show Hid _ by simp [Hid]), by omega, by omega⟩
  case round =>
    obtain ⟨pos, hit, hbw, HA, hfu, hps'⟩ := hrel
    by_cases hps : pos < s.size
    · obtain ⟨g', rfl⟩ : ∃ g', gk = g' + 1 := ⟨gk - 1, by omega⟩
      have hnx : ∀ ty, (Instr.next (.pointer (some ⟨w.heap.size, 0, none⟩)) true ty).run Tryz.prog wr = _ := fun ty => Lib.run_next_any_at wr w.heap.size s pos ty hit hps
      have hit2 := Lib.iterAt_heap wr w.heap.size s pos (pos + (Utf8.decode s pos).2) hit
      have hbw2 := Lib.below_iterAt hbw (k := w.heap.size) (Nat.le_refl _) s (pos + (Utf8.decode s pos).2)
      by_cases hl : letN s[pos] = true
      · have hlow : s[pos].toNat < 128 ∧ 97 ≤ s[pos].toNat ∧ s[pos].toNat ≤ 122 := by simp [letN] at hl; omega
        have hd := decode_ascii s pos hps hlow.1
        rw [hd] at hnx hit2 hbw2
        obtain ⟨W, hWd⟩ : ∃ W, wr.iterAt w.heap.size s (pos + 1) = W := ⟨_, rfl⟩
        simp only [hWd] at hnx hit2 hbw2
        obtain ⟨R, hR⟩ : ∃ R : Int, (s[pos].toNat : Int) = R := ⟨_, rfl⟩
        simp only [hR] at hnx
        have cS := isName1_any R W
        rw [show noLet R = false by simp [noLet]; omega] at cS
        have HT : Hid ((s.data.toList.take (pos + 1)).all letN = true) := by
          show _ = _
          rw [let_take s pos hps, HA.out, hl]; rfl
        go_wp2_with (go_at_call 103; refine cS.mono ?_; rintro e W' ⟨rfl, rfl⟩)
        go_roundg g'
        case measure => omega
        case rel => exact ⟨pos + 1, hit2, hbw2, HT, by omega, by omega⟩
      · have hl' : letN s[pos] = false := by simpa using hl
        have HF : Hid (s.data.toList.all letN = false) := let_not s pos hps hl'
        obtain ⟨R, hR⟩ : ∃ R, (Utf8.decode s pos).1 = R := ⟨_, rfl⟩
        obtain ⟨K, hK⟩ : ∃ K, (Utf8.decode s pos).2 = K := ⟨_, rfl⟩
        have hno : noLet (R : Int) = true := by
          by_cases hlow : s[pos].toNat < 128
          · have hd := decode_ascii s pos hps hlow
            rw [hd] at hR
            simp only at hR
            subst hR
            simp [letN] at hl'
            simp [noLet]
            omega
          · have := (decode_high s pos hps (by omega)).1
            rw [hR] at this
            simp [noLet]; omega
        rw [hR, hK] at hnx
        rw [hK] at hit2 hbw2
        obtain ⟨W, hWd⟩ : ∃ W, wr.iterAt w.heap.size s (pos + K) = W := ⟨_, rfl⟩
        rw [hWd] at hnx hit2 hbw2
        have cS := isName1_any (R : Int) W
        rw [hno] at cS
        go_wp2_with (go_at_call 103; refine cS.mono ?_; rintro e W' ⟨rfl, rfl⟩)
        go_ret
        exact ⟨⟨pos, rfl, by rw [HF.out]; simp⟩, hbw2⟩
    · have hnx : ∀ ty, (Instr.next (.pointer (some ⟨w.heap.size, 0, none⟩)) true ty).run Tryz.prog wr = _ := fun ty => Lib.run_next_end_at wr w.heap.size s pos ty hit hps
      have HF : Hid (s.data.toList.all letN = true) := by
        show _ = _
        have := HA.out
        rwa [List.take_of_length_le (by simp; omega)] at this
      go_wp2
      go_ret
      exact ⟨⟨-1, rfl, by rw [HF.out]; rfl⟩, hbw⟩
theorem containsFunc_name (s : ByteArray) (w : World) :
    Calls Tryz.prog 104 #[.string s, .func (.func 103) #[] #[]] w fun e w' => e = .returned (.bool (!s.data.toList.all letN)) ∧ Below w.heap.size w w' := by
  have hI : Calls Tryz.prog 117 #[.string s, .func (.func 103) #[] #[]] w fun e w' => (∃ k : Int, e = .returned (.int .i64 k) ∧ Hid (decide (0 ≤ k) = !s.data.toList.all letN)) ∧ Below w.heap.size w w' := by
    go_enter Tryz.func117, Tryz.ntmps117
    go_wp2_with fail
    refine (indexFunc_name s _).mono ?_
    rintro e w' ⟨⟨k, rfl, hk⟩, b1⟩
    have HK : Hid (decide (0 ≤ k) = !s.data.toList.all letN) := hk
    clear hk
    go_wp2
    go_ret
    exact ⟨⟨k, rfl, HK⟩, b1⟩
  generalize (!s.data.toList.all letN) = g at hI
  go_enter Tryz.func104, Tryz.ntmps104
  go_wp2_with fail
  refine hI.mono ?_
  rintro e w' ⟨⟨k, rfl, HK⟩, b1⟩
  go_wp2
  go_ret
  refine ⟨?_, b1⟩
  rw [← HK.out]
  rfl
theorem isName_any (s : ByteArray) (w : World) (hs : s.size ≤ maxLen) :
    Calls Tryz.prog 80 #[.string s] w fun e w' => e = .returned (.bool (nameB s.data.toList)) ∧ Below w.heap.size w w' := by
  have hs2 := hs
  unfold maxLen at hs2
  have hd : s.data.toList.length = s.size := by simp
  by_cases h1 : 1 ≤ s.size
  · by_cases h2 : s.size ≤ 8
    · have hnm : nameB s.data.toList = !(!s.data.toList.all letN) := by rw [nameB, hd, decide_eq_true h1, decide_eq_true h2]; simp
      rw [hnm]
      generalize hg : (!s.data.toList.all letN) = g
      have cS := containsFunc_name s
      rw [hg] at cS
      clear hg hnm
      have z1 : (1 : Int) ≤ (s.size : Int) := by omega
      have z2 : (s.size : Int) ≤ 8 := by omega
      go_enter Tryz.func80, Tryz.ntmps80
      go_wp2_with (go_at_call 104; refine (cS _).mono ?_; rintro e w' ⟨rfl, b1⟩)
      go_ret
      exact ⟨rfl, b1⟩
    · have hnm : nameB s.data.toList = false := by rw [nameB, hd, decide_eq_false h2]; simp
      rw [hnm]
      have z1 : (1 : Int) ≤ (s.size : Int) := by omega
      have z2 : ¬ (s.size : Int) ≤ 8 := by omega
      go_enter Tryz.func80, Tryz.ntmps80
      go_wp2
      go_ret
      exact ⟨rfl, Below.refl _ _⟩
  · have hnm : nameB s.data.toList = false := by rw [nameB, hd, decide_eq_false h1]; simp
    rw [hnm]
    have z1 : ¬ (1 : Int) ≤ (s.size : Int) := by omega
    go_enter Tryz.func80, Tryz.ntmps80
    go_wp2
    go_ret
    exact ⟨rfl, Below.refl _ _⟩
end Go.Proofs.YtkoejkpjkcejcaaGreatDoor
