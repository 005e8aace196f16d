/-
  The program's reader of words (package tree): the readings that are several's.
-/
import Derived.Test.YtomakklbfjkdpaaGreatDoorTreeR4
namespace Go.Proofs.YtomakklbfjkdpaaGreatDoor
open Go.RowKit Go.BigFrame
set_option linter.unusedVariables false

theorem oneOf_but (b c r : Nat) (gs : List (List UInt8)) (w : World) (h4 : gs.length ≤ 100) (hs : StrsIn w b gs) (hb : b ≠ r) (hr : r < w.heap.size) :
    Calls Tryz.prog 49 #[.slice (some ⟨b, 0, none⟩) gs.length c] w fun e w' => (∃ p, e = .returned (signV p) ∧ SignBut w' r p gs) ∧ Below w.heap.size w w' := by
  go_enter Tryz.func49, Tryz.ntmps49
  go_wp2
  go_ret
  have hb := (Below.refl w.heap.size w).alloc (Nat.le_refl _) (.cells #[.slice (some ⟨b, 0, none⟩) gs.length c] 46)
  exact ⟨⟨w.heap.size, rfl, b, c, by rw [World.cell?_alloc_at _ _ _ _ rfl]; rfl, by simp, hs.on hb, h4, by omega, by assumption⟩, hb⟩
theorem strs_alloc (w : World) (n : Nat) (hn : n = w.heap.size) (gs : List (List UInt8)) (cs : Array Value) (t : TypeId) (h : ∀ j (hj : j < gs.length), cs[j]? = some (.string ⟨gs[j].toArray⟩)) : StrsIn (w.alloc (.cells cs t)) n gs :=
  ⟨by simp; omega, fun j hj => by rw [World.cell?_alloc_at _ _ _ _ hn]; exact h j hj⟩
set_option maxHeartbeats 4000000 in
set_option maxRecDepth 20000 in
theorem expression_any (sub : List Tok → Option Ex × List Tok) (ts : List Tok) (hsuf : Suf sub) (hg : Fit ts) (hsub : ∀ ts', ts' <:+ ts → Reads 48 sub ts') : Reads 22 (uSev sub [[111, 114]]) ts := by
  intro w r h henv hr
  have HR : Aside (RdAt w r ts) := h
  have HE : Aside (TEnv w) := henv
  have hl := h.lt
  clear h henv
  have cS := fun W p h hs he => several_any _ (fun args W => by kernel_rfl) sub [[111, 114]] ts hsuf hg hsub W r p h hs he hr
  have X0 := box7_alloc w (.string ⟨#[]⟩) (.string ⟨#[]⟩) (.int .i64 0) (.int .i64 0) (.string ⟨#[]⟩) (.slice none 0 0) (.int .i64 0) 26
  have b0 := (Below.refl w.heap.size w).alloc (Nat.le_refl _) (.cells #[.string ⟨#[]⟩, .string ⟨#[]⟩, .int .i64 0, .int .i64 0, .string ⟨#[]⟩, .slice none 0 0, .int .i64 0] 26)
  have b1 := al (w.alloc (.cells #[.string ⟨#[]⟩, .string ⟨#[]⟩, .int .i64 0, .int .i64 0, .string ⟨#[]⟩, .slice none 0 0, .int .i64 0] 26)) (.cells #[.string ⟨#[111, 114]⟩] 9)
  have X1 := X0.on b1
  have cO := oneOf_but (w.heap.size + 1) 1 r [[111, 114]] ((w.alloc (.cells #[.string ⟨#[]⟩, .string ⟨#[]⟩, .int .i64 0, .int .i64 0, .string ⟨#[]⟩, .slice none 0 0, .int .i64 0] 26)).alloc (.cells #[.string ⟨#[111, 114]⟩] 9)) (by decide) (strs_alloc _ _ (by simp) _ _ _ (fun j hj => match j, hj with
    | 0, _ => rfl)) (by omega) (by simp; omega)
  have b2 := b0.trans (b1.mono (by simp))
  clear X0 b1 b0
  go_enter Tryz.func22, Tryz.ntmps22
  go_wp2_with fail
  refine cO.mono ?_
  rintro e w2 ⟨⟨p, rfl, hp⟩, b3⟩
  have X2 := X1.on b3
  have B2 := b2.trans (b3.mono (by simp; omega))
  have hz2 : w.heap.size + 2 ≤ w2.heap.size := by have := b3.size; simpa using this
  clear X1 b2 b3 cO
  go_wp2_with fail
  refine (cS _ p (HR.out.on B2) hp (HE.out.on B2)).mono ?_
  rintro e w3 ⟨v, ok, x, rfl, hx, hrd, hbt, hres⟩
  obtain ⟨u0, u1, u2, u3, u4, u5, u6, u7, u8, rfl⟩ := hx.out.agg
  obtain ⟨c0, c1, c2, c3, c4, c5, c6, cf, cl⟩ := X2.but hbt.out (by omega)
  have rf0 := cf 0
  have rf1 := cf 1
  have rf2 := cf 2
  have rf3 := cf 3
  have rf4 := cf 4
  have rf5 := cf 5
  have rf6 := cf 6
  clear cf X2 cS
  go_wp2
  refine bodyPost_ret (v := .tuple #[.agg #[.string u0, .string u1, .int .i64 u2, .int .i64 u3, .string u4, .slice u5 u6 u7, .int .i64 u8], .bool ok]) (by simp [results, Tryz.results22, go_sem, c0, c1, c2, c3, c4, c5, c6]) rfl ⟨_, ok, x, rfl, ?_, ?_, ?_, hres⟩
  · exact ExIn.low (fun b _ (hb : w2.heap.size ≤ b) => (show w.heap.size ≤ b by omega)) _ _ (hx.out.set7 (fun b (hb : w2.heap.size ≤ b) => by omega) _ _ _ _ _ _ _)
  · exact hrd.out.set7 (by omega) _ _ _ _ _ _ _
  · exact ((But.of_below' B2 (by omega)).trans hbt.out).set7 (Nat.le_refl _) (by omega) _ _ _ _ _ _ _
set_option maxHeartbeats 4000000 in
set_option maxRecDepth 20000 in
theorem conjunction_any (sub : List Tok → Option Ex × List Tok) (ts : List Tok) (hsuf : Suf sub) (hg : Fit ts) (hsub : ∀ ts', ts' <:+ ts → Reads 76 sub ts') : Reads 48 (uSev sub [[97, 110, 100]]) ts := by
  intro w r h henv hr
  have HR : Aside (RdAt w r ts) := h
  have HE : Aside (TEnv w) := henv
  have hl := h.lt
  clear h henv
  have cS := fun W p h hs he => several_any _ (fun args W => by kernel_rfl) sub [[97, 110, 100]] ts hsuf hg hsub W r p h hs he hr
  have X0 := box7_alloc w (.string ⟨#[]⟩) (.string ⟨#[]⟩) (.int .i64 0) (.int .i64 0) (.string ⟨#[]⟩) (.slice none 0 0) (.int .i64 0) 26
  have b0 := (Below.refl w.heap.size w).alloc (Nat.le_refl _) (.cells #[.string ⟨#[]⟩, .string ⟨#[]⟩, .int .i64 0, .int .i64 0, .string ⟨#[]⟩, .slice none 0 0, .int .i64 0] 26)
  have b1 := al (w.alloc (.cells #[.string ⟨#[]⟩, .string ⟨#[]⟩, .int .i64 0, .int .i64 0, .string ⟨#[]⟩, .slice none 0 0, .int .i64 0] 26)) (.cells #[.string ⟨#[97, 110, 100]⟩] 9)
  have X1 := X0.on b1
  have cO := oneOf_but (w.heap.size + 1) 1 r [[97, 110, 100]] ((w.alloc (.cells #[.string ⟨#[]⟩, .string ⟨#[]⟩, .int .i64 0, .int .i64 0, .string ⟨#[]⟩, .slice none 0 0, .int .i64 0] 26)).alloc (.cells #[.string ⟨#[97, 110, 100]⟩] 9)) (by decide) (strs_alloc _ _ (by simp) _ _ _ (fun j hj => match j, hj with
    | 0, _ => rfl)) (by omega) (by simp; omega)
  have b2 := b0.trans (b1.mono (by simp))
  clear X0 b1 b0
  go_enter Tryz.func48, Tryz.ntmps48
  go_wp2_with fail
  refine cO.mono ?_
  rintro e w2 ⟨⟨p, rfl, hp⟩, b3⟩
  have X2 := X1.on b3
  have B2 := b2.trans (b3.mono (by simp; omega))
  have hz2 : w.heap.size + 2 ≤ w2.heap.size := by have := b3.size; simpa using this
  clear X1 b2 b3 cO
  go_wp2_with fail
  refine (cS _ p (HR.out.on B2) hp (HE.out.on B2)).mono ?_
  rintro e w3 ⟨v, ok, x, rfl, hx, hrd, hbt, hres⟩
  obtain ⟨u0, u1, u2, u3, u4, u5, u6, u7, u8, rfl⟩ := hx.out.agg
  obtain ⟨c0, c1, c2, c3, c4, c5, c6, cf, cl⟩ := X2.but hbt.out (by omega)
  have rf0 := cf 0
  have rf1 := cf 1
  have rf2 := cf 2
  have rf3 := cf 3
  have rf4 := cf 4
  have rf5 := cf 5
  have rf6 := cf 6
  clear cf X2 cS
  go_wp2
  refine bodyPost_ret (v := .tuple #[.agg #[.string u0, .string u1, .int .i64 u2, .int .i64 u3, .string u4, .slice u5 u6 u7, .int .i64 u8], .bool ok]) (by simp [results, Tryz.results48, go_sem, c0, c1, c2, c3, c4, c5, c6]) rfl ⟨_, ok, x, rfl, ?_, ?_, ?_, hres⟩
  · exact ExIn.low (fun b _ (hb : w2.heap.size ≤ b) => (show w.heap.size ≤ b by omega)) _ _ (hx.out.set7 (fun b (hb : w2.heap.size ≤ b) => by omega) _ _ _ _ _ _ _)
  · exact hrd.out.set7 (by omega) _ _ _ _ _ _ _
  · exact ((But.of_below' B2 (by omega)).trans hbt.out).set7 (Nat.le_refl _) (by omega) _ _ _ _ _ _ _
set_option maxHeartbeats 4000000 in
set_option maxRecDepth 20000 in
theorem sum_any (sub : List Tok → Option Ex × List Tok) (ts : List Tok) (hsuf : Suf sub) (hg : Fit ts) (hsub : ∀ ts', ts' <:+ ts → Reads 133 sub ts') : Reads 119 (uSev sub [[43], [45]]) ts := by
  intro w r h henv hr
  have HR : Aside (RdAt w r ts) := h
  have HE : Aside (TEnv w) := henv
  have hl := h.lt
  clear h henv
  have cS := fun W p h hs he => several_any _ (fun args W => by kernel_rfl) sub [[43], [45]] ts hsuf hg hsub W r p h hs he hr
  have X0 := box7_alloc w (.string ⟨#[]⟩) (.string ⟨#[]⟩) (.int .i64 0) (.int .i64 0) (.string ⟨#[]⟩) (.slice none 0 0) (.int .i64 0) 26
  have b0 := (Below.refl w.heap.size w).alloc (Nat.le_refl _) (.cells #[.string ⟨#[]⟩, .string ⟨#[]⟩, .int .i64 0, .int .i64 0, .string ⟨#[]⟩, .slice none 0 0, .int .i64 0] 26)
  have b1 := al (w.alloc (.cells #[.string ⟨#[]⟩, .string ⟨#[]⟩, .int .i64 0, .int .i64 0, .string ⟨#[]⟩, .slice none 0 0, .int .i64 0] 26)) (.cells #[.string ⟨#[43]⟩, .string ⟨#[45]⟩] 9)
  have X1 := X0.on b1
  have cO := oneOf_but (w.heap.size + 1) 2 r [[43], [45]] ((w.alloc (.cells #[.string ⟨#[]⟩, .string ⟨#[]⟩, .int .i64 0, .int .i64 0, .string ⟨#[]⟩, .slice none 0 0, .int .i64 0] 26)).alloc (.cells #[.string ⟨#[43]⟩, .string ⟨#[45]⟩] 9)) (by decide) (strs_alloc _ _ (by simp) _ _ _ (fun j hj => match j, hj with
    | 0, _ => rfl
    | 1, _ => rfl)) (by omega) (by simp; omega)
  have b2 := b0.trans (b1.mono (by simp))
  clear X0 b1 b0
  go_enter Tryz.func119, Tryz.ntmps119
  go_wp2_with fail
  refine cO.mono ?_
  rintro e w2 ⟨⟨p, rfl, hp⟩, b3⟩
  have X2 := X1.on b3
  have B2 := b2.trans (b3.mono (by simp; omega))
  have hz2 : w.heap.size + 2 ≤ w2.heap.size := by have := b3.size; simpa using this
  clear X1 b2 b3 cO
  go_wp2_with fail
  refine (cS _ p (HR.out.on B2) hp (HE.out.on B2)).mono ?_
  rintro e w3 ⟨v, ok, x, rfl, hx, hrd, hbt, hres⟩
  obtain ⟨u0, u1, u2, u3, u4, u5, u6, u7, u8, rfl⟩ := hx.out.agg
  obtain ⟨c0, c1, c2, c3, c4, c5, c6, cf, cl⟩ := X2.but hbt.out (by omega)
  have rf0 := cf 0
  have rf1 := cf 1
  have rf2 := cf 2
  have rf3 := cf 3
  have rf4 := cf 4
  have rf5 := cf 5
  have rf6 := cf 6
  clear cf X2 cS
  go_wp2
  refine bodyPost_ret (v := .tuple #[.agg #[.string u0, .string u1, .int .i64 u2, .int .i64 u3, .string u4, .slice u5 u6 u7, .int .i64 u8], .bool ok]) (by simp [results, Tryz.results119, go_sem, c0, c1, c2, c3, c4, c5, c6]) rfl ⟨_, ok, x, rfl, ?_, ?_, ?_, hres⟩
  · exact ExIn.low (fun b _ (hb : w2.heap.size ≤ b) => (show w.heap.size ≤ b by omega)) _ _ (hx.out.set7 (fun b (hb : w2.heap.size ≤ b) => by omega) _ _ _ _ _ _ _)
  · exact hrd.out.set7 (by omega) _ _ _ _ _ _ _
  · exact ((But.of_below' B2 (by omega)).trans hbt.out).set7 (Nat.le_refl _) (by omega) _ _ _ _ _ _ _
set_option maxHeartbeats 4000000 in
set_option maxRecDepth 20000 in
theorem product_any (sub : List Tok → Option Ex × List Tok) (ts : List Tok) (hsuf : Suf sub) (hg : Fit ts) (hsub : ∀ ts', ts' <:+ ts → Reads 146 sub ts') : Reads 133 (uSev sub [[42], [47], [37]]) ts := by
  intro w r h henv hr
  have HR : Aside (RdAt w r ts) := h
  have HE : Aside (TEnv w) := henv
  have hl := h.lt
  clear h henv
  have cS := fun W p h hs he => several_any _ (fun args W => by kernel_rfl) sub [[42], [47], [37]] ts hsuf hg hsub W r p h hs he hr
  have X0 := box7_alloc w (.string ⟨#[]⟩) (.string ⟨#[]⟩) (.int .i64 0) (.int .i64 0) (.string ⟨#[]⟩) (.slice none 0 0) (.int .i64 0) 26
  have b0 := (Below.refl w.heap.size w).alloc (Nat.le_refl _) (.cells #[.string ⟨#[]⟩, .string ⟨#[]⟩, .int .i64 0, .int .i64 0, .string ⟨#[]⟩, .slice none 0 0, .int .i64 0] 26)
  have b1 := al (w.alloc (.cells #[.string ⟨#[]⟩, .string ⟨#[]⟩, .int .i64 0, .int .i64 0, .string ⟨#[]⟩, .slice none 0 0, .int .i64 0] 26)) (.cells #[.string ⟨#[42]⟩, .string ⟨#[47]⟩, .string ⟨#[37]⟩] 9)
  have X1 := X0.on b1
  have cO := oneOf_but (w.heap.size + 1) 3 r [[42], [47], [37]] ((w.alloc (.cells #[.string ⟨#[]⟩, .string ⟨#[]⟩, .int .i64 0, .int .i64 0, .string ⟨#[]⟩, .slice none 0 0, .int .i64 0] 26)).alloc (.cells #[.string ⟨#[42]⟩, .string ⟨#[47]⟩, .string ⟨#[37]⟩] 9)) (by decide) (strs_alloc _ _ (by simp) _ _ _ (fun j hj => match j, hj with
    | 0, _ => rfl
    | 1, _ => rfl
    | 2, _ => rfl)) (by omega) (by simp; omega)
  have b2 := b0.trans (b1.mono (by simp))
  clear X0 b1 b0
  go_enter Tryz.func133, Tryz.ntmps133
  go_wp2_with fail
  refine cO.mono ?_
  rintro e w2 ⟨⟨p, rfl, hp⟩, b3⟩
  have X2 := X1.on b3
  have B2 := b2.trans (b3.mono (by simp; omega))
  have hz2 : w.heap.size + 2 ≤ w2.heap.size := by have := b3.size; simpa using this
  clear X1 b2 b3 cO
  go_wp2_with fail
  refine (cS _ p (HR.out.on B2) hp (HE.out.on B2)).mono ?_
  rintro e w3 ⟨v, ok, x, rfl, hx, hrd, hbt, hres⟩
  obtain ⟨u0, u1, u2, u3, u4, u5, u6, u7, u8, rfl⟩ := hx.out.agg
  obtain ⟨c0, c1, c2, c3, c4, c5, c6, cf, cl⟩ := X2.but hbt.out (by omega)
  have rf0 := cf 0
  have rf1 := cf 1
  have rf2 := cf 2
  have rf3 := cf 3
  have rf4 := cf 4
  have rf5 := cf 5
  have rf6 := cf 6
  clear cf X2 cS
  go_wp2
  refine bodyPost_ret (v := .tuple #[.agg #[.string u0, .string u1, .int .i64 u2, .int .i64 u3, .string u4, .slice u5 u6 u7, .int .i64 u8], .bool ok]) (by simp [results, Tryz.results133, go_sem, c0, c1, c2, c3, c4, c5, c6]) rfl ⟨_, ok, x, rfl, ?_, ?_, ?_, hres⟩
  · exact ExIn.low (fun b _ (hb : w2.heap.size ≤ b) => (show w.heap.size ≤ b by omega)) _ _ (hx.out.set7 (fun b (hb : w2.heap.size ≤ b) => by omega) _ _ _ _ _ _ _)
  · exact hrd.out.set7 (by omega) _ _ _ _ _ _ _
  · exact ((But.of_below' B2 (by omega)).trans hbt.out).set7 (Nat.le_refl _) (by omega) _ _ _ _ _ _ _
end Go.Proofs.YtomakklbfjkdpaaGreatDoor
