/-
  The program's reader of words (package tree): comparison.
-/
import Derived.Test.YtomakklbfjkdpaaGreatDoorTreeR6
namespace Go.Proofs.YtomakklbfjkdpaaGreatDoor
open Go.RowKit Go.BigFrame
set_option linter.unusedVariables false

theorem uCmp_none {sub : List Tok → Option Ex × List Tok} {ts : List Tok} (h : (sub ts).1 = none) : uCmp sub ts = (none, (sub ts).2) := by
  rw [uCmp]
  cases h3 : sub ts with
  | mk o r => rw [h3] at h; simp only at h; subst h; rfl
theorem uCmp_no {sub : List Tok → Option Ex × List Tok} {ts : List Tok} {a : Ex} (h : (sub ts).1 = some a) (hn : nxT (sgT cmpL) (sub ts).2 = none) : uCmp sub ts = (some a, (sub ts).2) := by
  rw [uCmp]
  cases h3 : sub ts with
  | mk o r => rw [h3] at h hn; simp only at h hn; subst h; simp only [hn]
theorem uCmp_yes {sub : List Tok → Option Ex × List Tok} {ts rs : List Tok} {a : Ex} {t : Tok} (h : (sub ts).1 = some a) (hn : nxT (sgT cmpL) (sub ts).2 = some (t, rs)) : uCmp sub ts = ((sub rs).1.map fun b => betT a t b, (sub rs).2) := by
  rw [uCmp]
  cases h3 : sub ts with
  | mk o r =>
    rw [h3] at h hn; simp only at h hn; subst h; simp only [hn]
    cases sub rs with
    | mk o r => cases o <;> rfl
theorem ex_zero (W : World) (lo : Nat → Prop) : ExIn W lo (.agg #[.string ⟨#[]⟩, .string ⟨#[]⟩, .int .i64 0, .int .i64 0, .string ⟨#[]⟩, .slice none 0 0, .int .i64 0]) ex0 := by
  rw [ex0]
  exact ex_leaf (by decide) (by decide) (by decide)
set_option maxHeartbeats 1500000 in
set_option maxRecDepth 20000 in
theorem comparison_any (sub : List Tok → Option Ex × List Tok) (ts : List Tok) (hsuf : Suf sub) (hg : Fit ts) (hsub : ∀ ts', ts' <:+ ts → Reads 119 sub ts') : Reads 100 (uCmp sub) ts := by
  intro w r h henv hr
  have HR : Aside (RdAt w r ts) := h
  have HE : Aside (TEnv w) := henv
  have HG : Aside (Fit ts) := hg
  have hl := h.lt
  have cA := hsub ts List.suffix_rfl
  have HC : Aside (∀ ts', ts' <:+ ts → Reads 119 sub ts') := hsub
  clear h henv hg hsub
  have b0 := al w (.cells #[.string ⟨#[]⟩, .string ⟨#[]⟩, .int .i64 0, .int .i64 0, .string ⟨#[]⟩, .slice none 0 0, .int .i64 0] 26)
  have X0 := box7_alloc w (.string ⟨#[]⟩) (.string ⟨#[]⟩) (.int .i64 0) (.int .i64 0) (.string ⟨#[]⟩) (.slice none 0 0) (.int .i64 0) 26
  go_enter Tryz.func100, Tryz.ntmps100
  go_wp2_with fail
  refine (cA _ r (HR.out.on b0) (HE.out.on b0) hr).mono ?_
  rintro e w1 ⟨v, ok, x, rfl, hx, hrd, hbt, hres⟩
  obtain ⟨o1, n1, t1, k1, s1, p1, m1, q1, a1, rfl⟩ := hx.out.agg
  have X1 := X0.but hbt.out (by omega)
  have L1 := box7_alloc w1 (.string o1) (.string n1) (.int .i64 t1) (.int .i64 k1) (.string s1) (.slice p1 m1 q1) (.int .i64 a1) 26
  have bb := al w1 (.cells #[.string o1, .string n1, .int .i64 t1, .int .i64 k1, .string s1, .slice p1 m1 q1, .int .i64 a1] 26)
  have X2 := X1.on bb
  have hz0 : w.heap.size + 1 ≤ w1.heap.size := by have := hbt.out.size; simpa using this
  have B1 : But r w w1 := (But.of_below' b0 (by omega)).trans hbt.out
  clear X0 cA
  cases ok
  · have hU := uCmp_none (sub := sub) (ts := ts) hres.out
    obtain ⟨d0, d1, d2, d3, d4, d5, d6, df, dl⟩ := X1
    have df0 := df 0
    have df1 := df 1
    have df2 := df 2
    have df3 := df 3
    have df4 := df 4
    have df5 := df 5
    have df6 := df 6
    clear df L1 X2 bb
    go_wp2
    refine bodyPost_ret (v := .tuple #[.agg #[.string ⟨#[]⟩, .string ⟨#[]⟩, .int .i64 0, .int .i64 0, .string ⟨#[]⟩, .slice none 0 0, .int .i64 0], .bool false]) (by simp [results, Tryz.results100, go_sem, d0, d1, d2, d3, d4, d5, d6, dl]) rfl ⟨_, false, ex0, rfl, ?_, ?_, ?_, ?_⟩
    · exact ex_zero _ _
    · rw [hU]; exact (hrd.out.set7 (by omega) _ _ _ _ _ _ _).on (al _ _)
    · exact (B1.set7 (Nat.le_refl _) (by omega) _ _ _ _ _ _ _).on (al _ _) hl
    · rw [hU]; exact rfl
  · have b2 := al (w1.alloc (.cells #[.string o1, .string n1, .int .i64 t1, .int .i64 k1, .string s1, .slice p1 m1 q1, .int .i64 a1] 26)) (.cells #[.string ⟨#[61]⟩, .string ⟨#[60, 62]⟩, .string ⟨#[60]⟩, .string ⟨#[60, 61]⟩, .string ⟨#[62]⟩, .string ⟨#[62, 61]⟩] 9)
    have cO := oneOf_but (w1.heap.size + 1) 6 r cmpL ((w1.alloc (.cells #[.string o1, .string n1, .int .i64 t1, .int .i64 k1, .string s1, .slice p1 m1 q1, .int .i64 a1] 26)).alloc (.cells #[.string ⟨#[61]⟩, .string ⟨#[60, 62]⟩, .string ⟨#[60]⟩, .string ⟨#[60, 61]⟩, .string ⟨#[62]⟩, .string ⟨#[62, 61]⟩] 9)) (by decide) (strs_alloc _ _ (by simp) _ _ _ (fun j hj => match j, hj with
      | 0, _ => rfl
      | 1, _ => rfl
      | 2, _ => rfl
      | 3, _ => rfl
      | 4, _ => rfl
      | 5, _ => rfl)) (by omega) (by simp; omega)
    go_wp2_with fail
    refine cO.mono ?_
    rintro e w2 ⟨⟨p, rfl, hp⟩, b3⟩
    have B2 : Below w1.heap.size w1 w2 := (bb.trans (b2.mono (by simp))).trans (b3.mono (by simp; omega))
    have hz2 : w1.heap.size + 2 ≤ w2.heap.size := by have := b3.size; simpa using this
    have L2 := (L1.on b2).on b3
    have Z2 := X1.on B2
    have rd2 := hrd.out.on B2
    have x2 := ExIn.low (lo' := fun b => w.heap.size < b ∧ b < w1.heap.size) (fun b h1 h2 => ⟨by simp at h2; omega, h1⟩) _ _ hx.out
    have x3 := x2.on B2
    have BB2 := B1.on B2 hl
    clear X1 X2 L1 bb b2 b3 cO x2 hx hrd hbt B2
    cases hn : nxT (sgT cmpL) (sub ts).2 with
    | none =>
      have cT := take_sign_none cmpL p w2 r (sub ts).2 rd2 hp.sign hn
      have hU := uCmp_no hres.out hn
      rw [noTok] at cT
      clear hn
      go_wp2_with fail
      refine cT.mono ?_
      rintro e w3 ⟨rfl, rd3, b3⟩
      have hz3 := b3.size
      obtain ⟨c0, c1, c2, c3, c4, c5, c6, cf, cl⟩ := L2.but b3 (by omega)
      obtain ⟨d0, d1, d2, d3, d4, d5, d6, df, dl⟩ := Z2.but b3 (by omega)
      have df0 := df 0
      have df1 := df 1
      have df2 := df 2
      have df3 := df 3
      have df4 := df 4
      have df5 := df 5
      have df6 := df 6
      clear df cf cT
      go_wp2
      refine bodyPost_ret (v := .tuple #[.agg #[.string o1, .string n1, .int .i64 t1, .int .i64 k1, .string s1, .slice p1 m1 q1, .int .i64 a1], .bool true]) (by simp [results, Tryz.results100, go_sem, d0, d1, d2, d3, d4, d5, d6, dl]) rfl ⟨_, true, x, rfl, ?_, ?_, ?_, ?_⟩
      · exact ExIn.low (fun b _ hb => (show w.heap.size ≤ b by have := hb.1; omega)) _ _ (((x3.but b3 (fun b hb => by have := hb.1; omega)).set7 (fun b hb => by have := hb.1; omega) _ _ _ _ _ _ _).on (al _ _))
      · rw [hU]; exact (rd3.set7 (by omega) _ _ _ _ _ _ _).on (al _ _)
      · exact ((BB2.trans b3).set7 (Nat.le_refl _) (by omega) _ _ _ _ _ _ _).on (al _ _) hl
      · rw [hU]; exact rfl
    | some y =>
      obtain ⟨tt, rs⟩ := y
      have cT := take_sign_some cmpL p w2 r tt (sub ts).2 rs rd2 hp.sign hn
      have hU := uCmp_yes hres.out hn
      have hsf : rs <:+ ts := by
        have h1 := (nxT_len hn).1
        have h2 := hsuf ts
        rw [h1] at h2
        exact (List.suffix_cons tt rs).trans h2
      have hts : tt.2.1.size ≤ 400 := by
        have h1 := (nxT_len hn).1
        have h2 := hsuf ts
        rw [h1] at h2
        exact HG.out _ (h2.mem List.mem_cons_self)
      have cP := HC.out rs hsf
      have cBt := fun W v2 y (h1 : ExIn W (w.heap.size < ·) (.agg #[.string o1, .string n1, .int .i64 t1, .int .i64 k1, .string s1, .slice p1 m1 q1, .int .i64 a1]) x) (h2 : ExIn W (w.heap.size < ·) v2 y) (hW : w.heap.size < W.heap.size) => between_any W _ tt _ v2 x y h1 h2 (fun b hb => Nat.lt_of_lt_of_le hW hb) (by unfold maxLen; omega)
      rw [tokV] at cT cBt
      obtain ⟨tk, tx, ta⟩ := tt
      simp only at cT cBt hts
      clear hn
      go_wp2_with fail
      refine cT.mono ?_
      rintro e w3 ⟨rfl, rd3, b3⟩
      have hz3 := b3.size
      have bb := al w3 (.cells #[.int .i64 tk, .string tx, .int .i64 (ta : Int)] 83)
      have L3 := (L2.but b3 (by omega)).on bb
      have Z3 := (Z2.but b3 (by omega)).on bb
      have BB3 := (BB2.trans b3).on bb hl
      have x4 := (x3.but b3 (fun b hb => by have := hb.1; omega)).on bb
      clear L2 Z2 cT x3 BB2
      go_wp2_with fail
      refine (cP _ r (rd3.on bb) (HE.out.but BB3 hr) hr).mono ?_
      rintro e w4 ⟨v, ok, y, rfl, hy, hrd, hbt, hry⟩
      obtain ⟨o9, n9, t9, k9, s9, p9, m9, c9, a9, rfl⟩ := hy.out.agg
      have hz4 : w3.heap.size + 1 ≤ w4.heap.size := by have := hbt.out.size; simpa using this
      have hlt4 : w3.heap.size < w4.heap.size := by omega
      have T3 : ∀ i, w4.cell? ⟨w3.heap.size, i, none⟩ = (#[.int .i64 tk, .string tx, .int .i64 (ta : Int)] : Array Value)[i]? := fun i => by
        rw [hbt.out.cell _ (by simp) (by omega), World.cell?_alloc_at _ _ _ _ rfl]
      have g0 := T3 0
      have g1 := T3 1
      have g2 := T3 2
      simp at g0 g1 g2
      have BB4 := BB3.trans hbt.out
      have L4 := L3.but hbt.out (by omega)
      have Z4 := Z3.but hbt.out (by omega)
      have x5 := x4.but hbt.out (fun b hb => by have := hb.1; omega)
      have b5 := al w4 (.cells #[.string o9, .string n9, .int .i64 t9, .int .i64 k9, .string s9, .slice p9 m9 c9, .int .i64 a9] 26)
      have C4 := cBt _ _ y (ExIn.low (fun b _ hb => (show w.heap.size < b by have := hb.1; omega)) _ _ (x5.on b5)) (ExIn.low (fun b _ hb => (show w.heap.size < b by simp at hb; omega)) _ _ (hy.out.on b5)) (by simp; omega)
      obtain ⟨c0, c1, c2, c3, c4, c5, c6, cf, cl⟩ := L4
      have Z5 := Z4.on b5
      clear cf T3 L3 Z3 x4 x5 hy cBt cP bb
      go_wp2_with fail
      refine C4.mono ?_
      rintro e w5 ⟨⟨v, rfl, hv⟩, b6⟩
      obtain ⟨u0, u1, u2, u3, u4, u5, u6, u7, u8, rfl⟩ := hv.agg
      obtain ⟨d0, d1, d2, d3, d4, d5, d6, df, dl⟩ := Z5.on b6
      have df0 := df 0
      have df1 := df 1
      have df2 := df 2
      have df3 := df 3
      have df4 := df 4
      have df5 := df 5
      have df6 := df 6
      clear df
      go_wp2
      refine bodyPost_ret (v := .tuple #[.agg #[.string u0, .string u1, .int .i64 u2, .int .i64 u3, .string u4, .slice u5 u6 u7, .int .i64 u8], .bool ok]) (by simp [results, Tryz.results100, go_sem, d0, d1, d2, d3, d4, d5, d6]) rfl ⟨_, ok, betT x (tk, tx, ta) y, rfl, ?_, ?_, ?_, ?_⟩
      · exact ExIn.low (fun b _ (hb : w.heap.size < b) => (show w.heap.size ≤ b by omega)) _ _ (hv.set7 (fun b (hb : w.heap.size < b) => by omega) _ _ _ _ _ _ _)
      · rw [hU]; exact ((hrd.out.on b5).on b6).set7 (by omega) _ _ _ _ _ _ _
      · exact ((BB4.on b5 hl).on b6 hl).set7 (Nat.le_refl _) (by omega) _ _ _ _ _ _ _
      · rw [hU]; exact map_if hry.out
end Go.Proofs.YtomakklbfjkdpaaGreatDoor
