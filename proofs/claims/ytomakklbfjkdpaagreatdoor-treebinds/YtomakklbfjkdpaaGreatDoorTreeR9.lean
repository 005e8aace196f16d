/-
  The program's reader of words (package tree): bracketed.
-/
import Derived.Test.YtomakklbfjkdpaaGreatDoorTreeAp
namespace Go.Proofs.YtomakklbfjkdpaaGreatDoor
open Go.RowKit Go.BigFrame
set_option linter.unusedVariables false

/-- Expressions that are gathered in a slice of one's own, from block B on. -/
def ArgsOwn (w : World) (B : Nat) (v : Value) (xs : List Ex) : Prop := ∃ cs : List Value, w.ownsRow B 26 7 v xs.length cs ∧
  ∀ j (h : j < xs.length), ∃ a0 a1 a2 a3 a4 a5 a6, cs[j * 7]? = some a0 ∧ cs[j * 7 + 1]? = some a1 ∧ cs[j * 7 + 2]? = some a2 ∧ cs[j * 7 + 3]? = some a3 ∧ cs[j * 7 + 4]? = some a4 ∧ cs[j * 7 + 5]? = some a5 ∧ cs[j * 7 + 6]? = some a6 ∧ ExIn w (fun b => B ≤ b ∧ some b ≠ v.ownBlock) (.agg #[a0, a1, a2, a3, a4, a5, a6]) xs[j]
theorem argsOwn_nil (w : World) (B : Nat) : ArgsOwn w B (.slice none 0 0) [] := ⟨[], World.ownsRow_nil _ _ _ _, fun j h => absurd h (Nat.not_lt_zero _)⟩
theorem own_but {W W' : World} {r base : Nat} {e : TypeId} {size : Nat} {v : Value} {n : Nat} {xs : List Value} (h : W.ownsRow base e size v n xs) (hb : But r W W') (hr : r < base) : W'.ownsRow base e size v n xs := by
  refine ⟨h.1, ?_⟩
  rcases h.2 with hn | ⟨g, cap, cur, rfl, h1, hgg, rest⟩
  · exact .inl hn
  · exact .inr ⟨g, cap, cur, rfl, h1, by rw [hb.kept g (Array.getElem?_eq_some_iff.1 hgg).1 (by omega)]; exact hgg, rest⟩
theorem ArgsOwn.but {w w' : World} {r B : Nat} {v : Value} {xs : List Ex} (h : ArgsOwn w B v xs) (hb : But r w w') (hr : r < B) : ArgsOwn w' B v xs := by
  obtain ⟨cs, h1, h2⟩ := h
  refine ⟨cs, own_but h1 hb hr, fun j hj => ?_⟩
  obtain ⟨a0, a1, a2, a3, a4, a5, a6, e0, e1, e2, e3, e4, e5, e6, hx⟩ := h2 j hj
  exact ⟨a0, a1, a2, a3, a4, a5, a6, e0, e1, e2, e3, e4, e5, e6, hx.but hb (fun b hb => by have := hb.1; omega)⟩
theorem ArgsOwn.on {w w' : World} {B : Nat} {v : Value} {xs : List Ex} (h : ArgsOwn w B v xs) (hb : Below w.heap.size w w') : ArgsOwn w' B v xs := by
  obtain ⟨cs, h1, h2⟩ := h
  refine ⟨cs, lown_below h1 hb, fun j hj => ?_⟩
  obtain ⟨a0, a1, a2, a3, a4, a5, a6, e0, e1, e2, e3, e4, e5, e6, hx⟩ := h2 j hj
  exact ⟨a0, a1, a2, a3, a4, a5, a6, e0, e1, e2, e3, e4, e5, e6, hx.on hb⟩
theorem ArgsOwn.push {w w' : World} {B : Nat} {v v' : Value} {xs : List Ex} {cs : List Value} {a0 a1 a2 a3 a4 a5 a6 : Value} {x : Ex} (h1 : w.ownsRow B 26 7 v xs.length cs) (h2 : ∀ j (h : j < xs.length), ∃ a0 a1 a2 a3 a4 a5 a6, cs[j * 7]? = some a0 ∧ cs[j * 7 + 1]? = some a1 ∧ cs[j * 7 + 2]? = some a2 ∧ cs[j * 7 + 3]? = some a3 ∧ cs[j * 7 + 4]? = some a4 ∧ cs[j * 7 + 5]? = some a5 ∧ cs[j * 7 + 6]? = some a6 ∧ ExIn w (fun b => B ≤ b ∧ some b ≠ v.ownBlock) (.agg #[a0, a1, a2, a3, a4, a5, a6]) xs[j])
    (hx : ExIn w (fun b => B ≤ b ∧ some b ≠ v.ownBlock) (.agg #[a0, a1, a2, a3, a4, a5, a6]) x) (hown' : w'.ownsRow B 26 7 v' (xs.length + 1) (cs ++ [a0, a1, a2, a3, a4, a5, a6])) (hg : w.grownBy w' v.ownBlock) (hf : v'.ownBlock = v.ownBlock ∨ v'.ownBlock = some w.heap.size) : ArgsOwn w' B v' (xs ++ [x]) := by
  have key : ∀ (y : Ex) (u : Value), ExIn w (fun b => B ≤ b ∧ some b ≠ v.ownBlock) u y → ExIn w' (fun b => B ≤ b ∧ some b ≠ v'.ownBlock) u y := fun y u hy => by
    have h3 := ExIn.low (lo' := fun b => (B ≤ b ∧ some b ≠ v.ownBlock) ∧ b < w.heap.size) (fun b hb hb2 => ⟨hb2, hb⟩) _ _ hy
    have h4 := ExIn.keep (w' := w') hg.size (fun b o hb _ => by simp only [World.cell?, hg.block b hb.2 hb.1.2]) _ _ h3
    refine ExIn.low (fun b _ hb => ⟨hb.1.1, ?_⟩) _ _ h4
    rcases hf with hf | hf
    · rw [hf]; exact hb.1.2
    · rw [hf]; intro e; injection e with e; have := hb.2; omega
  have hlen := h1.1
  refine ⟨cs ++ [a0, a1, a2, a3, a4, a5, a6], by rw [List.length_append, List.length_singleton]; exact hown', fun j hj => ?_⟩
  rw [List.length_append, List.length_singleton] at hj
  by_cases hj2 : j < xs.length
  · obtain ⟨b0, b1, b2, b3, b4, b5, b6, e0, e1, e2, e3, e4, e5, e6, hy⟩ := h2 j hj2
    refine ⟨b0, b1, b2, b3, b4, b5, b6, ?_, ?_, ?_, ?_, ?_, ?_, ?_, ?_⟩
    · rw [List.getElem?_append_left (by omega)]; exact e0
    · rw [List.getElem?_append_left (by omega)]; exact e1
    · rw [List.getElem?_append_left (by omega)]; exact e2
    · rw [List.getElem?_append_left (by omega)]; exact e3
    · rw [List.getElem?_append_left (by omega)]; exact e4
    · rw [List.getElem?_append_left (by omega)]; exact e5
    · rw [List.getElem?_append_left (by omega)]; exact e6
    · rw [List.getElem_append_left hj2]; exact key _ _ hy
  · obtain rfl : j = xs.length := by omega
    refine ⟨a0, a1, a2, a3, a4, a5, a6, ?_, ?_, ?_, ?_, ?_, ?_, ?_, ?_⟩
    · rw [List.getElem?_append_right (by omega), show xs.length * 7 - cs.length = 0 by omega]; rfl
    · rw [List.getElem?_append_right (by omega), show xs.length * 7 + 1 - cs.length = 1 by omega]; rfl
    · rw [List.getElem?_append_right (by omega), show xs.length * 7 + 2 - cs.length = 2 by omega]; rfl
    · rw [List.getElem?_append_right (by omega), show xs.length * 7 + 3 - cs.length = 3 by omega]; rfl
    · rw [List.getElem?_append_right (by omega), show xs.length * 7 + 4 - cs.length = 4 by omega]; rfl
    · rw [List.getElem?_append_right (by omega), show xs.length * 7 + 5 - cs.length = 5 by omega]; rfl
    · rw [List.getElem?_append_right (by omega), show xs.length * 7 + 6 - cs.length = 6 by omega]; rfl
    · rw [List.getElem_append_right (Nat.le_refl _)]; simp only [Nat.sub_self, List.getElem_cons_zero]; exact key _ _ hx
/-- A slice of expressions, as a value. -/
def ArgsIs (w : World) (lo : Nat → Prop) (v : Value) (xs : List Ex) : Prop := ∃ p c, v = .slice p xs.length c ∧ (xs.length ≤ maxLen ∧ xs.length ≤ c) ∧ (xs.length = 0 ∨ ∃ b off, p = some ⟨b, off, none⟩ ∧ b < w.heap.size ∧ lo b ∧ ExsIn w lo b off xs)
theorem ArgsOwn.is {w : World} {B : Nat} {v : Value} {xs : List Ex} (h : ArgsOwn w B v xs) : ArgsIs w (B ≤ ·) v xs := by
  obtain ⟨cs, h1, h2⟩ := h
  rcases h1.2 with ⟨e, h0⟩ | ⟨g, cap, cur, e, hB, hgg, hcap, hmx, _, _⟩
  · exact ⟨none, 0, by rw [e, h0], ⟨by omega, by omega⟩, .inl h0⟩
  · refine ⟨_, cap, e, ⟨by omega, hcap⟩, .inr ⟨g, 0, rfl, (Array.getElem?_eq_some_iff.1 hgg).1, hB, exsIn_mk _ _ _ _ _ fun j hj => ?_⟩⟩
    obtain ⟨b0, b1, b2, b3, b4, b5, b6, e0, e1, e2, e3, e4, e5, e6, hy⟩ := h2 j hj
    have hc := fun k u hu => h1.cells (g := g) (by rw [e]; rfl) k u hu
    simp only [Go.WideShapes.add_plain] at hc
    refine ⟨b0, b1, b2, b3, b4, b5, b6, ?_, ?_, ?_, ?_, ?_, ?_, ?_, ExIn.low (fun b _ hb => hb.1) _ _ hy⟩
    · have := hc _ _ e0; simpa using this
    · have := hc _ _ e1; simpa [Nat.add_assoc] using this
    · have := hc _ _ e2; simpa [Nat.add_assoc] using this
    · have := hc _ _ e3; simpa [Nat.add_assoc] using this
    · have := hc _ _ e4; simpa [Nat.add_assoc] using this
    · have := hc _ _ e5; simpa [Nat.add_assoc] using this
    · have := hc _ _ e6; simpa [Nat.add_assoc] using this
theorem info_ex : (Tryz.prog.info? 26).map (fun i => (i.zero, i.size, i.bytes)) = some (some (.agg #[.string ⟨#[]⟩, .string ⟨#[]⟩, .int .i64 0, .int .i64 0, .string ⟨#[]⟩, .slice none 0 0, .int .i64 0]), 7, 96) := by kernel_rfl
theorem argsIs_nil (w : World) (lo : Nat → Prop) : ArgsIs w lo (.slice none 0 0) [] := ⟨none, 0, rfl, ⟨Nat.zero_le _, Nat.zero_le _⟩, .inl rfl⟩
theorem uBr_none {sub : List Tok → Option Ex × List Tok} {k : Nat} {acc : List Ex} {ts : List Tok} (h : nxT (sgT [if acc.length = 0 then [40] else [44]]) ts = none) : uBr sub (k + 1) acc ts = (none, ts) := by rw [uBr, h]
theorem uBr_bad {sub : List Tok → Option Ex × List Tok} {k : Nat} {acc : List Ex} {ts rs : List Tok} {t : Tok} (h : nxT (sgT [if acc.length = 0 then [40] else [44]]) ts = some (t, rs)) (hs : (sub rs).1 = none) : uBr sub (k + 1) acc ts = (none, (sub rs).2) := by
  rw [uBr, h]
  cases h3 : sub rs with
  | mk o r => rw [h3] at hs; simp only at hs; subst hs; simp only [h3]
theorem uBr_step {sub : List Tok → Option Ex × List Tok} {k : Nat} {acc : List Ex} {ts rs : List Tok} {t : Tok} {x : Ex} (h : nxT (sgT [if acc.length = 0 then [40] else [44]]) ts = some (t, rs)) (hs : (sub rs).1 = some x) : uBr sub (k + 1) acc ts = uBr sub k (acc ++ [x]) (sub rs).2 := by
  rw [uBr, h]
  cases h3 : sub rs with
  | mk o r => rw [h3] at hs; simp only at hs; subst hs; simp only [h3]
set_option maxHeartbeats 4000000 in
set_option maxRecDepth 20000 in
theorem bracketed_any (sub : List Tok → Option Ex × List Tok) (n : Nat) (hn3 : n ≤ 3) (ts : List Tok) (hsuf : Suf sub) (hg : Fit ts) (hsub : ∀ ts', ts' <:+ ts → ts'.length < ts.length → Reads 22 sub ts') (w : World) (r : Nat) (h : RdAt w r ts) (henv : TEnv w) (hr : 12 ≤ r) :
    Calls Tryz.prog 164 #[.pointer (some ⟨r, 0, none⟩), .int .i64 (n : Int)] w fun e w' => ∃ v ok xs, e = .returned (.tuple #[v, .bool ok]) ∧ Aside (ArgsIs w' (w.heap.size ≤ ·) v xs) ∧ Aside (RdAt w' r (uBr sub n [] ts).2) ∧ Aside (But r w w') ∧ Hid ((uBr sub n [] ts).1 = if ok = true then some xs else none) := by
  have HR : Aside (RdAt w r ts) := h
  have HE : Aside (TEnv w) := henv
  have HG : Aside (Fit ts) := hg
  have HC : Aside (∀ ts', ts' <:+ ts → ts'.length < ts.length → Reads 22 sub ts') := hsub
  have hl := h.lt
  clear h henv hg hsub
  go_enter Tryz.func164, Tryz.ntmps164
  obtain ⟨i0, hi, hz0, hz1, hzz⟩ := info_parts info_ex
  go_wp2
  go_loopg [6, 7, 8, 9, 10, 11, 12, 16] n (fun gg s6 _ _ _ _ _ _ s16 wr => ∃ (kk : Nat) (acc : List Ex) (ts' : List Tok) (q : Option Addr) (c : Nat), kk ≤ n ∧ n - kk ≤ gg ∧ s16 = .int .i64 kk ∧ acc.length ≤ kk ∧ kk ≤ acc.length ∧ s6 = .slice q acc.length c ∧ Aside (ArgsOwn wr w.heap.size (.slice q acc.length c) acc) ∧ Aside (RdAt wr r ts') ∧ Aside (But r w wr) ∧ Hid (ts' <:+ ts ∧ uBr sub n [] ts = uBr sub (n - kk) acc ts'))
  case atStart => exact ⟨0, [], ts, none, 0, Nat.zero_le _, by omega, rfl, Nat.le_refl _, Nat.le_refl _, rfl, (show Aside _ from argsOwn_nil _ _), HR, (show Aside _ from But.refl _ _), (show Hid _ from ⟨List.suffix_rfl, rfl⟩)⟩
  case round =>
    obtain ⟨kk, acc, ts', q, c, hkk, hg, rfl, ha1, ha2, rfl, AO, RD, BW, HU⟩ := hrel
    have hzr := BW.out.size
    by_cases hlt : kk < n
    · have hltz : (kk : Int) < (n : Int) := by omega
      obtain ⟨k1, hk1⟩ : ∃ k1, n - kk = k1 + 1 := ⟨n - kk - 1, by omega⟩
      by_cases hk0 : 0 < kk
      · have hkz : (0 : Int) < (kk : Int) := by omega
        have cO := oneOf_but wr.heap.size 1 r [[44]] (wr.alloc (.cells #[.string ⟨#[44]⟩] 9)) (by decide) (strs_alloc _ _ rfl _ _ _ (fun j hj => match j, hj with
          | 0, _ => rfl)) (by omega) (by simp; omega)
        have hif : (if acc.length = 0 then [40] else [44] : List UInt8) = [44] := if_neg (by omega)
        go_wp2_with fail
        refine cO.mono ?_
        rintro e w2 ⟨⟨p, rfl, hp⟩, b3⟩
        have B2 : Below wr.heap.size wr w2 := (al _ _).trans (b3.mono (by simp))
        have hz2 : wr.heap.size + 1 ≤ w2.heap.size := by have := b3.size; simpa using this
        have rd2 := RD.out.on B2
        have BB2 := BW.out.on B2 hl
        have AO2 := AO.out.on B2
        clear b3 cO
        cases hn : nxT (sgT [[44]]) ts' with
        | none =>
          have cT := take_sign_none [[44]] p w2 r ts' rd2 hp.sign hn
          have hU : uBr sub n [] ts = (none, ts') := by rw [HU.out.2, hk1]; exact uBr_none (by rw [hif]; exact hn)
          rw [noTok] at cT
          clear hn
          go_wp2_with fail
          refine cT.mono ?_
          rintro e w3 ⟨rfl, rd3, b3⟩
          go_wp2
          go_ret2
          refine ⟨_, false, [], rfl, argsIs_nil _ _, ?_, ?_, ?_⟩
          · rw [hU]; exact rd3.on (al _ _)
          · exact (BB2.trans b3).on (al _ _) hl
          · rw [hU]; exact rfl
        | some y =>
          obtain ⟨tt, rs⟩ := y
          have cT := take_sign_some [[44]] p w2 r tt ts' rs rd2 hp.sign hn
          have hsf : rs <:+ ts ∧ rs.length < ts.length := by
            have h1 := (nxT_len hn).1
            have h2 := HU.out.1
            rw [h1] at h2
            have h3 := h2.length_le
            simp only [List.length_cons] at h3
            exact ⟨(List.suffix_cons tt rs).trans h2, by omega⟩
          have cP := HC.out rs hsf.1 hsf.2
          have HN : Hid (nxT (sgT [if acc.length = 0 then [40] else [44]]) ts' = some (tt, rs)) := by show _ = _; rw [hif]; exact hn
          obtain ⟨tk, tx, ta⟩ := tt
          rw [tokV] at cT
          simp only at cT
          clear hn hif
          go_wp2_with fail
          refine cT.mono ?_
          rintro e w3 ⟨rfl, rd3, b3⟩
          have hz3 := b3.size
          have bb := al w3 (.cells #[.int .i64 tk, .string tx, .int .i64 (ta : Int)] 83)
          have BB3 := (BB2.trans b3).on bb hl
          have AO3 := (AO2.but b3 (by omega)).on bb
          go_wp2_with fail
          refine (cP _ r (rd3.on bb) (HE.out.but BB3 hr) hr).mono ?_
          rintro e w4 ⟨v, ok, x, rfl, hx, hrd, hbt, hres⟩
          obtain ⟨u0, u1, u2, u3, u4, u5, u6, u7, u8, rfl⟩ := hx.out.agg
          have hz4 : w3.heap.size + 1 ≤ w4.heap.size := by have := hbt.out.size; simpa using this
          have BB4 := BB3.trans hbt.out
          have AO4 := AO3.but hbt.out (by omega)
          have hob : ∀ j, (Value.slice q acc.length c).ownBlock = some j → w.heap.size ≤ j ∧ j < w3.heap.size + 1 := fun j hj => by
            obtain ⟨cs3, o3, _⟩ := AO3
            have := o3.lt j hj
            simpa using this
          clear cT cP AO2 AO3 BB2 BB3
          cases ok
          · have hU : uBr sub n [] ts = (none, (sub rs).2) := by rw [HU.out.2, hk1]; exact uBr_bad HN.out hres.out
            go_wp2
            go_ret2
            refine ⟨_, false, [], rfl, argsIs_nil _ _, ?_, ?_, ?_⟩
            · rw [hU]; exact hrd.out.on (al _ _)
            · exact BB4.on (al _ _) hl
            · rw [hU]; exact rfl
          · have hU : uBr sub n [] ts = uBr sub k1 (acc ++ [x]) (sub rs).2 := by rw [HU.out.2, hk1]; exact uBr_step HN.out hres.out
            have hsf2 : (sub rs).2 <:+ ts := (hsuf rs).trans hsf.1
            have HU2 : Hid ((sub rs).2 <:+ ts ∧ uBr sub n [] ts = uBr sub (n - (kk + 1)) (acc ++ [x]) (sub rs).2) := ⟨hsf2, by rw [hU, show n - (kk + 1) = k1 by omega]⟩
            have b5 := (al w4 (.cells #[.string u0, .string u1, .int .i64 u2, .int .i64 u3, .string u4, .slice u5 u6 u7, .int .i64 u8] 26)).trans ((al _ (.cells #[.string u0, .string u1, .int .i64 u2, .int .i64 u3, .string u4, .slice u5 u6 u7, .int .i64 u8] 26)).mono (by simp))
            obtain ⟨cs, ao1, ao2⟩ := AO4.on b5
            have hx2 := ExIn.low (lo' := fun b => w.heap.size ≤ b ∧ some b ≠ (Value.slice q acc.length c).ownBlock) (fun b _ hb => ⟨by simp at hb; omega, fun e => by have := hob b e.symm; simp at hb; omega⟩) _ _ (hx.out.on b5)
            clear hU hsf2 hres HN
            go_wp2_with (at_builtin; refine wpList_append_fresh rfl _ _ 24 rfl w.heap.size 26 i0 (.agg #[.string ⟨#[]⟩, .string ⟨#[]⟩, .int .i64 0, .int .i64 0, .string ⟨#[]⟩, .slice none 0 0, .int .i64 0]) 7 96 Tryz.underlying24 hi hz0 hz1 hzz rfl (by decide) _ _ _ rfl ao1 ⟨w4.heap.size + 1, 0, none⟩ 1 1 [.string u0, .string u1, .int .i64 u2, .int .i64 u3, .string u4, .slice u5 u6 u7, .int .i64 u8] rfl rfl ?c1 ?c2 (by decide) ?c3 ?c4 ?c5 ?_)
            case c1 =>
              intro i u hu
              rw [Go.WideShapes.add_plain, World.cell?_alloc_at _ _ _ _ (by simp)]
              simpa using hu
            case c2 =>
              intro u hu
              simp at hu
              rcases hu with rfl | rfl | rfl | rfl | rfl | rfl | rfl <;> rfl
            case c3 => unfold maxLen; omega
            case c4 => omega
            case c5 => have := BB4.size; simp; omega
            · intro v' w5 hown' hgrow hfr
              have AO5 := ArgsOwn.push ao1 ao2 hx2 hown' hgrow (hfr.imp id (fun h => by rw [h]; simp))
              have W5 := BB4.on b5 hl
              have rd5 := (hrd.out.on b5).onB ((Below.refl (r + 1) _).grown hgrow (by simp; omega) (fun j hj => by have := (hob j hj).1; omega)) hgrow.size
              have BB5 : But r w w5 := ⟨W5.below.grown hgrow (by simp; omega) (fun j hj => by have := (hob j hj).1; omega), Nat.le_trans W5.size hgrow.size, fun j hj hjr => by rw [hgrow.block j (by have := W5.size; omega) (fun e => by have := (hob j e.symm).1; omega)]; exact W5.kept j hj hjr⟩
              obtain ⟨cs5, o5, _⟩ := id AO5
              obtain ⟨q5, c5, rfl⟩ := lown_slice o5
              clear o5 hown' hgrow hfr
              go_wp2
              go_roundg (n - (kk + 1))
              case measure => omega
              case rel => exact ⟨kk + 1, acc ++ [x], (sub rs).2, q5, c5, by omega, by omega, by go_num, by rw [List.length_append, List.length_singleton]; omega, by rw [List.length_append, List.length_singleton]; omega, rfl, (show Aside _ from AO5), (show Aside _ from rd5), (show Aside _ from BB5), HU2⟩
      · have hkz : ¬ (0 : Int) < (kk : Int) := by omega
        have cO := oneOf_but wr.heap.size 1 r [[40]] (wr.alloc (.cells #[.string ⟨#[40]⟩] 9)) (by decide) (strs_alloc _ _ rfl _ _ _ (fun j hj => match j, hj with
          | 0, _ => rfl)) (by omega) (by simp; omega)
        have hif : (if acc.length = 0 then [40] else [44] : List UInt8) = [40] := if_pos (by omega)
        go_wp2_with fail
        refine cO.mono ?_
        rintro e w2 ⟨⟨p, rfl, hp⟩, b3⟩
        have B2 : Below wr.heap.size wr w2 := (al _ _).trans (b3.mono (by simp))
        have hz2 : wr.heap.size + 1 ≤ w2.heap.size := by have := b3.size; simpa using this
        have rd2 := RD.out.on B2
        have BB2 := BW.out.on B2 hl
        have AO2 := AO.out.on B2
        clear b3 cO
        cases hn : nxT (sgT [[40]]) ts' with
        | none =>
          have cT := take_sign_none [[40]] p w2 r ts' rd2 hp.sign hn
          have hU : uBr sub n [] ts = (none, ts') := by rw [HU.out.2, hk1]; exact uBr_none (by rw [hif]; exact hn)
          rw [noTok] at cT
          clear hn
          go_wp2_with fail
          refine cT.mono ?_
          rintro e w3 ⟨rfl, rd3, b3⟩
          go_wp2
          go_ret2
          refine ⟨_, false, [], rfl, argsIs_nil _ _, ?_, ?_, ?_⟩
          · rw [hU]; exact rd3.on (al _ _)
          · exact (BB2.trans b3).on (al _ _) hl
          · rw [hU]; exact rfl
        | some y =>
          obtain ⟨tt, rs⟩ := y
          have cT := take_sign_some [[40]] p w2 r tt ts' rs rd2 hp.sign hn
          have hsf : rs <:+ ts ∧ rs.length < ts.length := by
            have h1 := (nxT_len hn).1
            have h2 := HU.out.1
            rw [h1] at h2
            have h3 := h2.length_le
            simp only [List.length_cons] at h3
            exact ⟨(List.suffix_cons tt rs).trans h2, by omega⟩
          have cP := HC.out rs hsf.1 hsf.2
          have HN : Hid (nxT (sgT [if acc.length = 0 then [40] else [44]]) ts' = some (tt, rs)) := by show _ = _; rw [hif]; exact hn
          obtain ⟨tk, tx, ta⟩ := tt
          rw [tokV] at cT
          simp only at cT
          clear hn hif
          go_wp2_with fail
          refine cT.mono ?_
          rintro e w3 ⟨rfl, rd3, b3⟩
          have hz3 := b3.size
          have bb := al w3 (.cells #[.int .i64 tk, .string tx, .int .i64 (ta : Int)] 83)
          have BB3 := (BB2.trans b3).on bb hl
          have AO3 := (AO2.but b3 (by omega)).on bb
          go_wp2_with fail
          refine (cP _ r (rd3.on bb) (HE.out.but BB3 hr) hr).mono ?_
          rintro e w4 ⟨v, ok, x, rfl, hx, hrd, hbt, hres⟩
          obtain ⟨u0, u1, u2, u3, u4, u5, u6, u7, u8, rfl⟩ := hx.out.agg
          have hz4 : w3.heap.size + 1 ≤ w4.heap.size := by have := hbt.out.size; simpa using this
          have BB4 := BB3.trans hbt.out
          have AO4 := AO3.but hbt.out (by omega)
          have hob : ∀ j, (Value.slice q acc.length c).ownBlock = some j → w.heap.size ≤ j ∧ j < w3.heap.size + 1 := fun j hj => by
            obtain ⟨cs3, o3, _⟩ := AO3
            have := o3.lt j hj
            simpa using this
          clear cT cP AO2 AO3 BB2 BB3
          cases ok
          · have hU : uBr sub n [] ts = (none, (sub rs).2) := by rw [HU.out.2, hk1]; exact uBr_bad HN.out hres.out
            go_wp2
            go_ret2
            refine ⟨_, false, [], rfl, argsIs_nil _ _, ?_, ?_, ?_⟩
            · rw [hU]; exact hrd.out.on (al _ _)
            · exact BB4.on (al _ _) hl
            · rw [hU]; exact rfl
          · have hU : uBr sub n [] ts = uBr sub k1 (acc ++ [x]) (sub rs).2 := by rw [HU.out.2, hk1]; exact uBr_step HN.out hres.out
            have hsf2 : (sub rs).2 <:+ ts := (hsuf rs).trans hsf.1
            have HU2 : Hid ((sub rs).2 <:+ ts ∧ uBr sub n [] ts = uBr sub (n - (kk + 1)) (acc ++ [x]) (sub rs).2) := ⟨hsf2, by rw [hU, show n - (kk + 1) = k1 by omega]⟩
            have b5 := (al w4 (.cells #[.string u0, .string u1, .int .i64 u2, .int .i64 u3, .string u4, .slice u5 u6 u7, .int .i64 u8] 26)).trans ((al _ (.cells #[.string u0, .string u1, .int .i64 u2, .int .i64 u3, .string u4, .slice u5 u6 u7, .int .i64 u8] 26)).mono (by simp))
            obtain ⟨cs, ao1, ao2⟩ := AO4.on b5
            have hx2 := ExIn.low (lo' := fun b => w.heap.size ≤ b ∧ some b ≠ (Value.slice q acc.length c).ownBlock) (fun b _ hb => ⟨by simp at hb; omega, fun e => by have := hob b e.symm; simp at hb; omega⟩) _ _ (hx.out.on b5)
            clear hU hsf2 hres HN
            go_wp2_with (at_builtin; refine wpList_append_fresh rfl _ _ 24 rfl w.heap.size 26 i0 (.agg #[.string ⟨#[]⟩, .string ⟨#[]⟩, .int .i64 0, .int .i64 0, .string ⟨#[]⟩, .slice none 0 0, .int .i64 0]) 7 96 Tryz.underlying24 hi hz0 hz1 hzz rfl (by decide) _ _ _ rfl ao1 ⟨w4.heap.size + 1, 0, none⟩ 1 1 [.string u0, .string u1, .int .i64 u2, .int .i64 u3, .string u4, .slice u5 u6 u7, .int .i64 u8] rfl rfl ?c1 ?c2 (by decide) ?c3 ?c4 ?c5 ?_)
            case c1 =>
              intro i u hu
              rw [Go.WideShapes.add_plain, World.cell?_alloc_at _ _ _ _ (by simp)]
              simpa using hu
            case c2 =>
              intro u hu
              simp at hu
              rcases hu with rfl | rfl | rfl | rfl | rfl | rfl | rfl <;> rfl
            case c3 => unfold maxLen; omega
            case c4 => omega
            case c5 => have := BB4.size; simp; omega
            · intro v' w5 hown' hgrow hfr
              have AO5 := ArgsOwn.push ao1 ao2 hx2 hown' hgrow (hfr.imp id (fun h => by rw [h]; simp))
              have W5 := BB4.on b5 hl
              have rd5 := (hrd.out.on b5).onB ((Below.refl (r + 1) _).grown hgrow (by simp; omega) (fun j hj => by have := (hob j hj).1; omega)) hgrow.size
              have BB5 : But r w w5 := ⟨W5.below.grown hgrow (by simp; omega) (fun j hj => by have := (hob j hj).1; omega), Nat.le_trans W5.size hgrow.size, fun j hj hjr => by rw [hgrow.block j (by have := W5.size; omega) (fun e => by have := (hob j e.symm).1; omega)]; exact W5.kept j hj hjr⟩
              obtain ⟨cs5, o5, _⟩ := id AO5
              obtain ⟨q5, c5, rfl⟩ := lown_slice o5
              clear o5 hown' hgrow hfr
              go_wp2
              go_roundg (n - (kk + 1))
              case measure => omega
              case rel => exact ⟨kk + 1, acc ++ [x], (sub rs).2, q5, c5, by omega, by omega, by go_num, by rw [List.length_append, List.length_singleton]; omega, by rw [List.length_append, List.length_singleton]; omega, rfl, (show Aside _ from AO5), (show Aside _ from rd5), (show Aside _ from BB5), HU2⟩
    · have hltz : ¬ (kk : Int) < (n : Int) := by omega
      have hU0 : uBr sub n [] ts = uBr sub 0 acc ts' := by rw [HU.out.2, show n - kk = 0 by omega]
      have cO := oneOf_but wr.heap.size 1 r [[41]] (wr.alloc (.cells #[.string ⟨#[41]⟩] 9)) (by decide) (strs_alloc _ _ rfl _ _ _ (fun j hj => match j, hj with
        | 0, _ => rfl)) (by omega) (by simp; omega)
      go_wp2_with fail
      refine cO.mono ?_
      rintro e w2 ⟨⟨p, rfl, hp⟩, b3⟩
      have B2 : Below wr.heap.size wr w2 := (al _ _).trans (b3.mono (by simp))
      have rd2 := RD.out.on B2
      have BB2 := BW.out.on B2 hl
      have AO2 := AO.out.on B2
      clear b3 cO
      cases hn : nxT (sgT [[41]]) ts' with
      | none =>
        have cT := take_sign_none [[41]] p w2 r ts' rd2 hp.sign hn
        have hU : uBr sub n [] ts = (none, ts') := by rw [hU0, uBr, hn]
        rw [noTok] at cT
        clear hn
        go_wp2_with fail
        refine cT.mono ?_
        rintro e w3 ⟨rfl, rd3, b3⟩
        go_wp2
        go_ret2
        refine ⟨_, false, acc, rfl, (show Aside _ from ((AO2.but b3 (by omega)).on (al _ _)).is), ?_, ?_, ?_⟩
        · rw [hU]; exact rd3.on (al _ _)
        · exact (BB2.trans b3).on (al _ _) hl
        · rw [hU]; exact rfl
      | some y =>
        obtain ⟨tt, rs⟩ := y
        have cT := take_sign_some [[41]] p w2 r tt ts' rs rd2 hp.sign hn
        have hU : uBr sub n [] ts = (some acc, rs) := by rw [hU0, uBr, hn]
        obtain ⟨tk, tx, ta⟩ := tt
        rw [tokV] at cT
        simp only at cT
        clear hn
        go_wp2_with fail
        refine cT.mono ?_
        rintro e w3 ⟨rfl, rd3, b3⟩
        go_wp2
        go_ret2
        refine ⟨_, true, acc, rfl, (show Aside _ from ((AO2.but b3 (by omega)).on (al _ _)).is), ?_, ?_, ?_⟩
        · rw [hU]; exact rd3.on (al _ _)
        · exact (BB2.trans b3).on (al _ _) hl
        · rw [hU]; exact rfl
end Go.Proofs.YtomakklbfjkdpaaGreatDoor
