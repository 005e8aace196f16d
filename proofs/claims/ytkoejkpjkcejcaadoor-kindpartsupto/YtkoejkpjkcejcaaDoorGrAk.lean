/-
  KdPw, KdPx, in one text.
-/
import Derived.Test.YtkoejkpjkcejcaaDoorGrAj
namespace Go.Proofs.YtkoejkpjkcejcaaDoor
open Go.RowKit Go.BigFrame
set_option linter.unusedVariables false

theorem of_one : ofP [(⟨#[120]⟩, 3)] (.node ⟨#[99, 111, 108]⟩ ⟨#[120]⟩ 0 0 ⟨#[]⟩ 0 [] : Ex) = (3, 0, 0) := by kernel_rfl
theorem ofP_parts {zs : List (ByteArray × Int)} {y : Ex} (h : ckP y = 0) : ofP zs y = if schE zs ≠ 0 then (0, schE zs, 0) else tyP zs y := by rw [ofP, if_neg (fun hh => hh h)]
/-- Where a part is wrong the whole is so, if all ahead of it are right. -/
theorem of_bad {zs : List (ByteArray × Int)} {op : ByteArray} {l : List Ex} {acc : List Int} {k : Nat} {t h pp : Int} (hck : ckP (.node op ⟨#[]⟩ 0 0 ⟨#[]⟩ 7 l : Ex) = 0) (hk : k < l.length) (hg : k = 0 ∨ schE zs = 0) (hgo : tyGo zs acc (l.drop k) = tysP zs l) (hy : ofP zs l[k] = (t, h, pp)) (hh : h ≠ 0) : ofP zs (.node op ⟨#[]⟩ 0 0 ⟨#[]⟩ 7 l : Ex) = (0, h, pp) ∧ t = 0 := by
  have hp : ckP l[k] = 0 := ckP_part hck (List.getElem_mem hk)
  rw [ofP_parts hp] at hy
  rw [ofP_parts hck]
  by_cases hs : schE zs = 0
  · rw [if_neg (fun h => h hs)] at hy ⊢
    obtain ⟨o1, o2, _⟩ := op_parts hck (by show l.length ≠ 0; omega)
    have o1 : op.data.toList ≠ [118, 97, 108] := o1
    have o2 : op.data.toList ≠ [99, 111, 108] := o2
    have hb := tyGo_bad (zs := zs) (acc := acc) hk (by rw [hy]; exact hh)
    rw [hgo, hy] at hb
    rw [tyP_op o1 o2, hb]
    simp only
    rw [if_pos hh]
    refine ⟨rfl, ?_⟩
    have hz : ∀ y : Ex, (tyP zs y).2.1 ≠ 0 → (tyP zs y).1 = 0 := fun y h => by
      cases y with
      | node o n' a b c' d' e' =>
        rw [tyP] at h ⊢
        repeat' split
        all_goals first | rfl | (exfalso; revert h; simp_all)
    have := hz l[k] (by rw [hy]; exact hh)
    rw [hy] at this
    exact this
  · rw [if_pos hs] at hy ⊢
    simp only [Prod.mk.injEq] at hy
    obtain ⟨rfl, rfl, rfl⟩ := hy
    exact ⟨rfl, rfl⟩
theorem of_ok {zs : List (ByteArray × Int)} {op : ByteArray} {l : List Ex} {k : Nat} {t pp : Int} (hck : ckP (.node op ⟨#[]⟩ 0 0 ⟨#[]⟩ 7 l : Ex) = 0) (hk : k < l.length) (hy : ofP zs l[k] = (t, 0, pp)) : schE zs = 0 ∧ tyP zs l[k] = (t, 0, pp) ∧ isTy t = true := by
  have hp : ckP l[k] = 0 := ckP_part hck (List.getElem_mem hk)
  rw [ofP_parts hp] at hy
  by_cases hs : schE zs = 0
  · rw [if_neg (fun h => h hs)] at hy
    have hn := (ckP_zero hp).2 (l[k], 1) (by rw [pre_eq]; exact List.mem_cons_self ..)
    have := tyP_ty (zs := zs) hn hs (by rw [hy])
    rw [hy] at this
    exact ⟨hs, hy, this⟩
  · rw [if_pos hs] at hy
    simp only [Prod.mk.injEq] at hy
    exact absurd hy.2.1 hs
theorem of_whole {zs : List (ByteArray × Int)} {op : ByteArray} {l : List Ex} {acc : List Int} {RT RE : Int} (hck : ckP (.node op ⟨#[]⟩ 0 0 ⟨#[]⟩ 7 l : Ex) = 0) (hl : l.length ≠ 0) (hs : schE zs = 0) (hgo : tysP zs l = (acc, 0, 0)) (hty : acc.all isTy = true) (hlen : acc.length = l.length) (hr : ruleP op.data.toList acc = (RT, RE)) : (RE = 0 ∧ ofP zs (.node op ⟨#[]⟩ 0 0 ⟨#[]⟩ 7 l : Ex) = (RT, 0, 0)) ∨ (RE = 8 ∧ ofP zs (.node op ⟨#[]⟩ 0 0 ⟨#[]⟩ 7 l : Ex) = (0, 8, 7)) := by
  obtain ⟨o1, o2, r, hf, hc⟩ := op_parts hck hl
  have o1 : op.data.toList ≠ [118, 97, 108] := o1
  have o2 : op.data.toList ≠ [99, 111, 108] := o2
  have hf : kdFind op.data.toList kdRules = some r := hf
  have hc : kdCnt r = l.length := hc
  rw [ofP_parts hck, if_neg (fun h => h hs), tyP_op o1 o2, hgo]
  simp only
  rw [if_neg (by simp), hr]
  simp only
  rcases ruleP_err hf hty (by rw [hlen, hc]) with h | h
  · rw [hr] at h
    have h : RE = 0 := h
    exact .inl ⟨h, by rw [if_neg (by simp [h])]⟩
  · rw [hr] at h
    obtain ⟨rfl, rfl⟩ := Prod.mk.inj h
    exact .inr ⟨rfl, by rw [if_pos (by decide)]⟩
end Go.Proofs.YtkoejkpjkcejcaaDoor
namespace Go.Proofs.YtkoejkpjkcejcaaDoor
open Go.RowKit Go.BigFrame
set_option linter.unusedVariables false

theorem part_len {op : ByteArray} {l : List Ex} (h : (((.node op ⟨#[]⟩ 0 0 ⟨#[]⟩ 7 l : Ex)).pre 1).length ≤ 1048576) {y : Ex} (hy : y ∈ l) : (y.pre 1).length ≤ 1048576 := by
  have h1 : (y.pre 1).length = (y.pre 2).length := by rw [pre_shift y 1]; simp
  rw [pre_eq, List.length_cons] at h
  have h2 := pres_len (d := 1 + 1) hy
  have h3 : (Ex.pres (1 + 1) ((.node op ⟨#[]⟩ 0 0 ⟨#[]⟩ 7 l : Ex)).args).length = (Ex.pres (1 + 1) l).length := rfl
  have h4 : (y.pre (1 + 1)).length = (y.pre 2).length := rfl
  omega
set_option maxHeartbeats 8000000 in
set_option maxRecDepth 20000 in
theorem parts_any (op : ByteArray) (va vl : Value) (l : List Ex) (zs : List (ByteArray × Int)) (lo : Nat → Prop) (w : World) (henv : KEnv w) (hop : op.size ≤ maxLen) (ha : ArgsIs w lo va l) (hcv : ColsV w vl zs) (hsz : (((.node op ⟨#[]⟩ 0 0 ⟨#[]⟩ 7 l : Ex)).pre 1).length ≤ 1048576) :
    Calls Tryd.prog 4 #[.string op, va, vl] w fun e w' => e = .returned (.bool true) ∧ Below w.heap.size w w' := by
  obtain ⟨i0, hi, hz0, hz1, hzz⟩ := info_parts info_int
  obtain ⟨p, ca, rfl, ⟨hm, hmc⟩, hparts⟩ := ha
  have hmz := hm
  unfold maxLen at hmz
  have b1 : Below w.heap.size w (w.alloc (.cells #[.string ⟨#[120]⟩, .int .i64 3] 48)) := al w _
  have cO := of_any (.node ⟨#[99, 111, 108]⟩ ⟨#[120]⟩ 0 0 ⟨#[]⟩ 0 [] : Ex) (fun _ => True) (.agg #[.string ⟨#[99, 111, 108]⟩, .string ⟨#[120]⟩, .int .i64 0, .int .i64 0, .string ⟨#[]⟩, .slice none 0 0, .int .i64 0]) (.slice (some ⟨w.heap.size, 0, none⟩) 1 1) [(⟨#[120]⟩, 3)] (w.alloc (.cells #[.string ⟨#[120]⟩, .int .i64 3] 48)) (henv.on b1)
    (by rw [ExIn]; exact ⟨none, 0, rfl, ⟨by decide, by decide⟩, by decide, by decide, by decide, .inl rfl⟩) (by decide)
    ⟨some ⟨w.heap.size, 0, none⟩, 1, rfl, .inr ⟨w.heap.size, 0, rfl, by decide, (fun z hz => by simp at hz; subst hz; decide), by simp, fun j hj => by
      obtain rfl : j = 0 := by simp at hj; exact hj
      exact ⟨by rw [World.cell?_alloc_at _ _ _ _ rfl]; rfl, by rw [World.cell?_alloc_at _ _ _ _ rfl]; rfl⟩⟩⟩ 3 0 0 of_one
  have HEN : Aside (KEnv w) := henv
  have HCV : Aside (ColsV w vl zs) := hcv
  have HPA : Aside (l.length = 0 ∨ ∃ b off, p = some ⟨b, off, none⟩ ∧ b < w.heap.size ∧ lo b ∧ ExsIn w lo b off l) := hparts
  have HSZ : Hid ((((.node op ⟨#[]⟩ 0 0 ⟨#[]⟩ 7 l : Ex)).pre 1).length ≤ 1048576) := hsz
  have HXE : Aside (∀ W, Below w.heap.size w W → ExIn W lo (.agg #[.string op, .string ⟨#[]⟩, .int .i64 0, .int .i64 0, .string ⟨#[]⟩, .slice p l.length ca, .int .i64 7]) (.node op ⟨#[]⟩ 0 0 ⟨#[]⟩ 7 l : Ex)) := fun W hb => by
    have h : ExIn w lo (.agg #[.string op, .string ⟨#[]⟩, .int .i64 0, .int .i64 0, .string ⟨#[]⟩, .slice p l.length ca, .int .i64 7]) (.node op ⟨#[]⟩ 0 0 ⟨#[]⟩ 7 l : Ex) := by
      rw [ExIn]
      exact ⟨p, ca, rfl, ⟨hm, hmc⟩, hop, by decide, by decide, hparts⟩
    exact h.on hb
  clear henv hcv hparts hsz
  go_enter Tryd.func4, Tryd.ntmps4
  go_wp2_with fail
  refine cO.mono ?_
  rintro e w2 ⟨rfl, b2⟩
  have b3 : Below w.heap.size w w2 := b1.trans (b2.mono b1.size)
  clear cO b1 b2
  have b4 : Below w.heap.size w ((w2.alloc (.cells #[.int .i64 0, .int .i64 0] 43)).alloc (.cells #[.string op, .string ⟨#[]⟩, .int .i64 0, .int .i64 0, .string ⟨#[]⟩, .slice p l.length ca, .int .i64 7] 27)) := (b3.alloc b3.size _).alloc (by simp; have := b3.size; omega) _
  have cK := check_tree (.node op ⟨#[]⟩ 0 0 ⟨#[]⟩ 7 l : Ex) lo _ ((w2.alloc (.cells #[.int .i64 0, .int .i64 0] 43)).alloc (.cells #[.string op, .string ⟨#[]⟩, .int .i64 0, .int .i64 0, .string ⟨#[]⟩, .slice p l.length ca, .int .i64 7] 27)) (HEN.out.on b4).tenv (HXE.out _ b4) HSZ.out
  have box : Hid (∀ W, Below ((w2.alloc (.cells #[.int .i64 0, .int .i64 0] 43)).alloc (.cells #[.string op, .string ⟨#[]⟩, .int .i64 0, .int .i64 0, .string ⟨#[]⟩, .slice p l.length ca, .int .i64 7] 27)).heap.size ((w2.alloc (.cells #[.int .i64 0, .int .i64 0] 43)).alloc (.cells #[.string op, .string ⟨#[]⟩, .int .i64 0, .int .i64 0, .string ⟨#[]⟩, .slice p l.length ca, .int .i64 7] 27)) W → (∀ i, W.cell? ⟨w2.heap.size + 1, i, none⟩ = (#[.string op, .string ⟨#[]⟩, .int .i64 0, .int .i64 0, .string ⟨#[]⟩, .slice p l.length ca, .int .i64 7] : Array Value)[i]?) ∧ w2.heap.size + 1 < W.heap.size) := fun W hb => by
    have hz := hb.size
    simp at hz
    exact ⟨fun i => by rw [hb.cell (p := ⟨w2.heap.size + 1, i, none⟩) (by simp), World.cell?_alloc_at _ _ _ _ (by simp)], by omega⟩
  by_cases hck : ckP (.node op ⟨#[]⟩ 0 0 ⟨#[]⟩ 7 l : Ex) = 0
  · rw [hck, show errV 0 = .nilIface from rfl] at cK
    by_cases hl0 : l.length = 0
    · have hlz : ((l.length : Int) == 0) = true := by rw [hl0]; rfl
      clear hck box HXE HSZ HPA HCV HEN hl0
      go_wp2_with fail
      refine cK.mono ?_
      rintro e w4 ⟨rfl, b5⟩
      go_wp2
      go_ret
      exact ⟨rfl, b4.trans (b5.mono b4.size)⟩
    · have hlz : ((l.length : Int) == 0) = false := by simp; intro h; exact hl0 (by rw [h]; rfl)
      go_wp2_with fail
      refine cK.mono ?_
      rintro e w4 ⟨rfl, b5⟩
      have b6 : Below w.heap.size w w4 := b4.trans (b5.mono b4.size)
      have BOX : Hid (∀ W, Below w4.heap.size w4 W → (∀ i, W.cell? ⟨w2.heap.size + 1, i, none⟩ = (#[.string op, .string ⟨#[]⟩, .int .i64 0, .int .i64 0, .string ⟨#[]⟩, .slice p l.length ca, .int .i64 7] : Array Value)[i]?) ∧ w2.heap.size + 1 < W.heap.size ∧ Below w.heap.size w W) := fun W hb => by
        obtain ⟨h1, h2⟩ := box.out W (b5.trans (hb.mono b5.size))
        exact ⟨h1, h2, b6.trans (hb.mono b6.size)⟩
      have HCK : Hid (ckP (.node op ⟨#[]⟩ 0 0 ⟨#[]⟩ 7 l : Ex) = 0) := hck
      have HL0 : Hid (l.length ≠ 0) := hl0
      have hl3 : l.length ≤ 3 := ck_small hck ((.node op ⟨#[]⟩ 0 0 ⟨#[]⟩ 7 l : Ex), 1) (by rw [pre_eq]; exact List.mem_cons_self ..)
      clear cK box b4 b5 hck hl0
      go_wp2
      go_loopg [10, 11, 12, 13] l.length (fun gg s10 s11 _ _ wr => ∃ (kk : Nat) (acc : List Int) (q : Option Addr) (cp : Nat), kk ≤ l.length ∧ l.length - kk ≤ gg ∧ s11 = .int .i64 kk ∧ s10 = .slice q kk cp ∧ Aside (wr.ownsRow w4.heap.size 3 1 (.slice q kk cp) kk (acc.map fun t => .int .i64 t)) ∧ Aside (Below w4.heap.size w4 wr) ∧ Hid (tyGo zs acc (l.drop kk) = tysP zs l ∧ acc.length = kk ∧ acc.all isTy = true ∧ (kk = 0 ∨ schE zs = 0)))
      case atStart => exact ⟨0, [], none, 0, Nat.zero_le _, by omega, rfl, rfl, (show Aside _ from ⟨rfl, .inl ⟨rfl, rfl⟩⟩), (show Aside _ from Below.refl _ _), (show Hid _ from ⟨tyGo_start zs l, rfl, rfl, .inl rfl⟩)⟩
      case round =>
        obtain ⟨kk, acc, q, cp, hkk, hg, rfl, rfl, OW, BW, HG⟩ := hrel
        obtain ⟨eB, hle, bwr⟩ := BOX.out wr BW.out
        have hz4 := BW.out.size
        rcases HPA.out with h | ⟨ba, oa, rfl, hbl, hlo, hE⟩
        · exact absurd h HL0.out
        by_cases hlt : kk < l.length
        · have hltz : (kk : Int) < (l.length : Int) := by omega
          have h0z : (0 : Int) ≤ (kk : Int) := by omega
          obtain ⟨v0, v1, v2, v3, v4, v5, v6, e0, e1, e2, e3, e4, e5, e6, hy⟩ := exsIn_at w lo ba l oa hE kk hlt
          obtain ⟨u0, u1, u2, u3, u4, u5, u6, u7, u8, huu⟩ := hy.agg
          injection huu with huu
          simp only [Array.mk.injEq, List.cons.injEq, and_true] at huu
          obtain ⟨rfl, rfl, rfl, rfl, rfl, rfl, rfl⟩ := huu
          have kA : ∀ o, wr.cell? ⟨ba, o, none⟩ = w.cell? ⟨ba, o, none⟩ := fun o => bwr.cell (p := ⟨ba, o, none⟩) hbl
          rw [← kA] at e0 e1 e2 e3 e4 e5 e6
          have hblr : ba < wr.heap.size := by have := bwr.size; omega
          obtain ⟨t, h, pp, hty⟩ : ∃ t h pp, ofP zs l[kk] = (t, h, pp) := ⟨_, _, _, rfl⟩
          have cY := of_any l[kk] lo _ vl zs wr (HEN.out.on bwr) (hy.on bwr) (part_len HSZ.out (List.getElem_mem hlt)) (HCV.out.on bwr) t h pp hty
          have HTY : Hid (ofP zs l[kk] = (t, h, pp)) := hty
          have HKL : Hid (kk < l.length) := hlt
          clear hE kA hy hty eB
          by_cases hh : h = 0
          · subst hh
            obtain ⟨hs0, hty0, hit⟩ := of_ok HCK.out HKL.out HTY.out
            have HG2 : Hid (tyGo zs (acc ++ [t]) (l.drop (kk + 1)) = tysP zs l ∧ (acc ++ [t]).length = kk + 1 ∧ (acc ++ [t]).all isTy = true ∧ (kk + 1 = 0 ∨ schE zs = 0)) := by
              refine ⟨?_, by simp [HG.out.2.1], by rw [List.all_append, HG.out.2.2.1]; simp [hit], .inr hs0⟩
              have h := tyGo_ok (zs := zs) (acc := acc) HKL.out (by rw [hty0])
              rw [hty0] at h
              rw [← h]; exact HG.out.1
            clear HG HTY hs0 hty0 hit
            go_wp2_with fail
            refine cY.mono ?_
            rintro e w5 ⟨rfl, b7⟩
            have hz5 := b7.size
            have OW4 := own_but OW.out (But.of_below' (r := 0) b7 (Nat.zero_le _)) (by have := b6.size; omega)
            have OW5 := OW4.alloc (.cells #[.int .i64 0, .int .i64 pp] 43)
            have BW5 : Aside (Below w4.heap.size w4 (w5.alloc (.cells #[.int .i64 0, .int .i64 pp] 43))) := (BW.out.trans (b7.mono hz4)).alloc (by omega) _
            clear cY b7 e0 e1 e2 e3 e4 e5 e6 OW OW4
            go_wp2_with (at_builtin; refine wpList_append_own _ rfl _ _ 22 rfl w4.heap.size 3 i0 (.int .i64 0) 1 8 Tryd.underlying22 hi hz0 hz1 hzz rfl (by decide) _ _ _ rfl (OW5.alloc _) ⟨w5.heap.size + 1, 0, none⟩ 1 1 [.int .i64 t] rfl rfl ?c1 ?c2 ?c3 ?c4 ?c5 ?_)
            case c1 =>
              intro i u hu
              rw [Go.WideShapes.add_plain, World.cell?_alloc_at _ _ _ _ (by simp)]
              simpa using hu
            case c2 =>
              intro u hu
              simp at hu
              subst hu; rfl
            case c3 => simp [maxLen]; omega
            case c4 => omega
            case c5 => simp; omega
            · intro v' w6 hown' hgrow _
              have hlo3 : ∀ j, (Value.slice q kk cp).ownBlock = some j → w4.heap.size ≤ j := fun j hj => (OW5.lt j hj).1
              have bg : Below w4.heap.size (w5.alloc (.cells #[.int .i64 0, .int .i64 pp] 43)) w6 := ((Below.refl _ _).alloc (by simp; omega) _).grown hgrow (by simp; omega) hlo3
              have BW6 : Aside (Below w4.heap.size w4 w6) := BW5.out.trans bg
              obtain ⟨q5, c5, rfl⟩ := lown_slice hown'
              have ow6 : w6.ownsRow w4.heap.size 3 1 (.slice q5 (kk + 1) c5) (kk + 1) ((acc ++ [t]).map fun t => .int .i64 t) := by rw [List.map_append]; exact hown'
              clear hown' hgrow OW5 bg BW5
              go_wp2
              go_roundg (l.length - (kk + 1))
              case measure => have := HKL.out; omega
              case rel => exact ⟨kk + 1, acc ++ [t], q5, c5, by have := HKL.out; omega, by omega, by go_num, rfl, (show Aside _ from ow6), BW6, HG2⟩
          · have hhb : (h != 0) = true := by simpa using hh
            obtain ⟨hof, ht0⟩ := of_bad HCK.out HKL.out HG.out.2.2.2 HG.out.1 HTY.out hh
            have cZ := fun W (hb : Below w.heap.size w W) => of_any (.node op ⟨#[]⟩ 0 0 ⟨#[]⟩ 7 l : Ex) lo (.agg #[.string op, .string ⟨#[]⟩, .int .i64 0, .int .i64 0, .string ⟨#[]⟩, .slice (some ⟨ba, oa, none⟩) l.length ca, .int .i64 7]) vl zs W (HEN.out.on hb) (HXE.out W hb) HSZ.out (HCV.out.on hb) 0 h pp hof
            clear HG HTY hh hof
            go_wp2_with fail
            refine cY.mono ?_
            rintro e w5 ⟨rfl, b7⟩
            obtain ⟨eB, hle5, bw5⟩ := BOX.out w5 (BW.out.trans (b7.mono hz4))
            have g0 : w5.cell? ⟨w2.heap.size + 1, 0, none⟩ = some (.string op) := eB 0
            have g1 : w5.cell? ⟨w2.heap.size + 1, 1, none⟩ = some (.string ⟨#[]⟩) := eB 1
            have g2 : w5.cell? ⟨w2.heap.size + 1, 2, none⟩ = some (.int .i64 0) := eB 2
            have g3 : w5.cell? ⟨w2.heap.size + 1, 3, none⟩ = some (.int .i64 0) := eB 3
            have g4 : w5.cell? ⟨w2.heap.size + 1, 4, none⟩ = some (.string ⟨#[]⟩) := eB 4
            have g5 : w5.cell? ⟨w2.heap.size + 1, 5, none⟩ = some (.slice (some ⟨ba, oa, none⟩) l.length ca) := eB 5
            have g6 : w5.cell? ⟨w2.heap.size + 1, 6, none⟩ = some (.int .i64 7) := eB 6
            clear eB cY e0 e1 e2 e3 e4 e5 e6
            go_wp2_with fail
            refine (cZ _ (bw5.alloc bw5.size _)).mono ?_
            rintro e w6 ⟨rfl, b8⟩
            have d0 : w6.cell? ⟨w5.heap.size, 0, none⟩ = some (.int .i64 h) := by rw [b8.cell (p := ⟨w5.heap.size, 0, none⟩) (by simp), World.cell?_alloc_at _ _ _ _ rfl]; rfl
            have d1 : w6.cell? ⟨w5.heap.size, 1, none⟩ = some (.int .i64 pp) := by rw [b8.cell (p := ⟨w5.heap.size, 1, none⟩) (by simp), World.cell?_alloc_at _ _ _ _ rfl]; rfl
            have hl6 : w5.heap.size < w6.heap.size := by have := b8.size; simp at this; omega
            have b9 : Below w.heap.size w w6 := (bw5.alloc bw5.size _).trans (b8.mono (by simp; have := bw5.size; omega))
            clear cZ b8
            go_wp2
            go_ret
            exact ⟨rfl, b9.alloc b9.size _⟩
        · have hltz : ¬ (kk : Int) < (l.length : Int) := by omega
          have hts : tysP zs l = (acc, 0, 0) := by rw [← HG.out.1, tyGo_end (by omega)]
          have hs0 : schE zs = 0 := by
            rcases HG.out.2.2.2 with h | h
            · have := HL0.out; omega
            · exact h
          obtain ⟨RT, RE, hrr⟩ : ∃ RT RE, ruleP op.data.toList acc = (RT, RE) := ⟨_, _, rfl⟩
          have cR := rule_any op q cp kk acc wr (HEN.out.on bwr).rules HG.out.2.1 (by omega) (ownInts HG.out.2.1 OW.out) RT RE hrr
          have hw := of_whole HCK.out HL0.out hs0 hts HG.out.2.2.1 (by have := HG.out.2.1; omega) hrr
          clear eB hE hts hs0 hrr HG OW
          rcases hw with ⟨rfl, hof⟩ | ⟨rfl, hof⟩
          · have cZ := fun W (hb : Below w.heap.size w W) => of_any (.node op ⟨#[]⟩ 0 0 ⟨#[]⟩ 7 l : Ex) lo (.agg #[.string op, .string ⟨#[]⟩, .int .i64 0, .int .i64 0, .string ⟨#[]⟩, .slice (some ⟨ba, oa, none⟩) l.length ca, .int .i64 7]) vl zs W (HEN.out.on hb) (HXE.out W hb) HSZ.out (HCV.out.on hb) RT 0 0 hof
            rw [show errV 0 = .nilIface from rfl] at cR
            clear hof
            go_wp2_with fail
            refine cR.mono ?_
            rintro e w5 ⟨rfl, b7⟩
            obtain ⟨eB, hle5, bw5⟩ := BOX.out w5 (BW.out.trans (b7.mono hz4))
            have g0 : w5.cell? ⟨w2.heap.size + 1, 0, none⟩ = some (.string op) := eB 0
            have g1 : w5.cell? ⟨w2.heap.size + 1, 1, none⟩ = some (.string ⟨#[]⟩) := eB 1
            have g2 : w5.cell? ⟨w2.heap.size + 1, 2, none⟩ = some (.int .i64 0) := eB 2
            have g3 : w5.cell? ⟨w2.heap.size + 1, 3, none⟩ = some (.int .i64 0) := eB 3
            have g4 : w5.cell? ⟨w2.heap.size + 1, 4, none⟩ = some (.string ⟨#[]⟩) := eB 4
            have g5 : w5.cell? ⟨w2.heap.size + 1, 5, none⟩ = some (.slice (some ⟨ba, oa, none⟩) l.length ca) := eB 5
            have g6 : w5.cell? ⟨w2.heap.size + 1, 6, none⟩ = some (.int .i64 7) := eB 6
            clear eB cR
            go_wp2_with fail
            refine (cZ _ bw5).mono ?_
            rintro e w6 ⟨rfl, b8⟩
            have b9 : Below w.heap.size w w6 := bw5.trans (b8.mono bw5.size)
            clear cZ b8
            go_wp2
            go_ret
            exact ⟨rfl, b9.alloc b9.size _⟩
          · have cZ := fun W (hb : Below w.heap.size w W) => of_any (.node op ⟨#[]⟩ 0 0 ⟨#[]⟩ 7 l : Ex) lo (.agg #[.string op, .string ⟨#[]⟩, .int .i64 0, .int .i64 0, .string ⟨#[]⟩, .slice (some ⟨ba, oa, none⟩) l.length ca, .int .i64 7]) vl zs W (HEN.out.on hb) (HXE.out W hb) HSZ.out (HCV.out.on hb) 0 8 7 hof
            rw [show errV 8 = .iface 41 (.int .i64 8) from rfl] at cR
            clear hof
            go_wp2_with fail
            refine cR.mono ?_
            rintro e w5 ⟨rfl, b7⟩
            obtain ⟨eB, hle5, bw5⟩ := BOX.out w5 (BW.out.trans (b7.mono hz4))
            have g0 : w5.cell? ⟨w2.heap.size + 1, 0, none⟩ = some (.string op) := eB 0
            have g1 : w5.cell? ⟨w2.heap.size + 1, 1, none⟩ = some (.string ⟨#[]⟩) := eB 1
            have g2 : w5.cell? ⟨w2.heap.size + 1, 2, none⟩ = some (.int .i64 0) := eB 2
            have g3 : w5.cell? ⟨w2.heap.size + 1, 3, none⟩ = some (.int .i64 0) := eB 3
            have g4 : w5.cell? ⟨w2.heap.size + 1, 4, none⟩ = some (.string ⟨#[]⟩) := eB 4
            have g5 : w5.cell? ⟨w2.heap.size + 1, 5, none⟩ = some (.slice (some ⟨ba, oa, none⟩) l.length ca) := eB 5
            have g6 : w5.cell? ⟨w2.heap.size + 1, 6, none⟩ = some (.int .i64 7) := eB 6
            clear eB cR
            go_wp2_with fail
            refine (cZ _ bw5).mono ?_
            rintro e w6 ⟨rfl, b8⟩
            have b9 : Below w.heap.size w w6 := bw5.trans (b8.mono bw5.size)
            clear cZ b8
            go_wp2
            go_ret
            exact ⟨rfl, b9.alloc b9.size _⟩
  · have hU : errV (ckP (.node op ⟨#[]⟩ 0 0 ⟨#[]⟩ 7 l : Ex)) = .iface 41 (.int .i64 (ckP (.node op ⟨#[]⟩ 0 0 ⟨#[]⟩ 7 l : Ex))) := if_neg hck
    rw [hU] at cK
    generalize ckP (.node op ⟨#[]⟩ 0 0 ⟨#[]⟩ 7 l : Ex) = SC at *
    clear hck box hU HXE HSZ HPA HCV HEN
    go_wp2_with fail
    refine cK.mono ?_
    rintro e w4 ⟨rfl, b5⟩
    go_wp2
    go_ret
    exact ⟨rfl, b4.trans (b5.mono b4.size)⟩
end Go.Proofs.YtkoejkpjkcejcaaDoor
