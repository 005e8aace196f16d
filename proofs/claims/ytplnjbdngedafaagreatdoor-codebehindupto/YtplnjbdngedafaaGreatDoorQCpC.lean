/-
  An expression that is right is compiled (package code): its instructions, in a block of their own.
-/
import Derived.Test.YtplnjbdngedafaaGreatDoorGrAn
import Derived.Test.YtplnjbdngedafaaGreatDoorGrAp
namespace Go.Proofs.YtplnjbdngedafaaGreatDoor
open Go.RowKit
set_option linter.unusedVariables false

theorem idx_hit {op : List UInt8} {k : Nat} (hk : k < kdRules.length) (h : kdRules[k].1 = op) (hb : ∀ j (hj : j < kdRules.length), j < k → kdRules[j].1 ≠ op) : idxP op = (k : Int) := by
  have : kdRules.findIdx? (fun r => r.1 == op) = some k := by
    rw [List.findIdx?_eq_some_iff_getElem]
    exact ⟨hk, by simpa using h, fun j hj => by simpa using hb j (by omega) hj⟩
  rw [idxP, this]
theorem opsS_at {k : Nat} (hk : k < opsS.length) (hk2 : k < kdRules.length) : opsS[k]'hk = ⟨(kdRules[k]'hk2).1.toArray⟩ := by
  simp [opsS]
set_option maxHeartbeats 1000000 in
theorem index_ops (x : ByteArray) (q : Option Addr) (c : Nat) (w : World) (hs : StrsAt w q opsS) (hin : ∃ r ∈ kdRules, r.1 = x.data.toList) :
    Calls Tryz.prog 37 #[.slice q 17 c, .string x] w fun e w' => e = .returned (.int .i64 (idxP x.data.toList)) ∧ w' = w := by
  obtain ⟨b, off, rfl, hbl, hc⟩ := hs
  have hl17 : opsS.length = 17 := rfl
  have hk17 : kdRules.length = 17 := rfl
  obtain ⟨IX, hIX⟩ : ∃ IX, idxP x.data.toList = IX := ⟨_, rfl⟩
  have HIX : Hid (idxP x.data.toList = IX) := hIX
  have HIN : Hid (∃ r ∈ kdRules, r.1 = x.data.toList) := hin
  have HC : Aside (∀ j (h : j < opsS.length), w.cell? ⟨b, off + j, none⟩ = some (.string opsS[j])) := hc
  rw [hIX]
  clear hIX hin hc
  go_enter Tryz.func37, Tryz.ntmps37
  go_wp2
  go_loopg [5, 8] 17 (fun gg _ s8 wr => ∃ kk : Nat, kk ≤ 17 ∧ 17 - kk ≤ gg ∧ s8 = .int .i64 kk ∧ wr = w ∧ Aside (∀ j (hj : j < kdRules.length), j < kk → kdRules[j].1 ≠ x.data.toList))
  case atStart => exact ⟨0, Nat.zero_le _, by omega, rfl, rfl, (show Aside _ from fun j _ hj => absurd hj (Nat.not_lt_zero _))⟩
  case round =>
    obtain ⟨kk, hkk, hg, rfl, hwq, A⟩ := hrel
    obtain rfl : w = _ := hwq.symm
    by_cases hlt : kk < 17
    · have hltz : (kk : Int) < 17 := by omega
      have hkr : kk < kdRules.length := by rw [hk17]; exact hlt
      have hkl : kk < opsS.length := by rw [hl17]; exact hlt
      obtain ⟨y, hy⟩ : ∃ y, (kdRules[kk]'hkr).1 = y := ⟨_, rfl⟩
      have hcell : w.cell? ⟨b, off + kk, none⟩ = some (.string ⟨y.toArray⟩) := (HC.out kk hkl).trans (by rw [opsS_at hkl hkr, hy])
      have HY2 : Hid ((kdRules[kk]'hkr).1 = y) := hy
      clear hy
      by_cases he : x.data.toList = y
      · have hfin : IX = (kk : Int) := by
          rw [← HIX.out, he]
          exact idx_hit hkr HY2.out (fun j hj hjk => by rw [← he]; exact A.out j hj hjk)
        obtain rfl : x = ⟨y.toArray⟩ := eq_of_list he
        subst hfin
        go_wp2
        go_ret
        exact ⟨rfl, rfl⟩
      · have hq : (x.toList == y) = false := by rw [Lib.toList_data]; simpa using he
        go_wp2
        go_roundg (17 - (kk + 1))
        case measure => omega
        case rel =>
          refine ⟨kk + 1, by omega, by omega, by go_num, rfl, (show Aside _ from fun j hj hjk => ?_)⟩
          by_cases e : j = kk
          · subst e
            rw [HY2.out]; exact fun e => he e.symm
          · exact A.out j hj (by omega)
    · exfalso
      obtain ⟨r, hr, hrx⟩ := HIN.out
      obtain ⟨j, hj, rfl⟩ := List.getElem_of_mem hr
      exact A.out j hj (by omega) hrx
theorem size_mem {op nm vs : ByteArray} {vt vn pos : Int} {y : Ex} : ∀ {l : List Ex}, y ∈ l → y.size ≤ (Ex.node op nm vt vn vs pos l).size := by
  intro l hy
  rw [Ex.size]
  have : ∀ (l : List Ex), y ∈ l → y.size ≤ Ex.sizes l := by
    intro l
    induction l with
    | nil => intro h; simp at h
    | cons a l ih =>
      intro h
      rw [Ex.sizes]
      rcases List.mem_cons.1 h with rfl | h
      · omega
      · have := ih h
        omega
  have := this l hy
  omega
theorem news_ins {w : World} {T : TypeId} {g : Nat} (hg : w.heap.size = g) (cs : List Value) : ∀ j u, cs[j]? = some u → (w.alloc (.cells cs.toArray T)).cell? ((⟨g, 0, none⟩ : Addr).add j) = some u := by
  intro j u hu
  rw [Go.WideShapes.add_plain, World.cell?_alloc_at _ _ _ _ (by simp [hg])]
  simpa using hu
theorem own_base {W : World} {B B' : Nat} {e : TypeId} {size n : Nat} {v : Value} {xs : List Value} (h : W.ownsRow B e size v n xs) (hB : B' ≤ B) : W.ownsRow B' e size v n xs := by
  refine ⟨h.1, ?_⟩
  rcases h.2 with hn | ⟨g, cap, cur, e1, hb, rest⟩
  · exact .inl hn
  · exact .inr ⟨g, cap, cur, e1, by omega, rest⟩
theorem info_insS : (Tryz.prog.info? 31).map (fun i => (i.zero, i.size, i.bytes)) = some (some (.slice none 0 0), 1, 24) := by kernel_rfl
set_option maxHeartbeats 8000000 in
set_option maxRecDepth 20000 in
theorem compile_any (zs : List (ByteArray × Int)) (b off c : Nat) (hn : zs.length ≤ 6) : ∀ (x : Ex) (d : Nat) (lo : Nat → Prop) (v : Value) (w : World), (∀ q ∈ x.pre d, nodeE q.1 = 0) → (tyP zs x).2.1 = 0 → KEnv w → ExIn w lo v x → ColsIn w b off zs → x.size ≤ 200 →
    Calls Tryz.prog 15 #[v, .slice (some ⟨b, off, none⟩) zs.length c] w fun e w' => (∃ u, e = .returned u ∧ Aside (InsV w' u (cpP zs x))) ∧ Below w.heap.size w w' := by
  refine Ex.ind fun op nm vt vn vs pos l ih d lo v w hpre ht henv hx hc hlen => ?_
  obtain ⟨i0, hi, hz0, hz1, hzz⟩ := info_parts info_insS
  have hxx := hx
  rw [ExIn] at hx
  obtain ⟨p, ca, rfl, ⟨hm, hmc⟩, ho, hnm, hvs, hparts⟩ := hx
  have hself : ((.node op nm vt vn vs pos l : Ex), d) ∈ (Ex.node op nm vt vn vs pos l).pre d := by rw [Ex.pre]; exact List.mem_cons_self ..
  have b1 := alB w (.cells #[.string op, .string nm, .int .i64 vt, .int .i64 vn, .string vs, .slice p l.length ca, .int .i64 pos] 26)
  by_cases h1 : op.data.toList = [118, 97, 108]
  · rw [cpP, if_pos h1]
    have hck : chk vt vn vs.data.toList = 0 := by
      have hn := (node_ok (hpre _ hself)).2.2 (by simp [Ex.op, Lib.toList_data, h1])
      simp only [Ex.vt, Ex.vn, Ex.vs] at hn
      unfold ckV at hn
      by_cases hc : chk vt vn vs.data.toList = 0
      · exact hc
      · rw [if_pos hc] at hn
        exact absurd hn hc
    have hs40 : vs.size ≤ 40 := by have := chk_size hck; simpa using this
    have cP := push_any vt vn vs (w.alloc (.cells #[.string op, .string nm, .int .i64 vt, .int .i64 vn, .string vs, .slice p l.length ca, .int .i64 pos] 26)) hs40
    have q1 : (op.toList == [118, 97, 108]) = true := by rw [Lib.toList_data]; simpa using h1
    have hLit : ∀ W : World, Aside (InsV (W.alloc (.cells #[.int .i64 1, .int .i64 0, .int .i64 vt, .int .i64 vn, .string vs] 53)) (.slice (some ⟨W.heap.size, 0, none⟩) 1 1) [pushI (vt, vn, vs)]) := fun W => insV_lit W _ rfl (pushI (vt, vn, vs))
    clear h1 hpre ih henv hc hxx hparts ht hck hs40 hself
    go_enter Tryz.func15, Tryz.ntmps15
    go_wp2_with fail
    refine cP.mono ?_
    rintro e w1 ⟨rfl, b2⟩
    have B2 := b1.trans (b2.mono b1.size)
    have B3 := B2.alloc B2.size (.cells #[.int .i64 1, .int .i64 0, .int .i64 vt, .int .i64 vn, .string vs] 53)
    have I3 := hLit w1
    clear cP b2 hLit
    go_wp2
    go_ret
    exact ⟨⟨_, rfl, I3⟩, B3⟩
  have q1 : (op.toList == [118, 97, 108]) = false := by rw [Lib.toList_data]; simpa using h1
  by_cases h2 : op.data.toList = [99, 111, 108]
  · rw [cpP, if_neg h1, if_pos h2]
    rw [tyP, if_neg h1, if_pos h2] at ht
    have q2 : (op.toList == [99, 111, 108]) = true := by rw [Lib.toList_data]; simpa using h2
    obtain ⟨k, hk⟩ : ∃ k : Nat, findN nm.data.toList zs = k := by
      rcases findN_cases nm.data.toList zs with ⟨h, _⟩ | ⟨k, hk, hlt, _⟩
      · rw [if_pos h] at ht
        exact absurd ht (by simp)
      · exact ⟨k, hk⟩
    have cF := find_any nm b off c zs (w.alloc (.cells #[.string op, .string nm, .int .i64 vt, .int .i64 vn, .string vs, .slice p l.length ca, .int .i64 pos] 26)) (by omega) (hc.on b1) k hk
    rw [hk]
    have hLit : ∀ W : World, Aside (InsV (W.alloc (.cells #[.int .i64 2, .int .i64 (k : Int), .int .i64 0, .int .i64 0, .string ⟨#[]⟩] 53)) (.slice (some ⟨W.heap.size, 0, none⟩) 1 1) [loadI (k : Int)]) := fun W => insV_lit W _ rfl (loadI (k : Int))
    clear h1 h2 hpre ih henv hc hxx hparts ht hk hself
    go_enter Tryz.func15, Tryz.ntmps15
    go_wp2_with fail
    refine cF.mono ?_
    rintro e w1 ⟨rfl, b2⟩
    have B2 := b1.trans (b2.mono b1.size)
    have B3 := B2.alloc B2.size (.cells #[.int .i64 2, .int .i64 (k : Int), .int .i64 0, .int .i64 0, .string ⟨#[]⟩] 53)
    have I3 := hLit w1
    clear cF b2 hLit
    go_wp2
    go_ret
    exact ⟨⟨_, rfl, I3⟩, B3⟩
  have q2 : (op.toList == [99, 111, 108]) = false := by rw [Lib.toList_data]; simpa using h2
  have hcl := cp_len (zs := zs) _ ht
  rw [cpP_op h1 h2] at hcl ⊢
  rw [tyP_op h1 h2] at ht
  have ht0 : (tysP zs l).2.1 = 0 := by
    apply Classical.byContradiction
    intro hh
    rw [if_pos hh] at ht
    exact hh ht
  rw [if_neg (fun hh => hh ht0)] at ht
  obtain ⟨hmm, hall⟩ := tysP_ok ht0
  have hr0 : (ruleP op.data.toList (tysP zs l).1).2 = 0 := by
    apply Classical.byContradiction
    intro hh
    rw [if_pos hh] at ht
    exact hh ht
  rw [hmm] at hr0
  have hrule : ruleP op.data.toList (l.map fun y => (tyP zs y).1) = ((ruleP op.data.toList (l.map fun y => (tyP zs y).1)).1, 0) := Prod.ext rfl hr0
  obtain ⟨r, hf, hrl, -, -⟩ := ruleP_in hrule
  rw [List.length_map] at hrl
  obtain ⟨hrm, hre⟩ := kdFind_mem hf
  have hl3 : l.length ≤ 3 ∧ 1 ≤ l.length := by have := kdCnt_ok r hrm; omega
  have hsub : ∀ y ∈ l, ∀ q ∈ y.pre (d + 1), q ∈ (Ex.node op nm vt vn vs pos l).pre d := fun y hy q hq => by
    rw [Ex.pre]; exact List.mem_cons_of_mem _ (pres_mem hy q hq)
  have HI : Aside (∀ y ∈ l, ∀ (lo : Nat → Prop) (v : Value) (w : World), KEnv w → ExIn w lo v y → ColsIn w b off zs → Calls Tryz.prog 15 #[v, .slice (some ⟨b, off, none⟩) zs.length c] w fun e w' => (∃ u, e = .returned u ∧ Aside (InsV w' u (cpP zs y))) ∧ Below w.heap.size w w') := fun y hy lo v w he hx hc => ih y hy (d + 1) lo v w (fun q hq => hpre q (hsub y hy q hq)) (hall y hy) he hx hc (by
    have := size_mem hy (op := op) (nm := nm) (vt := vt) (vn := vn) (vs := vs) (pos := pos)
    omega)
  have HPA : Aside (l.length = 0 ∨ ∃ b off, p = some ⟨b, off, none⟩ ∧ b < w.heap.size ∧ lo b ∧ ExsIn w lo b off l) := hparts
  have HEN : Aside (KEnv w) := henv
  have HCO : Aside (ColsIn w b off zs) := hc
  have HCL : Hid ((combC op.data.toList (l.map (cpP zs))).length ≤ 1000) := by show _ ≤ _; omega
  have HRU : Hid (∃ T, ruleP op.data.toList (l.map fun y => (tyP zs y).1) = (T, 0)) := ⟨_, hrule⟩
  have HIN : Hid (∃ r ∈ kdRules, r.1 = op.data.toList) := ⟨r, hrm, hre⟩
  obtain ⟨CC, hCC⟩ : ∃ CC, combC op.data.toList (l.map (cpP zs)) = CC := ⟨_, rfl⟩
  have HCC : Hid (combC op.data.toList (l.map (cpP zs)) = CC) := hCC
  rw [hCC]
  have E0 : Hid (∀ W, Below (w.heap.size + 1) (w.alloc (.cells #[.string op, .string nm, .int .i64 vt, .int .i64 vn, .string vs, .slice p l.length ca, .int .i64 pos] 26)) W → W.cell? ⟨w.heap.size, 0, none⟩ = some (.string op) ∧ w.heap.size < W.heap.size ∧ Below w.heap.size w W) := fun W hb => by
    obtain ⟨h1, _, h3⟩ := box_at w _ _ hb (Nat.lt_succ_self _)
    exact ⟨h1 0, h3, b1.trans (hb.mono (Nat.le_succ _))⟩
  have hlz : (l.length : Int) ≤ 3 := by omega
  clear h1 h2 hpre ht ht0 hmm hall hr0 hrule hrl hsub ih henv hc hxx hparts hcl hrm hre hf hCC hself
  go_enter Tryz.func15, Tryz.ntmps15
  go_wp2
  go_loopg [7, 9, 33] l.length (fun gg s7 _ s33 wr => ∃ (kk : Nat) (q : Option Addr) (cp : Nat) (us : List Value), kk ≤ l.length ∧ l.length - kk ≤ gg ∧ s33 = .int .i64 kk ∧ s7 = .slice q kk cp ∧ Hid (us.length = kk) ∧ Aside (wr.ownsRow (w.heap.size + 1) 31 1 (.slice q kk cp) kk us) ∧ Aside (∀ j (hj : j < us.length) (hl : j < l.length), InsV wr us[j] (cpP zs l[j])) ∧ Aside (Below (w.heap.size + 1) (w.alloc (.cells #[.string op, .string nm, .int .i64 vt, .int .i64 vn, .string vs, .slice p l.length ca, .int .i64 pos] 26)) wr))
  case atStart => exact ⟨0, none, 0, [], Nat.zero_le _, by omega, rfl, rfl, (show Hid _ from rfl), (show Aside _ from ⟨rfl, .inl ⟨rfl, rfl⟩⟩), (show Aside _ from fun j hj _ => absurd hj (by simp)), (show Aside _ from Below.refl _ _)⟩
  case round =>
    obtain ⟨kk, q, cp, us, hkk, hg, rfl, rfl, HU, OW, IU, BW⟩ := hrel
    obtain ⟨k0, hl0, bwr⟩ := E0.out wr BW.out
    by_cases hlt : kk < l.length
    · have hltz : (kk : Int) < (l.length : Int) := by omega
      have h0z : (0 : Int) ≤ (kk : Int) := by omega
      rcases HPA.out with h | ⟨ba, oa, rfl, hbl, hlo, hE⟩
      · exact absurd h (by omega)
      obtain ⟨v0, v1, v2, v3, v4, v5, v6, e0, e1, e2, e3, e4, e5, e6, hy⟩ := exsIn_at w lo ba l oa hE kk hlt
      obtain ⟨u0, u1, u2, u3, u4, u5, u6, u7, u8, huu⟩ := hy.agg
      injection huu with huu
      simp only [Array.mk.injEq, List.cons.injEq, and_true] at huu
      obtain ⟨rfl, rfl, rfl, rfl, rfl, rfl, rfl⟩ := huu
      have kA : ∀ o, wr.cell? ⟨ba, o, none⟩ = w.cell? ⟨ba, o, none⟩ := fun o => bwr.cell (p := ⟨ba, o, none⟩) hbl
      rw [← kA] at e0 e1 e2 e3 e4 e5 e6
      have hblr : ba < wr.heap.size := by have := bwr.size; omega
      have b3 : Below w.heap.size w (wr.alloc (.cells #[.string u0, .string u1, .int .i64 u2, .int .i64 u3, .string u4, .slice u5 u6 u7, .int .i64 u8] 26)) := bwr.alloc bwr.size _
      have cY := HI.out _ (List.getElem_mem hlt) lo _ (wr.alloc (.cells #[.string u0, .string u1, .int .i64 u2, .int .i64 u3, .string u4, .slice u5 u6 u7, .int .i64 u8] 26)) (HEN.out.on b3) (hy.on b3) (HCO.out.on b3)
      have HKL : Hid (kk < l.length) := hlt
      clear hE kA hy
      go_wp2_with fail
      refine cY.mono ?_
      rintro e w4 ⟨⟨uv, rfl, I4v⟩, b4⟩
      obtain ⟨ub, uo, uc, huv, _⟩ := id I4v.out
      obtain ⟨UL, hUL⟩ : ∃ UL, (cpP zs (l[kk]'hlt)).length = UL := ⟨_, rfl⟩
      rw [hUL] at huv
      subst huv
      have I4 : Aside (InsV w4 (.slice (some ⟨ub, uo, none⟩) UL uc) (cpP zs (l[kk]'hlt))) := I4v.out
      clear I4v hUL
      have hz4 : wr.heap.size + 1 ≤ w4.heap.size := by have := b4.size; simpa using this
      have b5 : Below wr.heap.size wr w4 := (alB wr _).trans (b4.mono (by simp))
      have OW4 := lown_below OW.out b5
      have BW4 : Aside (Below (w.heap.size + 1) (w.alloc (.cells #[.string op, .string nm, .int .i64 vt, .int .i64 vn, .string vs, .slice (some ⟨ba, oa, none⟩) l.length ca, .int .i64 pos] 26)) w4) := BW.out.trans (b5.mono (by omega))
      have HUO : Hid (∀ u ∈ [Value.slice (some ⟨ub, uo, none⟩) UL uc], u.oneCell' = true) := fun u hu => by
        rw [List.mem_singleton.1 hu]; rfl
      have IU4 : Aside (∀ j (hj : j < us.length) (hl : j < l.length), InsV w4 us[j] (cpP zs l[j])) := fun j hj hl => (IU.out j hj hl).on b5
      clear cY b4 b3 e0 e1 e2 e3 e4 e5 e6 OW IU BW b5
      go_wp2_with (at_builtin; refine wpList_append_own _ rfl _ _ 78 rfl (w.heap.size + 1) 31 i0 (.slice none 0 0) 1 24 Tryz.underlying78 hi hz0 hz1 hzz rfl (by decide) _ _ _ rfl (OW4.alloc _) ⟨w4.heap.size, 0, none⟩ 1 1 [.slice (some ⟨ub, uo, none⟩) UL uc] rfl rfl (news_ins (by simp) _) HUO.out (by simp [maxLen]; omega) (by omega) (by simp; omega) ?_)
      intro v' w5 hown' hgrow _
      obtain ⟨q5, c5, rfl⟩ := lown_slice hown'
      have OA := OW4.alloc (.cells #[.slice (some ⟨ub, uo, none⟩) UL uc] 31)
      have bg : Below (w.heap.size + 1) w4 w5 := ((Below.refl _ _).alloc (by omega) (.cells #[.slice (some ⟨ub, uo, none⟩) UL uc] 31)).grown hgrow (by simp; omega) (fun j hj => (OA.lt j hj).1)
      have BW6 : Aside (Below (w.heap.size + 1) (w.alloc (.cells #[.string op, .string nm, .int .i64 vt, .int .i64 vn, .string vs, .slice (some ⟨ba, oa, none⟩) l.length ca, .int .i64 pos] 26)) w5) := BW4.out.trans bg
      have OW6 : Aside (w5.ownsRow (w.heap.size + 1) 31 1 (.slice q5 (kk + 1) c5) (kk + 1) (us ++ [Value.slice (some ⟨ub, uo, none⟩) UL uc])) := hown'
      have HU6 : Hid ((us ++ [Value.slice (some ⟨ub, uo, none⟩) UL uc]).length = kk + 1) := by show _ = _; rw [List.length_append, HU.out]; rfl
      have IU6 : Aside (∀ j (hj : j < (us ++ [Value.slice (some ⟨ub, uo, none⟩) UL uc]).length) (hl : j < l.length), InsV w5 (us ++ [Value.slice (some ⟨ub, uo, none⟩) UL uc])[j] (cpP zs l[j])) := fun j hj hl => by
        have hst : ∀ (v : Value) (is : List I5), InsV w4 v is → InsV w5 v is := fun v is h => (h.on (alB w4 (.cells #[.slice (some ⟨ub, uo, none⟩) UL uc] 31))).grown OA (by decide) hgrow
        have hul := HU.out
        by_cases hjk : j < us.length
        · rw [List.getElem_append_left hjk]
          exact hst _ _ (IU4.out j hjk hl)
        · have hj2 : j < us.length + 1 := by simpa using hj
          have hjj : j = us.length := by omega
          subst hjj
          rw [List.getElem_append_right (Nat.le_refl _)]
          simp only [Nat.sub_self, List.getElem_cons_zero]
          have := hst _ _ I4.out
          simp only [hul]
          exact this
      clear hown' hgrow OA OW4 bg BW4 I4 IU4 HI HUO
      go_wp2
      go_roundg (l.length - (kk + 1))
      case measure => have := HKL.out; omega
      case rel => exact ⟨kk + 1, q5, c5, us ++ [Value.slice (some ⟨ub, uo, none⟩) UL uc], by have := HKL.out; omega, by omega, by go_num, rfl, HU6, OW6, IU6, BW6⟩
    · have hltz : ¬ (kk : Int) < (l.length : Int) := by omega
      have hkl : kk = l.length := by omega
      have hul : us.length = l.length := by rw [HU.out]; exact hkl
      obtain ⟨gP, rfl⟩ : ∃ gP, q = some ⟨gP, 0, none⟩ := by
        rcases OW.out.2 with ⟨e1, e2⟩ | ⟨g, _, _, e1, _⟩
        · omega
        · injection e1 with e1; exact ⟨g, e1⟩
      have hgP : gP < wr.heap.size := ((OW.out.lt gP rfl).2)
      have hcel : ∀ j (hj : j < us.length), wr.cell? ⟨gP, j, none⟩ = some (us[j]'hj) := fun j hj => by
        have := OW.out.cells (g := gP) rfl j (us[j]'hj) (List.getElem?_eq_getElem hj)
        rw [Go.WideShapes.add_plain] at this
        simpa using this
      have hIU := IU.out
      have HB : Aside (Below w.heap.size w wr) := bwr
      have HREN : Aside (KEnv wr) := HEN.out.on bwr
      subst hkl
      clear hltz OW IU HPA HI HCO HU hkk hg E0 BW
      by_cases h3 : op.data.toList = [111, 114]
      · obtain ⟨T, hT⟩ := HRU.out
        rw [h3] at hT
        obtain ⟨y, z, hlyz, -, -⟩ := rule_two hT (by simp)
        obtain ⟨ua, ub, hus⟩ : ∃ ua ub, us = [ua, ub] := by
          have h2 : us.length = 2 := by rw [hul, hlyz]; rfl
          match us, h2 with
          | [a, b], _ => exact ⟨a, b, rfl⟩
        subst hlyz
        subst hus
        have Iy : InsV wr ua (cpP zs y) := hIU 0 (by simp) (by simp)
        have Iz : InsV wr ub (cpP zs z) := hIU 1 (by simp) (by simp)
        have m0 : wr.cell? ⟨gP, 0, none⟩ = some ua := hcel 0 (by simp)
        have m1 : wr.cell? ⟨gP, 1, none⟩ = some ub := hcel 1 (by simp)
        obtain ⟨ab, ao, ac, rfl, hay⟩ := id Iy
        obtain ⟨bb, bo, bc, rfl, hbz⟩ := id Iz
        have hcc := HCC.out
        have hcl2 := HCL.out
        rw [hcc] at hcl2
        rw [h3, combC, if_pos rfl] at hcc
        simp only [List.map_cons, List.map_nil, List.getElem?_cons_zero, List.getElem?_cons_succ, Option.getD_some] at hcc
        have q3 : (op.toList == [111, 114]) = true := by rw [Lib.toList_data]; simpa using h3
        have cPu : Aside (∀ W, Below wr.heap.size wr W → Calls Tryz.prog 33 #[.agg #[.int .i64 2, .int .i64 1, .string ⟨#[]⟩]] W fun e w' => e = .returned (.agg #[.int .i64 1, .int .i64 0, .int .i64 2, .int .i64 1, .string ⟨#[]⟩]) ∧ (w'.cell? ⟨gP, 0, none⟩ = some (.slice (some ⟨ab, ao, none⟩) (cpP zs y).length ac) ∧ w'.cell? ⟨gP, 1, none⟩ = some (.slice (some ⟨bb, bo, none⟩) (cpP zs z).length bc) ∧ gP < w'.heap.size) ∧ Aside (Below wr.heap.size wr w')) := fun W hb => by
          refine (push_any 2 1 ⟨#[]⟩ W (by decide)).mono ?_
          rintro e w' ⟨rfl, b2⟩
          have hB : Below wr.heap.size wr w' := hb.trans (b2.mono hb.size)
          exact ⟨rfl, ⟨by rw [hB.cell (p := ⟨gP, 0, none⟩) hgP]; exact m0, by rw [hB.cell (p := ⟨gP, 1, none⟩) hgP]; exact m1, by have := hB.size; omega⟩, hB⟩
        have cCh : Aside (∀ W, Below wr.heap.size wr W → Calls Tryz.prog 35 #[.slice (some ⟨ab, ao, none⟩) (cpP zs y).length ac, .slice (some ⟨W.heap.size, 0, none⟩) 1 1, .slice (some ⟨bb, bo, none⟩) (cpP zs z).length bc] (W.alloc (.cells #[.int .i64 1, .int .i64 0, .int .i64 2, .int .i64 1, .string ⟨#[]⟩] 53)) fun e w' => (∃ v, e = .returned v ∧ Aside (InsV w' v CC)) ∧ Below w.heap.size w w') := fun W hb => by
          have hBL : Below wr.heap.size wr (W.alloc (.cells #[.int .i64 1, .int .i64 0, .int .i64 2, .int .i64 1, .string ⟨#[]⟩] 53)) := hb.alloc hb.size _
          have := choose_any _ _ _ (cpP zs y) [pushI (truP true)] (cpP zs z) _ (Iy.on hBL) (insV_lit W _ rfl (pushI (truP true))) (Iz.on hBL) (by rw [hcc]; omega)
          rw [hcc] at this
          refine this.mono ?_
          rintro e w' ⟨⟨v, rfl, h⟩, b2⟩
          have h0 : Below w.heap.size w (W.alloc (.cells #[.int .i64 1, .int .i64 0, .int .i64 2, .int .i64 1, .string ⟨#[]⟩] 53)) := HB.out.trans (hBL.mono HB.out.size)
          exact ⟨⟨v, rfl, h⟩, h0.trans (b2.mono h0.size)⟩
        obtain ⟨LY, hLY⟩ : ∃ LY, (cpP zs y).length = LY := ⟨_, rfl⟩
        obtain ⟨LZ, hLZ⟩ : ∃ LZ, (cpP zs z).length = LZ := ⟨_, rfl⟩
        rw [hLY] at m0 cPu cCh
        rw [hLZ] at m1 cPu cCh
        clear hcel hIU Iy Iz hcc hcl2 HCC HCL HRU HIN hul hT hay hbz hLY hLZ HREN HEN
        go_wp2_with fail
        go_region_with (first | (go_at_call 33; refine (cPu.out _ (Below.refl _ _).drew).mono ?_; rintro e' w2 ⟨rfl, ⟨n0, n1, nl⟩, B2⟩) | (go_at_call 35; refine (cCh.out w2 B2.out).mono ?_; rintro e' w3 ⟨⟨v3, rfl, I3⟩, b3⟩))
        all_goals
          clear cPu cCh
          go_wp2
          go_ret
          exact ⟨⟨v3, rfl, I3⟩, b3⟩
      by_cases h4 : op.data.toList = [97, 110, 100]
      · obtain ⟨T, hT⟩ := HRU.out
        rw [h4] at hT
        obtain ⟨y, z, hlyz, -, -⟩ := rule_two hT (by simp)
        obtain ⟨ua, ub, hus⟩ : ∃ ua ub, us = [ua, ub] := by
          have h2 : us.length = 2 := by rw [hul, hlyz]; rfl
          match us, h2 with
          | [a, b], _ => exact ⟨a, b, rfl⟩
        subst hlyz
        subst hus
        have Iy : InsV wr ua (cpP zs y) := hIU 0 (by simp) (by simp)
        have Iz : InsV wr ub (cpP zs z) := hIU 1 (by simp) (by simp)
        have m0 : wr.cell? ⟨gP, 0, none⟩ = some ua := hcel 0 (by simp)
        have m1 : wr.cell? ⟨gP, 1, none⟩ = some ub := hcel 1 (by simp)
        obtain ⟨ab, ao, ac, rfl, hay⟩ := id Iy
        obtain ⟨bb, bo, bc, rfl, hbz⟩ := id Iz
        have hcc := HCC.out
        have hcl2 := HCL.out
        rw [hcc] at hcl2
        rw [h4, combC, if_neg (by decide), if_pos rfl] at hcc
        simp only [List.map_cons, List.map_nil, List.getElem?_cons_zero, List.getElem?_cons_succ, Option.getD_some] at hcc
        have q3 : (op.toList == [111, 114]) = false := by rw [Lib.toList_data]; simpa using h3
        have q4 : (op.toList == [97, 110, 100]) = true := by rw [Lib.toList_data]; simpa using h4
        have cPu : Aside (∀ W, Below wr.heap.size wr W → Calls Tryz.prog 33 #[.agg #[.int .i64 2, .int .i64 0, .string ⟨#[]⟩]] W fun e w' => e = .returned (.agg #[.int .i64 1, .int .i64 0, .int .i64 2, .int .i64 0, .string ⟨#[]⟩]) ∧ (w'.cell? ⟨gP, 0, none⟩ = some (.slice (some ⟨ab, ao, none⟩) (cpP zs y).length ac) ∧ w'.cell? ⟨gP, 1, none⟩ = some (.slice (some ⟨bb, bo, none⟩) (cpP zs z).length bc) ∧ gP < w'.heap.size) ∧ Aside (Below wr.heap.size wr w')) := fun W hb => by
          refine (push_any 2 0 ⟨#[]⟩ W (by decide)).mono ?_
          rintro e w' ⟨rfl, b2⟩
          have hB : Below wr.heap.size wr w' := hb.trans (b2.mono hb.size)
          exact ⟨rfl, ⟨by rw [hB.cell (p := ⟨gP, 0, none⟩) hgP]; exact m0, by rw [hB.cell (p := ⟨gP, 1, none⟩) hgP]; exact m1, by have := hB.size; omega⟩, hB⟩
        have cCh : Aside (∀ W, Below wr.heap.size wr W → Calls Tryz.prog 35 #[.slice (some ⟨ab, ao, none⟩) (cpP zs y).length ac, .slice (some ⟨bb, bo, none⟩) (cpP zs z).length bc, .slice (some ⟨W.heap.size, 0, none⟩) 1 1] (W.alloc (.cells #[.int .i64 1, .int .i64 0, .int .i64 2, .int .i64 0, .string ⟨#[]⟩] 53)) fun e w' => (∃ v, e = .returned v ∧ Aside (InsV w' v CC)) ∧ Below w.heap.size w w') := fun W hb => by
          have hBL : Below wr.heap.size wr (W.alloc (.cells #[.int .i64 1, .int .i64 0, .int .i64 2, .int .i64 0, .string ⟨#[]⟩] 53)) := hb.alloc hb.size _
          have := choose_any _ _ _ (cpP zs y) (cpP zs z) [pushI (truP false)] _ (Iy.on hBL) (Iz.on hBL) (insV_lit W _ rfl (pushI (truP false))) (by rw [hcc]; omega)
          rw [hcc] at this
          refine this.mono ?_
          rintro e w' ⟨⟨v, rfl, h⟩, b2⟩
          have h0 : Below w.heap.size w (W.alloc (.cells #[.int .i64 1, .int .i64 0, .int .i64 2, .int .i64 0, .string ⟨#[]⟩] 53)) := HB.out.trans (hBL.mono HB.out.size)
          exact ⟨⟨v, rfl, h⟩, h0.trans (b2.mono h0.size)⟩
        obtain ⟨LY, hLY⟩ : ∃ LY, (cpP zs y).length = LY := ⟨_, rfl⟩
        obtain ⟨LZ, hLZ⟩ : ∃ LZ, (cpP zs z).length = LZ := ⟨_, rfl⟩
        rw [hLY] at m0 cPu cCh
        rw [hLZ] at m1 cPu cCh
        clear hcel hIU Iy Iz hcc hcl2 HCC HCL HRU HIN hul hT hay hbz hLY hLZ HREN HEN
        go_wp2_with fail
        go_region_with (first | (go_at_call 33; refine (cPu.out _ (Below.refl _ _).drew).mono ?_; rintro e' w2 ⟨rfl, ⟨n0, n1, nl⟩, B2⟩) | (go_at_call 35; refine (cCh.out w2 B2.out).mono ?_; rintro e' w3 ⟨⟨v3, rfl, I3⟩, b3⟩))
        all_goals
          clear cPu cCh
          go_wp2
          go_ret
          exact ⟨⟨v3, rfl, I3⟩, b3⟩
      by_cases h5 : op.data.toList = [105, 102]
      · obtain ⟨T, hT⟩ := HRU.out
        rw [h5] at hT
        obtain ⟨y, z, x3, hlyz, -, -, -⟩ := rule_if hT
        obtain ⟨ua, ub, uc, hus⟩ : ∃ ua ub uc, us = [ua, ub, uc] := by
          have h2 : us.length = 3 := by rw [hul, hlyz]; rfl
          match us, h2 with
          | [a, b, c], _ => exact ⟨a, b, c, rfl⟩
        subst hlyz
        subst hus
        have Iy : InsV wr ua (cpP zs y) := hIU 0 (by simp) (by simp)
        have Iz : InsV wr ub (cpP zs z) := hIU 1 (by simp) (by simp)
        have Ix : InsV wr uc (cpP zs x3) := hIU 2 (by simp) (by simp)
        have m0 : wr.cell? ⟨gP, 0, none⟩ = some ua := hcel 0 (by simp)
        have m1 : wr.cell? ⟨gP, 1, none⟩ = some ub := hcel 1 (by simp)
        have m2 : wr.cell? ⟨gP, 2, none⟩ = some uc := hcel 2 (by simp)
        obtain ⟨ab, ao, ac, rfl, hay⟩ := id Iy
        obtain ⟨bb, bo, bc, rfl, hbz⟩ := id Iz
        obtain ⟨db, dO, dc, rfl, hdx⟩ := id Ix
        have hcc := HCC.out
        have hcl2 := HCL.out
        rw [hcc] at hcl2
        rw [h5, combC, if_neg (by decide), if_neg (by decide), if_pos rfl] at hcc
        simp only [List.map_cons, List.map_nil, List.getElem?_cons_zero, List.getElem?_cons_succ, Option.getD_some] at hcc
        have q3 : (op.toList == [111, 114]) = false := by rw [Lib.toList_data]; simpa using h3
        have q4 : (op.toList == [97, 110, 100]) = false := by rw [Lib.toList_data]; simpa using h4
        have q5 : (op.toList == [105, 102]) = true := by rw [Lib.toList_data]; simpa using h5
        have cCh : Aside (∀ W, Below wr.heap.size wr W → Calls Tryz.prog 35 #[.slice (some ⟨ab, ao, none⟩) (cpP zs y).length ac, .slice (some ⟨bb, bo, none⟩) (cpP zs z).length bc, .slice (some ⟨db, dO, none⟩) (cpP zs x3).length dc] W fun e w' => (∃ v, e = .returned v ∧ Aside (InsV w' v CC)) ∧ Below w.heap.size w w') := fun W hb => by
          have := choose_any _ _ _ (cpP zs y) (cpP zs z) (cpP zs x3) _ (Iy.on hb) (Iz.on hb) (Ix.on hb) (by rw [hcc]; omega)
          rw [hcc] at this
          refine this.mono ?_
          rintro e w' ⟨⟨v, rfl, h⟩, b2⟩
          have h0 : Below w.heap.size w W := HB.out.trans (hb.mono HB.out.size)
          exact ⟨⟨v, rfl, h⟩, h0.trans (b2.mono h0.size)⟩
        obtain ⟨LY, hLY⟩ : ∃ LY, (cpP zs y).length = LY := ⟨_, rfl⟩
        obtain ⟨LZ, hLZ⟩ : ∃ LZ, (cpP zs z).length = LZ := ⟨_, rfl⟩
        obtain ⟨LX, hLX⟩ : ∃ LX, (cpP zs x3).length = LX := ⟨_, rfl⟩
        rw [hLY] at m0 cCh
        rw [hLZ] at m1 cCh
        rw [hLX] at m2 cCh
        clear hcel hIU Iy Iz Ix hcc hcl2 HCC HCL HRU HIN hul hT hay hbz hdx hLY hLZ hLX HREN HEN
        go_wp2_with fail
        go_region_with (go_at_call 35; refine (cCh.out _ (Below.refl _ _).drew).mono ?_; rintro e' w3 ⟨⟨v3, rfl, I3⟩, b3⟩)
        all_goals
          clear cCh
          go_wp2
          go_ret
          exact ⟨⟨v3, rfl, I3⟩, b3⟩
      have q3 : (op.toList == [111, 114]) = false := by rw [Lib.toList_data]; simpa using h3
      have q4 : (op.toList == [97, 110, 100]) = false := by rw [Lib.toList_data]; simpa using h4
      have q5 : (op.toList == [105, 102]) = false := by rw [Lib.toList_data]; simpa using h5
      have hcc := HCC.out
      have hcl2 := HCL.out
      rw [combC, if_neg h3, if_neg h4, if_neg h5] at hcc
      rw [combC, if_neg h3, if_neg h4, if_neg h5, List.length_append, List.length_singleton] at hcl2
      obtain ⟨FL, hFL⟩ : ∃ FL, (l.map (cpP zs)).flatten = FL := ⟨_, rfl⟩
      obtain ⟨FN, hFN⟩ : ∃ FN, FL.length = FN := ⟨_, rfl⟩
      obtain ⟨IX, hIX⟩ : ∃ IX, idxP op.data.toList = IX := ⟨_, rfl⟩
      rw [hFL] at hcc hcl2
      rw [hIX] at hcc
      have PT : PartsAt wr gP 0 (l.map (cpP zs)) := ⟨hgP, fun j hj => by
        rw [List.length_map] at hj
        refine ⟨us[j]'(by omega), by rw [Nat.zero_add]; exact hcel j (by omega), ?_⟩
        rw [List.getElem_map]
        exact hIU j (by omega) hj⟩
      have hFN0 : FN ≠ 0 := by
        obtain ⟨v, _, b', off', c', _, hne, _⟩ := PT.2 0 (by rw [List.length_map]; omega)
        have : ((l.map (cpP zs))[0]'(by rw [List.length_map]; omega)).length ≤ (l.map (cpP zs)).flatten.length := by
          have h0 : 0 < (l.map (cpP zs)).length := by rw [List.length_map]; omega
          have := lenT_le (l.map (cpP zs)) (0 + 1)
          have h2 := lenT_succ (ps := l.map (cpP zs)) (k := 0) h0
          omega
        rw [hFL, hFN] at this
        omega
      have k0W : ∀ W, Below wr.heap.size wr W → W.cell? ⟨w.heap.size, 0, none⟩ = some (.string op) ∧ w.heap.size < W.heap.size := fun W hb => ⟨by rw [hb.cell (p := ⟨w.heap.size, 0, none⟩) hl0]; exact k0, by have := hb.size; omega⟩
      have cCo : Aside (∀ W, Below wr.heap.size wr W → Calls Tryz.prog 36 #[.slice (some ⟨gP, 0, none⟩) l.length cp] W fun e w' => (∃ qc cc, e = .returned (.slice qc FN cc) ∧ Aside (w'.ownsRow wr.heap.size 53 5 (.slice qc FN cc) FN (insC FL))) ∧ (w'.cell? ⟨w.heap.size, 0, none⟩ = some (.string op) ∧ w.heap.size < w'.heap.size) ∧ Aside (Below wr.heap.size wr w')) := fun W hb => by
        have := concatI_any gP 0 cp l.length (l.map (cpP zs)) W (by rw [List.length_map]) (PT.on hb) (by rw [hFL, hFN]; omega) (by rw [hFL, hFN]; exact hFN0) (by omega)
        rw [hFL, hFN] at this
        refine this.mono ?_
        rintro e w' ⟨⟨v, rfl, o1⟩, b2⟩
        have hB : Below wr.heap.size wr w' := hb.trans (b2.mono hb.size)
        obtain ⟨qc, cc, rfl⟩ := lown_slice o1.out
        exact ⟨⟨qc, cc, rfl, (show Aside _ from own_base o1.out hb.size)⟩, k0W w' hB, hB⟩
      have cOp : Aside (∀ W, Below wr.heap.size wr W → Calls Tryz.prog 38 #[] W fun e w' => (∃ qo co, e = .returned (.slice qo 17 co) ∧ Aside (StrsAt w' qo opsS)) ∧ (w'.cell? ⟨w.heap.size, 0, none⟩ = some (.string op) ∧ w.heap.size < w'.heap.size) ∧ Aside (Below W.heap.size W w') ∧ Aside (Below wr.heap.size wr w')) := fun W hb => by
        refine (kindOps_any W (HREN.out.on hb).rules).mono ?_
        rintro e w' ⟨⟨qo, co, rfl, hs⟩, b2⟩
        have hB : Below wr.heap.size wr w' := hb.trans (b2.mono hb.size)
        exact ⟨⟨qo, co, rfl, hs⟩, k0W w' hB, b2, hB⟩
      have cIx : Aside (∀ W qo co, StrsAt W qo opsS → Calls Tryz.prog 37 #[.slice qo 17 co, .string op] W fun e w' => e = .returned (.int .i64 IX) ∧ w' = W) := fun W qo co hs => by
        have := index_ops op qo co W hs HIN.out
        rw [hIX] at this
        exact this
      have HCC2 : Hid (FL ++ [doI IX] = CC) := hcc
      have HFN : Hid (FL.length = FN) := hFN
      have hFNz : FN ≤ 1000 := by omega
      obtain ⟨j0, hj0, hy0, hy1, hy2⟩ := info_parts info_ins
      clear PT hcel hIU hcc hcl2 hFL hFN hIX h3 h4 h5 k0W HREN HEN HCC HCL HRU HIN hul
      have HO5 : Hid (∀ u ∈ ([.int .i64 3, .int .i64 IX, .int .i64 0, .int .i64 0, .string ⟨#[]⟩] : List Value), u.oneCell' = true) := fun u hu => one5 [doI IX] u (by rw [insC, insC, List.append_nil]; exact hu)
      go_wp2_with fail
      go_region_law (first | (refine step_append_mine rfl (.tmp 83) (.tmp 89) 31 rfl wr.heap.size 53 j0 _ 5 48 Tryz.underlying31 hj0 hy0 hy1 hy2 (by decide) (by decide) (.slice qc FN cc) FN (insC FL) (by simp [Act.eval]) (OW3.out.alloc _) ⟨w3.heap.size, 0, none⟩ 1 1 [.int .i64 3, .int .i64 IX, .int .i64 0, .int .i64 0, .string ⟨#[]⟩] (by simp [Act.eval]) rfl (news_ins (by simp) _) (HO5.out) (by simp [maxLen]; omega) (by omega) (by simp; omega) ?_; intro q9 c9 w9 hown' hgrow) | (go_simp; go_wp2_with (first | (go_at_call 36; refine (cCo.out _ (Below.refl _ _).drew).mono ?_; rintro e' w1 ⟨⟨qc, cc, rfl, OW1⟩, ⟨m0, ml⟩, B1⟩) | (go_at_call 38; refine (cOp.out w1 B1.out).mono ?_; rintro e' w2 ⟨⟨qo, co, rfl, SO⟩, ⟨m0', ml'⟩, b2, B2⟩; have hs2 := B2.out.size; have OW3 : Aside (w2.ownsRow wr.heap.size 53 5 (.slice qc FN cc) FN (insC FL)) := lown_below OW1.out b2.out) | (go_at_call 37; refine (cIx.out w2 qo co SO.out).mono ?_; rintro e' w3 ⟨rfl, hw3⟩; subst hw3))))
      all_goals
        have hIV : Aside (InsV w9 (.slice q9 (FN + 1) c9) CC) := by
          show InsV _ _ _
          rw [← HCC2.out]
          refine own_insV (B := wr.heap.size) (n := FN + 1) ?_ (by rw [List.length_append, HFN.out]; rfl) (by omega)
          rw [insC_append]
          exact hown'
        have B9 : Below w.heap.size w w9 := by
          have h1 : Below wr.heap.size wr (w3.alloc (.cells #[.int .i64 3, .int .i64 IX, .int .i64 0, .int .i64 0, .string ⟨#[]⟩] 53)) := B2.out.alloc hs2 _
          have h2 := h1.grown hgrow (by simp; omega) (fun j hj => (OW3.out.lt j hj).1)
          exact HB.out.trans (h2.mono HB.out.size)
        clear hown' hgrow OW3 OW1 SO b2 B2 B1 cCo cOp cIx
        go_wp2
        go_ret
        exact ⟨⟨_, rfl, hIV⟩, B9⟩
end Go.Proofs.YtplnjbdngedafaaGreatDoor
