/-
  BtD, BtE, EvMk, in one text.
-/
import Derived.Test.YticdcnbeemkapaaGreatDoorGrAs
import Derived.Test.YticdcnbeemkapaaGreatDoorGrAt
import Derived.Test.YticdcnbeemkapaaGreatDoorGrAn
import Derived.Test.YticdcnbeemkapaaGreatDoorGrAf
import Derived.Laws.AppendOwnNone
import Derived.Test.YticdcnbeemkapaaGreatDoorGrAo
import Derived.Test.YticdcnbeemkapaaGreatDoorGrAp
namespace Go.Proofs.YticdcnbeemkapaaGreatDoor
open Go.RowKit Go.BigFrame
set_option linter.unusedVariables false
set_option linter.unusedSimpArgs false

set_option maxHeartbeats 4000000 in
set_option maxRecDepth 20000 in
theorem newTeller_s (q : Qy) (lo : Nat → Prop) (vl : Value) (zs : List Cl) (wp : Option Addr) (wc : Nat) (cp : Option Addr) (cc : Nat) (np : Option Addr) (nc : Nat) (gp : Option Addr) (gc : Nat) (ap : Option Addr) (ac : Nat) (w : World) (henv : KEnv w) (haenv : AEnv w) (hB : QyBe w lo q wp wc cp cc np nc gp gc ap ac) (hcv : ColsV w vl zs) (hA : QyA q) (hz : q.size = 0) (RE : Int) (hR : (chQ zs q).2 = RE) :
    Calls Tryz.prog 9 #[.agg (qyC q wp wc cp cc np nc gp gc ap ac), vl] w fun e w' => (∃ TV, e = .returned (.tuple #[.agg TV, errV RE]) ∧ Aside (if RE = 0 then ∃ sb, TV = tlV sb ∧ w.heap.size ≤ sb ∧ Blk w' sb (svC vl q.whr wp wc (.slice cp q.cols.length cc)) 92 else TV = #[.nilFunc, .nilFunc])) ∧ Below w.heap.size w w' := by
  obtain ⟨z1, z2, rfl⟩ := cols_form hcv
  have hQ := qv_of q wp wc cp cc np nc gp gc ap ac
  have b1 := (Below.refl w.heap.size w).alloc (Nat.le_refl _) (.cells (qyC q wp wc cp cc np nc gp gc ap ac) 39)
  have cO := fun W => ofCols_s q wp wc cp cc np nc gp gc ap ac z1 zs.length z2 W
  have cC := fun W (hb : Below w.heap.size w W) => check_q q lo _ _ zs W (henv.on hb) (haenv.on hb) ⟨wp, wc, cp, cc, np, nc, gp, gc, ap, ac, rfl, hB.on hb⟩ (hcv.on hb) hA (chQ zs q).1 RE (by rw [← hR])
  generalize qyC q wp wc cp cc np nc gp gc ap ac = QC at hQ cO cC ⊢
  have hs14 : (Tryz.prog.info? 39).map (·.size) = some QC.size := by rw [hQ.size]; exact size_qyU
  have h11 := hQ.c11
  rw [hz] at h11
  have b2 := ((Below.refl w.heap.size w).alloc (Nat.le_refl _) (.cells QC 39)).alloc (by simp) (.cells #[.nilFunc, .nilFunc] 56)
  have box : ∀ W, Below (w.heap.size + 2) ((w.alloc (.cells QC 39)).alloc (.cells #[.nilFunc, .nilFunc] 56)) W → Blk W w.heap.size QC 39 ∧ Blk W (w.heap.size + 1) #[.nilFunc, .nilFunc] 56 ∧ w.heap.size + 2 ≤ W.heap.size ∧ Below w.heap.size w W := fun W hb => by
    have hz := hb.size
    simp at hz
    have k1 := blk_alloc (w.alloc (.cells QC 39)) #[.nilFunc, .nilFunc] 56
    rw [show (w.alloc (.cells QC 39)).heap.size = w.heap.size + 1 by simp] at k1
    exact ⟨((blk_alloc w QC _).on ((Below.refl _ _).alloc (Nat.le_refl _) _)).keep (hb.block _ (by omega)), k1.keep (hb.block _ (by omega)), hz, b2.trans (hb.mono (by omega))⟩
  have hld := fun W (hb : Blk W w.heap.size QC 39) => @ld_row W _ _ _ _ hb Tryz.underlying39 rfl hs14
  clear hQ hB hcv henv haenv hA hR
  generalize svC (.slice z1 zs.length z2) q.whr wp wc (.slice cp q.cols.length cc) = SV at *
  generalize (chQ zs q).1 = RL at cC
  generalize zs.length = NZ at *
  by_cases hE : RE = 0
  · subst hE
    rw [show errV 0 = .nilIface from rfl]
    rw [show errV 0 = .nilIface from rfl] at cC
    go_enter Tryz.func9, Tryz.ntmps9
    go_wp2_with (refine hld _ (box _ (Below.refl _ _)).1 rfl _ rfl rfl ?_)
    go_wp2_with fail
    refine (cC _ b2).mono ?_
    rintro e w1 ⟨⟨u, rfl, HU⟩, b3⟩
    have B3 := b3.mono (show w.heap.size + 2 ≤ _ by simp)
    obtain ⟨k0, k1, hl, B⟩ := box w1 B3
    have hsz := k0.cell 11
    rw [h11] at hsz
    have hl0 : w.heap.size < w1.heap.size := by omega
    clear cC HU
    go_wp2_with (refine hld _ k0 rfl _ rfl rfl ?_)
    go_wp2_with fail
    refine (cO _).mono ?_
    rintro e w2 ⟨sb, rfl, hsb, HS, b4⟩
    obtain ⟨k0', k1', hl', B'⟩ := box w2 (B3.trans (b4.mono hl))
    have f0 := k1'.cell 0
    have f1 := k1'.cell 1
    have ff := fun o => k1'.frozen o
    have hl2 : w.heap.size + 1 < w2.heap.size := by omega
    have HS2 : Aside (Blk ((w2.setCell ⟨w.heap.size + 1, 0, none⟩ (.func (.func 44) #[] #[.pointer (some ⟨sb, 0, none⟩)])).setCell ⟨w.heap.size + 1, 1, none⟩ (.func (.func 47) #[] #[])) sb SV 92) := (HS.out.far (by omega) _ _).far (by omega) _ _
    simp at f0 f1
    clear cO hld box k0 k1 k0' k1' b3 b4 B3 B HS
    go_wp2
    refine bodyPost_ret (v := .tuple #[.agg (tlV sb), .nilIface]) (by simp [results, Tryz.results9, go_sem, World.cell?_setCell_other, World.cell?_setCell_same, f0, f1]) rfl ⟨⟨_, rfl, (show Aside _ from ⟨sb, rfl, by omega, HS2.out⟩)⟩, ?_⟩
    exact (B'.setCell (p := ⟨w.heap.size + 1, 0, none⟩) (Nat.le_succ _) _).setCell (p := ⟨w.heap.size + 1, 1, none⟩) (Nat.le_succ _) _
  · rw [show errV RE = .iface 42 (.int .i64 RE) from if_neg hE]
    rw [show errV RE = .iface 42 (.int .i64 RE) from if_neg hE] at cC
    go_enter Tryz.func9, Tryz.ntmps9
    go_wp2_with (refine hld _ (box _ (Below.refl _ _)).1 rfl _ rfl rfl ?_)
    go_wp2_with fail
    refine (cC _ b2).mono ?_
    rintro e w1 ⟨⟨u, rfl, HU⟩, b3⟩
    obtain ⟨k0, k1, hl, B⟩ := box w1 (b3.mono (by simp))
    have f0 := k1.cell 0
    have f1 := k1.cell 1
    have ff := fun o => k1.frozen o
    have hl2 : w.heap.size + 1 < w1.heap.size := by omega
    simp at f0 f1
    clear cC HU cO hld box k0 k1 b3 h11
    go_wp2
    refine bodyPost_ret (v := .tuple #[.agg #[.nilFunc, .nilFunc], .iface 42 (.int .i64 RE)]) (by simp [results, Tryz.results9, go_sem, World.cell?_setCell_other, World.cell?_setCell_same, f0, f1]) rfl ⟨⟨_, rfl, (show Aside _ from rfl)⟩, ?_⟩
    exact (B.setCell (p := ⟨w.heap.size + 1, 0, none⟩) (Nat.le_succ _) _).setCell (p := ⟨w.heap.size + 1, 1, none⟩) (Nat.le_succ _) _
theorem rwsE_at {zs : List Cl} {rws : List (List V3)} {k : Nat} (h : k < rws.length) : rwsE zs (rws.drop k) = if rowChk zs rws[k] ≠ 0 then rowChk zs rws[k] else rwsE zs (rws.drop (k + 1)) := by
  rw [List.drop_eq_getElem_cons h, rwsE]
theorem RowsB.at {w : World} {p : Option Addr} {rws : List (List V3)} (h : RowsB w p rws) {k : Nat} (hk : k < rws.length) : ∃ b off q c, p = some ⟨b, off, none⟩ ∧ b < w.heap.size ∧ w.cell? ⟨b, off + k, none⟩ = some (.slice q rws[k].length c) ∧ ValsAt w q rws[k] := by
  rcases h with h | ⟨b, off, e, hl, h⟩
  · omega
  · obtain ⟨q, c, h1, h2, -⟩ := h k hk
    exact ⟨b, off, q, c, e, hl, h1, h2⟩
set_option maxHeartbeats 4000000 in
set_option maxRecDepth 20000 in
theorem checkRows_s (zs : List Cl) (vl vr : Value) (rws : List (List V3)) (w : World) (henv : TW w) (hcv : ColsV w vl zs) (hrv : RowsV w vr rws) (E : Int) (hE : rwsP zs rws = E) :
    Calls Tryz.prog 10 #[vl, vr] w fun e w' => e = .returned (errV E) ∧ Below w.heap.size w w' := by
  obtain ⟨p, c, rfl, hm, hr, hsz⟩ := hrv
  have cK := fun W (hb : Below w.heap.size w W) v rs (h : ValsV W v rs) (hs : SizedV rs) => rowCheck_v vl v zs rs W (henv.on hb) (hcv.on hb) h hs
  clear henv hcv
  unfold maxLen at hm
  rw [rwsP] at hE
  by_cases h3 : 300 < rws.length
  · rw [if_pos h3] at hE
    subst hE
    rw [errV, if_neg (by decide)]
    have hq : (300 : Int) < (rws.length : Int) := by omega
    clear cK hr hsz
    go_enter Tryz.func10, Tryz.ntmps10
    go_wp2
    go_ret
    exact ⟨rfl, Below.refl _ _⟩
  · rw [if_neg h3] at hE
    have hq : ¬ (300 : Int) < (rws.length : Int) := by omega
    have HR := (show Aside _ from hr)
    have HSZ := (show Aside _ from hsz)
    have HK := (show Aside _ from cK)
    have HE : Hid (rwsE zs rws = E) := hE
    obtain ⟨N, hN⟩ : ∃ N, rws.length = N := ⟨_, rfl⟩
    have HN : Hid (rws.length = N) := hN
    rw [hN] at hq h3 hm ⊢
    clear hr hsz cK hE hN
    go_enter Tryz.func10, Tryz.ntmps10
    go_wp2
    go_loopg [6, 7, 14] N (fun gg _ _ s14 wr => ∃ kk : Nat, kk ≤ N ∧ N - kk ≤ gg ∧ s14 = .int .i64 (kk : Int) ∧ Aside (Below w.heap.size w wr) ∧ Hid (rwsE zs (rws.drop kk) = E))
    case atStart => exact ⟨0, Nat.zero_le _, by omega, rfl, (show Aside _ from Below.refl _ _), HE⟩
    case round =>
      obtain ⟨kk, hkk, hg, rfl, BW, HC⟩ := hrel
      clear HE
      by_cases hlt : kk < N
      · have hltz : (kk : Int) < (N : Int) := by omega
        have k0 : (0 : Int) ≤ (kk : Int) := by omega
        have hk2 : kk < rws.length := by rw [HN.out]; exact hlt
        obtain ⟨b, off, q, qc, rfl, hbl, hcell, hv⟩ := (RowsB.on HR.out BW.out).at hk2
        obtain ⟨hs1, hs2⟩ := HSZ.out _ (List.getElem_mem hk2)
        have cR := HK.out wr BW.out (.slice q rws[kk].length qc) rws[kk] ⟨q, qc, rfl, hs2, hv⟩ hs1
        have HC2 := HC.out
        rw [rwsE_at hk2] at HC2
        have HC3 : Hid _ := HC2
        clear HC HC2 hv hs1 hs2
        generalize rowChk zs rws[kk] = RC at cR HC3
        generalize rws[kk].length = NK at cR hcell
        by_cases hc : RC = 0
        · subst hc
          rw [errV, if_pos rfl] at cR
          have HC4 : Hid (rwsE zs (rws.drop (kk + 1)) = E) := by
            have := HC3.out
            rwa [if_neg (by simp)] at this
          go_wp2_with fail
          refine cR.mono ?_
          rintro e w1 ⟨rfl, b1⟩
          have BW2 : Aside (Below w.heap.size w w1) := BW.out.trans (b1.mono BW.out.size)
          clear cR b1 BW
          go_wp2
          go_roundg (N - (kk + 1))
          case measure => omega
          case rel => exact ⟨kk + 1, by omega, by omega, by go_num, BW2, HC4⟩
        · rw [errV, if_neg hc] at cR
          have he := HC3.out
          rw [if_pos hc] at he
          subst he
          clear HC3
          go_wp2_with fail
          refine cR.mono ?_
          rintro e w1 ⟨rfl, b1⟩
          have BW2 : Aside (Below w.heap.size w w1) := BW.out.trans (b1.mono BW.out.size)
          clear cR b1 BW HK HR HSZ
          go_wp2
          go_ret
          refine ⟨?_, BW2.out⟩
          rw [errV, if_neg hc]
          rfl
      · have hltz : ¬ (kk : Int) < (N : Int) := by omega
        obtain rfl : kk = N := by omega
        have he := HC.out
        rw [List.drop_eq_nil_of_le (by rw [HN.out]; exact Nat.le_refl _), rwsE] at he
        subst he
        clear HC HK HR HSZ
        go_wp2
        go_ret
        refine ⟨?_, BW.out⟩
        rw [errV, if_pos rfl]
        rfl
end Go.Proofs.YticdcnbeemkapaaGreatDoor
namespace Go.Proofs.YticdcnbeemkapaaGreatDoor
open Go.RowKit Go.BigFrame
set_option linter.unusedVariables false
set_option linter.unusedSimpArgs false

theorem info_out : (Tryz.prog.info? 44).map (fun i => (i.zero, i.size, i.bytes)) = some (some (.agg #[.slice none 0 0, .int .i64 0, .int .i64 0]), 3, 40) := by kernel_rfl
/-- A row's values lie elsewhere than in block k. -/
def OffR (k : Option Nat) (rq : Option Addr) (r : List V3) : Prop := r.length = 0 ∨ ∃ b off, rq = some ⟨b, off, none⟩ ∧ some b ≠ k
/-- What is told, as cells. -/
def OtCs (W : World) (k : Option Nat) (cs : List Value) (l : List Ot) : Prop := cs.length = l.length * 3 ∧ ∀ j (h : j < l.length), ∃ rq rc, cs[j * 3]? = some (.slice rq l[j].1.length rc) ∧ cs[j * 3 + 1]? = some (.int .i64 l[j].2.1) ∧ cs[j * 3 + 2]? = some (.int .i64 l[j].2.2) ∧ ValsAt W rq l[j].1 ∧ OffR k rq l[j].1
theorem OtCs.nil (W : World) (k : Option Nat) : OtCs W k [] [] := ⟨rfl, fun j h => absurd h (by simp)⟩
theorem OtCs.on {W W' : World} {k : Option Nat} {cs : List Value} {l : List Ot} (h : OtCs W k cs l) (hb : Below W.heap.size W W') : OtCs W' k cs l :=
  ⟨h.1, fun j hj => by
    obtain ⟨rq, rc, h1, h2, h3, h4, h5⟩ := h.2 j hj
    exact ⟨rq, rc, h1, h2, h3, h4.on hb, h5⟩⟩
theorem vals_grown {W W' : World} {k : Option Nat} {rq : Option Addr} {r : List V3} (h : ValsAt W rq r) (ho : OffR k rq r) (hg : W.grownBy W' k) (hs : W.heap.size ≤ W'.heap.size) : ValsAt W' rq r := by
  rcases h with h | ⟨b, off, rfl, hl, h⟩
  · exact .inl h
  · rcases ho with ho | ⟨b2, off2, e, hne⟩
    · exact .inl ho
    · injection e with e
      injection e with e1 e2
      subst e1
      have hk : W'.heap[b]? = W.heap[b]? := hg.block b hl hne
      have kc : ∀ o, W'.cell? ⟨b, o, none⟩ = W.cell? ⟨b, o, none⟩ := fun o => World.cell?_of_block (w := W) (a := ⟨b, o, none⟩) hk
      refine .inr ⟨b, off, rfl, by omega, fun j hj => ?_⟩
      obtain ⟨h1, h2, h3⟩ := h j hj
      exact ⟨by rw [kc]; exact h1, by rw [kc]; exact h2, by rw [kc]; exact h3⟩
theorem OtCs.push {W W' : World} {k k' : Option Nat} {cs : List Value} {l : List Ot} {o : Ot} {rq : Option Addr} {rc : Nat} (h : OtCs W k cs l) (hv : ValsAt W rq o.1) (ho : OffR k rq o.1) (hg : W.grownBy W' k) (hs : W.heap.size ≤ W'.heap.size) (hk : k' = k ∨ k' = some W.heap.size) : OtCs W' k' (cs ++ [.slice rq o.1.length rc, .int .i64 o.2.1, .int .i64 o.2.2]) (l ++ [o]) := by
  have off' : ∀ {q : Option Addr} {r : List V3}, ValsAt W q r → OffR k q r → OffR k' q r := fun {q r} hv ho => by
    rcases hk with rfl | rfl
    · exact ho
    · rcases hv with hv | ⟨b, off, e, hl, -⟩
      · exact .inl hv
      · exact .inr ⟨b, off, e, by intro e; injection e with e; omega⟩
  refine ⟨by rw [List.length_append, List.length_append, h.1]; simp; omega, fun j hj => ?_⟩
  by_cases hj2 : j < l.length
  · obtain ⟨rq', rc', h1, h2, h3, h4, h5⟩ := h.2 j hj2
    have e : (l ++ [o])[j] = l[j] := List.getElem_append_left hj2
    rw [e]
    have hl := h.1
    refine ⟨rq', rc', ?_, ?_, ?_, vals_grown h4 h5 hg hs, off' h4 h5⟩
    · rw [List.getElem?_append_left (by omega)]; exact h1
    · rw [List.getElem?_append_left (by omega)]; exact h2
    · rw [List.getElem?_append_left (by omega)]; exact h3
  · have hjl : j = l.length := by simp at hj; omega
    subst hjl
    have e : (l ++ [o])[l.length] = o := by simp
    rw [e]
    have hl := h.1
    refine ⟨rq, rc, ?_, ?_, ?_, vals_grown hv ho hg hs, off' hv ho⟩
    · rw [List.getElem?_append_right (by omega), hl, Nat.sub_self]; rfl
    · rw [List.getElem?_append_right (by omega), hl, show l.length * 3 + 1 - l.length * 3 = 1 by omega]; rfl
    · rw [List.getElem?_append_right (by omega), hl, show l.length * 3 + 2 - l.length * 3 = 2 by omega]; rfl
set_option maxRecDepth 20000 in
/-- One that is told is appended to a list of one's own. -/
theorem wpList_append_out {w : World} {ops : Array Oper} {rest : List Oper} {o : Oper} {a : Act} {Q : Exit → Act → World → Prop} (hgd : o.guard = none) (s x : Operand)
    (ho : o.op = .call { callee := .builtin .append, args := #[s, x], argTypes := #[31, 31] })
    (base : Nat) (v : Value) (n : Nat) (cs : List Value) (hs : a.eval s = v) (hown : w.ownsRow base 44 3 v n cs)
    (g : Nat) (rq : Option Addr) (rl rc : Nat) (e f : Int) (hx : a.eval x = .slice (some ⟨g, 0, none⟩) 1 1) (h0 : w.cell? ⟨g, 0, none⟩ = some (.slice rq rl rc)) (h1 : w.cell? ⟨g, 1, none⟩ = some (.int .i64 e)) (h2 : w.cell? ⟨g, 2, none⟩ = some (.int .i64 f))
    (hsm : n ≤ 1000000) (hbase : base ≤ w.heap.size)
    (h : ∀ q' c' w', w'.ownsRow base 44 3 (.slice q' (n + 1) c') (n + 1) (cs ++ [.slice rq rl rc, .int .i64 e, .int .i64 f]) → w.grownBy w' v.ownBlock → ((Value.slice q' (n + 1) c').ownBlock = v.ownBlock ∨ (Value.slice q' (n + 1) c').ownBlock = some w.heap.size) → wpList Tryz.prog ops Q rest (a.put o.dst (.slice q' (n + 1) c')) w') : wpList Tryz.prog ops Q (o :: rest) a w := by
  obtain ⟨i0, hi, hz0, hz1, hzz⟩ := info_parts info_out
  refine wpList_append_fresh hgd s x 31 ho base 44 i0 _ 3 40 Tryz.underlying31 hi hz0 hz1 hzz rfl (by decide) v n cs hs hown ⟨g, 0, none⟩ 1 1 [.slice rq rl rc, .int .i64 e, .int .i64 f] hx rfl (fun j u hu => ?_) (fun u hu => ?_) (by decide) (by unfold maxLen; omega) (by omega) hbase (fun v' w' o1 o2 o3 => ?_)
  · rw [Go.WideShapes.add_plain]
    have hj : j < 3 := by have := (List.getElem?_eq_some_iff.1 hu).1; simpa using this
    have : j = 0 ∨ j = 1 ∨ j = 2 := by omega
    rcases this with rfl | rfl | rfl
    · have hu : some (Value.slice rq rl rc) = some u := hu
      injection hu with hu
      subst hu
      exact h0
    · have hu : some (Value.int .i64 e) = some u := hu
      injection hu with hu
      subst hu
      exact h1
    · have hu : some (Value.int .i64 f) = some u := hu
      injection hu with hu
      subst hu
      exact h2
  · simp at hu
    rcases hu with rfl | rfl | rfl <;> rfl
  · obtain ⟨q', c', rfl⟩ := lown_slice o1
    exact h q' c' w' o1 o2 o3
/-- What was told, as a list in memory. -/
def OutsV (W : World) (u : Value) (l : List Ot) : Prop := ∃ q c, u = .slice q l.length c ∧ (l.length = 0 ∨ ∃ b, q = some ⟨b, 0, none⟩ ∧ b < W.heap.size ∧ ∀ j (h : j < l.length), ∃ rq rc, W.cell? ⟨b, j * 3, none⟩ = some (.slice rq l[j].1.length rc) ∧ W.cell? ⟨b, j * 3 + 1, none⟩ = some (.int .i64 l[j].2.1) ∧ W.cell? ⟨b, j * 3 + 2, none⟩ = some (.int .i64 l[j].2.2) ∧ ValsAt W rq l[j].1)
theorem OutsV.nil (W : World) : OutsV W (.slice none 0 0) [] := ⟨none, 0, rfl, .inl rfl⟩
theorem OutsV.own {W : World} {B n : Nat} {u : Value} {cs : List Value} {l : List Ot} {k : Option Nat} (hn : l.length = n) (h : W.ownsRow B 44 3 u n cs) (hc : OtCs W k cs l) : OutsV W u l := by
  subst hn
  obtain ⟨q, c, rfl⟩ := lown_slice h
  refine ⟨q, c, rfl, ?_⟩
  rcases h.2 with ⟨e1, h0⟩ | ⟨g, cap, cur, e1, hb, hg, _⟩
  · exact .inl h0
  · injection e1 with e1
    subst e1
    refine .inr ⟨g, rfl, (Array.getElem?_eq_some_iff.1 hg).1, fun j hj => ?_⟩
    obtain ⟨rq, rc, a0, a1, a2, a3, -⟩ := hc.2 j hj
    have h1 := h.cells (g := g) rfl _ _ a0
    have h2 := h.cells (g := g) rfl _ _ a1
    have h3 := h.cells (g := g) rfl _ _ a2
    rw [Go.WideShapes.add_plain] at h1 h2 h3
    exact ⟨rq, rc, by simpa using h1, by simpa [Nat.add_assoc] using h2, by simpa [Nat.add_assoc] using h3, a3⟩
theorem OutsV.on {W W' : World} {u : Value} {l : List Ot} (h : OutsV W u l) (hb : Below W.heap.size W W') : OutsV W' u l := by
  obtain ⟨q, c, e, h⟩ := h
  refine ⟨q, c, e, ?_⟩
  rcases h with h | ⟨b, e, hl, h⟩
  · exact .inl h
  · refine .inr ⟨b, e, by have := hb.size; omega, fun j hj => ?_⟩
    obtain ⟨rq, rc, h0, h1, h2, h3⟩ := h j hj
    exact ⟨rq, rc, by rw [hb.cell (p := ⟨b, _, none⟩) hl]; exact h0, by rw [hb.cell (p := ⟨b, _, none⟩) hl]; exact h1, by rw [hb.cell (p := ⟨b, _, none⟩) hl]; exact h2, h3.on hb⟩
theorem flat_len {α β : Type} {f : α → List β} (hf : ∀ a, (f a).length ≤ 1) : ∀ l : List α, (l.flatMap f).length ≤ l.length
  | [] => by simp
  | a :: l => by
    rw [List.flatMap_cons, List.length_append, List.length_cons]
    have := flat_len hf l
    have := hf a
    omega
set_option maxHeartbeats 4000000 in
set_option maxRecDepth 20000 in
theorem run_s (q : Qy) (lo : Nat → Prop) (vl vr : Value) (zs : List Cl) (rws : List (List V3)) (wp : Option Addr) (wc : Nat) (cp : Option Addr) (cc : Nat) (np : Option Addr) (nc : Nat) (gp : Option Addr) (gc : Nat) (ap : Option Addr) (ac : Nat) (w : World) (henv : KEnv w) (haenv : AEnv w) (het : EtAt w) (hB : QyBe w lo q wp wc cp cc np nc gp gc ap ac) (hcv : ColsV w vl zs) (hA : QyA q) (hz : q.size = 0) (hxb : ExB q.whr ∧ ∀ y ∈ q.cols, ExB y) (hrv : RowsV w vr rws) (E : Int) (hE : btE zs q rws = E) :
    Calls Tryz.prog 4 #[.agg (qyC q wp wc cp cc np nc gp gc ap ac), vl, vr] w fun e w' => (∃ u, e = .returned (.tuple #[u, errV E]) ∧ Aside (OutsV w' u (if E = 0 then btO zs q rws else []))) ∧ Below w.heap.size w w' := by
  obtain ⟨z1, z2, hvl⟩ := cols_form hcv
  have hQ := qv_of q wp wc cp cc np nc gp gc ap ac
  obtain ⟨CE, hCE⟩ : ∃ CE, (chQ zs q).2 = CE := ⟨_, rfl⟩
  have b1 := (Below.refl w.heap.size w).alloc (Nat.le_refl _) (.cells (qyC q wp wc cp cc np nc gp gc ap ac) 39)
  have cN := newTeller_s q lo vl zs wp wc cp cc np nc gp gc ap ac _ (henv.on b1) (haenv.on b1) (hB.on b1) (hcv.on b1) hA hz CE hCE
  have cK := fun W (hb : Below w.heap.size w W) => checkRows_s zs vl vr rws W (henv.on hb).tw (hcv.on hb) (hrv.on hb) (rwsP zs rws) rfl
  have cE := fun W => end_s W
  have cP := fun W (hb : Below w.heap.size w W) sb hs vr rs hv hs2 => push_s q.whr q.cols lo (xC q.whr wp wc) (svC vl q.whr wp wc (.slice cp q.cols.length cc)) vl vr cp cc zs rs sb W (henv.on hb) (het.on hb) hs (hB.whr.on hb) hA.wn hxb.1 (hB.cols.onB hb) hB.clen (fun y hy => ⟨hA.cn y hy, hxb.2 y hy⟩) (svC_is _ _ _ _ _) (hcv.on hb) hv hs2
  have hrv2 := hrv
  obtain ⟨rp, rc, rfl, hm, hr, hsz⟩ := hrv2
  generalize svC vl q.whr wp wc (.slice cp q.cols.length cc) = SV at *
  generalize qyC q wp wc cp cc np nc gp gc ap ac = QC at hQ cN b1 ⊢
  have hs14 : (Tryz.prog.info? 39).map (·.size) = some QC.size := by rw [hQ.size]; exact size_qyU
  have hld := @ld_row (w.alloc (.cells QC 39)) w.heap.size _ _ _ (box_blk w QC _) Tryz.underlying39 rfl hs14
  rw [btE, hCE] at hE
  have HO : Hid (btO zs q rws = rws.flatMap (outP zs q.whr q.cols)) := rfl
  have hol : ∀ r, (outP zs q.whr q.cols r).length ≤ 1 := fun r => out_len
  subst hvl
  generalize btO zs q rws = OL at HO ⊢
  generalize outP zs q.whr q.cols = OP at cP HO hol
  clear hQ hB henv haenv het hA hCE hs14 hz hxb hcv
  generalize zs.length = NZ at *
  have hnil : ∀ W, Aside (OutsV W (.slice none 0 0) (if E = 0 then OL else [])) ∨ E = 0 := fun W => by
    by_cases h : E = 0
    · exact .inr h
    · left; rw [if_neg h]; exact OutsV.nil W
  by_cases h1 : CE = 0
  · subst h1
    rw [if_neg (by simp)] at hE
    rw [hE] at cK
    rw [show errV 0 = .nilIface from rfl] at cN
    by_cases h2 : E = 0
    · subst h2
      rw [errV, if_pos rfl] at cK
      have hN3 : rws.length ≤ 300 := by
        rw [rwsP] at hE
        split at hE
        · omega
        · omega
      rw [errV, if_pos rfl, if_pos rfl]
      clear hnil hE hrv
      have HR := (show Aside _ from hr)
      have HSZ := (show Aside _ from hsz)
      have HP := (show Aside _ from cP)
      obtain ⟨N, hN⟩ : ∃ N, rws.length = N := ⟨_, rfl⟩
      have HN : Hid (rws.length = N) := hN
      rw [hN] at hN3 hm cK ⊢
      unfold maxLen at hm
      clear hr hsz cP hN
      go_enter Tryz.func4, Tryz.ntmps4
      go_wp2_with (refine hld rfl _ rfl rfl ?_)
      go_wp2_with fail
      refine cN.mono ?_
      rintro e w1 ⟨⟨TV, rfl, HS0⟩, b2⟩
      have hS0 := HS0.out
      rw [if_pos (by first | trivial | rfl)] at hS0
      obtain ⟨sb, rfl, hsb, hS1⟩ := hS0
      have HS := (show Aside _ from hS1)
      clear HS0 hS1
      have B1 := b1.trans (b2.mono (by simp))
      have hs1 := B1.size
      have hsb2 : sb < w1.heap.size := Blk.lt HS.out
      have B2 := B1.alloc hs1 (.cells (tlV sb) 56)
      have a1 : ∀ (X : World) o, Below X.heap.size X (X.alloc o) := fun X o => (Below.refl _ _).alloc (Nat.le_refl _) o
      have HS2 : Aside (Blk (w1.alloc (.cells (tlV sb) 56)) sb SV 92) := Blk.on HS.out (a1 _ _)
      have HT2 : Aside (Blk (w1.alloc (.cells (tlV sb) 56)) w1.heap.size (tlV sb) 56) := blk_alloc _ _ _
      have hs2 : w1.heap.size < (w1.alloc (.cells (tlV sb) 56)).heap.size := by simp
      clear cN HS hld b2
      go_wp2_with fail
      refine (cK _ B2).mono ?_
      rintro e w2 ⟨rfl, b3⟩
      have B3 := B2.trans (b3.mono B2.size)
      have HS3 : Aside (Blk w2 sb SV 92) := HS2.out.on b3
      have HT3 : Aside (Blk w2 w1.heap.size (tlV sb) 56) := HT2.out.on b3
      have hs3 : w1.heap.size < w2.heap.size := HT3.out.lt
      generalize w1.heap.size = TB at *
      clear cK HS2 HT2 b3 B2 B1 hs2 hs1
      have HB3 := (show Aside _ from B3)
      clear B3
      go_wp2
      go_loopg [11, 13, 31] N (fun gg s11 _ s31 wr => ∃ (kk : Nat) (l : List Ot) (cs : List Value) (u : Value) (n : Nat), kk ≤ N ∧ N - kk ≤ gg ∧ n ≤ kk ∧ s31 = .int .i64 (kk : Int) ∧ s11 = u ∧ Aside (wr.ownsRow w2.heap.size 44 3 u n cs) ∧ Aside (OtCs wr u.ownBlock cs l) ∧ Aside (Below w2.heap.size w2 wr) ∧ Hid (l.length = n) ∧ Hid (l = (rws.take kk).flatMap OP))
      case atStart => exact ⟨0, [], [], .slice none 0 0, 0, Nat.zero_le _, by omega, Nat.le_refl _, rfl, rfl, (show Aside _ from World.ownsRow_nil _ _ _ _), (show Aside _ from OtCs.nil _ _), (show Aside _ from Below.refl _ _), (show Hid _ from rfl), (show Hid _ from rfl)⟩
      case round =>
        obtain ⟨kk, l, cs, u, n, hkk, hgk, hnk, rfl, hu, OJ, CJ, BJ, HL, HC⟩ := hrel
        obtain rfl : u = _ := hu.symm
        have hbs := BJ.out.size
        have Bw : Below w.heap.size w wr := HB3.out.trans (BJ.out.mono HB3.out.size)
        have HTr := HT3.out.keep (BJ.out.block _ HT3.out.lt)
        have ht0 := HTr.cell 0
        have ht1 := HTr.cell 1
        have htl := HTr.lt
        simp at ht0 ht1
        by_cases hlt : kk < N
        · have hltz : (kk : Int) < (N : Int) := by omega
          have k0 : (0 : Int) ≤ (kk : Int) := by omega
          have hk2 : kk < rws.length := by rw [HN.out]; exact hlt
          obtain ⟨b, off, q', qc, rfl, hbl, hcell, hv⟩ := (RowsB.on HR.out Bw).at hk2
          obtain ⟨hs4, hs5⟩ := HSZ.out _ (List.getElem_mem hk2)
          have cR := HP.out wr Bw sb (HS3.out.keep (BJ.out.block _ HS3.out.lt)) (.slice q' rws[kk].length qc) rws[kk] ⟨q', qc, rfl, hs5, hv⟩ hs4
          have HC2 : Hid ((rws.take (kk + 1)).flatMap OP = l ++ OP rws[kk]) := by
            show _ = _
            rw [HC.out, List.take_succ_eq_append_getElem hk2, List.flatMap_append]
            simp
          have hol1 := hol rws[kk]
          clear HC hv hs4 hs5 HTr
          generalize OP rws[kk] = ol at cR HC2 hol1
          generalize rws[kk].length = NK at cR hcell
          obtain ⟨uq, uc, rfl⟩ := lown_slice OJ.out
          go_wp2_with fail
          refine cR.mono ?_
          rintro e w4 ⟨⟨pu, rfl, HPS⟩, b4⟩
          have hs6 := b4.size
          have O4 := lown_below OJ.out b4
          have C4 := CJ.out.on b4
          have B4 := BJ.out.trans (b4.mono hbs)
          have HO4 := (show Aside _ from O4)
          have HC4 := (show Aside _ from C4)
          have HB4 := (show Aside _ from B4)
          have hown0 : ∀ m, (Value.slice uq n uc).ownBlock = some m → w2.heap.size ≤ m ∧ m < wr.heap.size := fun m hm => OJ.out.lt m hm
          clear cR OJ CJ BJ O4 C4 B4
          rcases HPS.out with ⟨rfl, rfl⟩ | ⟨o, g, rq, rcc, rfl, rfl, hg1, hg2, g0, g1, g2, gv, gd⟩
          · have HC6 : Hid (l = (rws.take (kk + 1)).flatMap OP) := by show _ = _; rw [HC2.out]; simp
            obtain ⟨i0, hi, -⟩ := info_parts info_out
            clear HPS HC2 hown0
            go_wp2_with (at_builtin; refine wpList_append_own_none rfl _ _ 31 rfl w2.heap.size 44 i0 3 Tryz.underlying31 hi (.slice uq n uc) n cs rfl HO4.out rfl ?_)
            clear hi
            go_wp2
            go_roundg (N - (kk + 1))
            case measure => omega
            case rel => exact ⟨kk + 1, l, cs, _, n, by omega, by omega, by omega, by go_num, rfl, HO4, HC4, HB4, HL, HC6⟩
          · have hoff : OffR (Value.slice uq n uc).ownBlock rq o.1 := by
              rcases gd with gd | ⟨b', off', e1, e2⟩
              · exact .inl gd
              · refine .inr ⟨b', off', e1, fun e => ?_⟩
                have := hown0 b' e.symm
                omega
            have HV : Aside (ValsAt w4 rq o.1) := gv
            have HOF : Aside (OffR (Value.slice uq n uc).ownBlock rq o.1) := hoff
            have hown1 : ∀ m, (Value.slice uq n uc).ownBlock = some m → w2.heap.size ≤ m := fun m hm => (hown0 m hm).1
            have hn6 : n ≤ 1000000 := by omega
            clear HPS gd gv hoff hown0
            generalize hol2 : o.1.length = OLn at g0
            have HOLn : Hid (o.1.length = OLn) := hol2
            obtain ⟨oe, hoe⟩ : ∃ oe, o.2.1 = oe := ⟨_, rfl⟩
            obtain ⟨of_, hof⟩ : ∃ of_, o.2.2 = of_ := ⟨_, rfl⟩
            rw [hoe] at g1
            rw [hof] at g2
            have HOE : Hid (o.2.1 = oe) := hoe
            have HOFF : Hid (o.2.2 = of_) := hof
            clear hol2 hoe hof
            go_wp2_with (at_builtin; refine wpList_append_out rfl _ _ rfl w2.heap.size (.slice uq n uc) n cs rfl HO4.out g rq OLn rcc oe of_ rfl g0 g1 g2 hn6 (by omega) ?_)
            intro q' c' w6 ho hg ho3
            have hs7 : w4.heap.size ≤ w6.heap.size := (((Below.refl w2.heap.size w4).grown hg (by omega) hown1)).size
            have B6 : Aside (Below w2.heap.size w2 w6) := HB4.out.grown hg (by omega) hown1
            have C6 : Aside (OtCs w6 (Value.slice q' (n + 1) c').ownBlock (cs ++ [.slice rq OLn rcc, .int .i64 oe, .int .i64 of_]) (l ++ [o])) := by
              have := OtCs.push (o := o) (rc := rcc) HC4.out HV.out HOF.out hg hs7 ho3
              rw [HOLn.out, HOE.out, HOFF.out] at this
              exact this
            have O6 : Aside (w6.ownsRow w2.heap.size 44 3 (.slice q' (n + 1) c') (n + 1) (cs ++ [.slice rq OLn rcc, .int .i64 oe, .int .i64 of_])) := ho
            have HL6 : Hid ((l ++ [o]).length = n + 1) := by show _ = _; rw [List.length_append, HL.out]; rfl
            have HC6 : Hid (l ++ [o] = (rws.take (kk + 1)).flatMap OP) := HC2.out.symm
            clear ho hg ho3 HO4 HC4 HB4 hown1 HL HC2 HV HOF
            go_wp2
            go_roundg (N - (kk + 1))
            case measure => omega
            case rel => exact ⟨kk + 1, l ++ [o], _, _, n + 1, by omega, by omega, by omega, by go_num, rfl, O6, C6, B6, HL6, HC6⟩
        · have hltz : ¬ (kk : Int) < (N : Int) := by omega
          obtain rfl : kk = N := by omega
          have hl : l = OL := by rw [HC.out, List.take_of_length_le (by rw [HN.out]; exact Nat.le_refl _)]; exact HO.out.symm
          have OV : Aside (OutsV wr u OL) := by rw [← hl]; exact OutsV.own HL.out OJ.out CJ.out
          obtain ⟨uq, uc, rfl⟩ := lown_slice OJ.out
          obtain ⟨i0, hi, -⟩ := info_parts info_out
          have HO4 := OJ
          clear HR HSZ HP HC CJ HTr HS3 HT3 BJ OJ
          go_wp2_with fail
          refine (cE _).mono ?_
          rintro e w4 ⟨rfl, rfl⟩
          go_wp2_with (at_builtin; refine wpList_append_own_none rfl _ _ 31 rfl w2.heap.size 44 i0 3 Tryz.underlying31 hi (.slice uq n uc) n cs rfl HO4.out rfl ?_)
          clear hi
          go_wp2
          go_ret2
          exact ⟨⟨_, rfl, OV⟩, Bw⟩
    · rw [errV, if_neg h2] at cK
      rw [errV, if_neg h2, if_neg h2]
      clear hr hsz cP hrv
      go_enter Tryz.func4, Tryz.ntmps4
      go_wp2_with (refine hld rfl _ rfl rfl ?_)
      go_wp2_with fail
      refine cN.mono ?_
      rintro e w1 ⟨⟨TV, rfl, HS0⟩, b2⟩
      have hS0 := HS0.out
      rw [if_pos (by first | trivial | rfl)] at hS0
      obtain ⟨sb, rfl, hsb, HS⟩ := hS0
      have B1 := b1.trans (b2.mono (by simp))
      have hs1 := B1.size
      have B2 := B1.alloc hs1 (.cells (tlV sb) 56)
      clear cN HS hld b2
      go_wp2_with fail
      refine (cK _ B2).mono ?_
      rintro e w2 ⟨rfl, b3⟩
      have B3 := B2.trans (b3.mono B2.size)
      clear cK b3 B2 B1
      go_wp2
      go_ret2
      exact ⟨⟨_, rfl, (show Aside _ from OutsV.nil _)⟩, B3⟩
  · rw [if_pos h1] at hE
    subst hE
    rw [show errV CE = .iface 42 (.int .i64 CE) from if_neg h1] at cN
    rw [errV, if_neg h1, if_neg h1]
    clear hr hsz cP hrv cK
    go_enter Tryz.func4, Tryz.ntmps4
    go_wp2_with (refine hld rfl _ rfl rfl ?_)
    go_wp2_with fail
    refine cN.mono ?_
    rintro e w1 ⟨⟨TV, rfl, HS0⟩, b2⟩
    have hS0 := HS0.out
    rw [if_neg h1] at hS0
    subst hS0
    have B1 := b1.trans (b2.mono (by simp))
    have hs1 := B1.size
    clear cN HS0 hld b2
    have B2 := B1.alloc hs1 (.cells #[.nilFunc, .nilFunc] 56)
    go_wp2
    go_ret2
    exact ⟨⟨_, rfl, (show Aside _ from OutsV.nil _)⟩, B2⟩
end Go.Proofs.YticdcnbeemkapaaGreatDoor
namespace Go.Proofs.YticdcnbeemkapaaGreatDoor
open Go.RowKit Go.BigFrame
set_option linter.unusedVariables false

abbrev anyB : Nat → Prop := fun _ => True
theorem bd_mk {op : ByteArray} {l : List Ex} (h : ∀ y ∈ l, ExB y) : ExB (mkN op l) := by
  intro q hq
  rw [mkN, Ex.pre] at hq
  rcases List.mem_cons.1 hq with rfl | hq
  · show inB 0
    unfold inB
    omega
  · obtain ⟨y, hy, hq⟩ := mem_pres hq
    have hs : y.pre 2 = (y.pre 1).map fun q => (q.1, q.2 + 1) := pre_shift y 1
    rw [hs] at hq
    obtain ⟨r, hr, rfl⟩ := List.mem_map.1 hq
    exact h y hy r hr
theorem ExB_yes : ExB yesX := by
  intro q hq
  rw [yesX, Ex.pre, Ex.pres] at hq
  obtain rfl := List.mem_singleton.1 hq
  show inB 1
  unfold inB
  omega
theorem ExB_no : ExB noX := by
  intro q hq
  rw [noX, Ex.pre, Ex.pres] at hq
  obtain rfl := List.mem_singleton.1 hq
  show inB 0
  unfold inB
  omega
theorem len_mk {op : ByteArray} {l : List Ex} : ((mkN op l).pre 1).length = (Ex.pres 2 l).length + 1 := by
  rw [mkN, Ex.pre, List.length_cons]
theorem len_two (y : Ex) : (y.pre 2).length = (y.pre 1).length := by rw [pre_shift y 1]; simp
theorem pres_one (a : Ex) : (Ex.pres 2 [a]).length = (a.pre 2).length := by
  rw [Ex.pres, Ex.pres]; simp
theorem mk1_in (op : ByteArray) (hop : op.size ≤ maxLen) {X : World} {x : Ex} {a0 a1 a2 a3 a4 a5 a6 : Value} (ha : ExIn X anyB (.agg #[a0, a1, a2, a3, a4, a5, a6]) x) (g : Nat) (hg : g = X.heap.size) : ExIn (X.alloc (.cells #[a0, a1, a2, a3, a4, a5, a6] 26)) anyB (.agg #[.string op, .string ⟨#[]⟩, .int .i64 0, .int .i64 0, .string ⟨#[]⟩, .slice (some ⟨g, 0, none⟩) 1 1, .int .i64 0]) (mkN op [x]) := by
  subst hg
  have bb : Below X.heap.size X (X.alloc (.cells #[a0, a1, a2, a3, a4, a5, a6] 26)) := (Below.refl _ X).alloc (Nat.le_refl _) _
  rw [mkN, ExIn]
  refine ⟨some ⟨X.heap.size, 0, none⟩, 1, rfl, ⟨by simp [maxLen], by simp⟩, hop, by decide, by decide, .inr ⟨X.heap.size, 0, rfl, by simp, trivial, ?_⟩⟩
  rw [ExsIn, ExsIn]
  have hcl : ∀ i, (X.alloc (.cells #[a0, a1, a2, a3, a4, a5, a6] 26)).cell? ⟨X.heap.size, i, none⟩ = (#[a0, a1, a2, a3, a4, a5, a6] : Array Value)[i]? := fun i => World.cell?_alloc_at _ _ _ _ rfl
  exact ⟨⟨a0, a1, a2, a3, a4, a5, a6, hcl 0, hcl 1, hcl 2, hcl 3, hcl 4, hcl 5, hcl 6, ha.on bb⟩, trivial⟩
theorem ev1_any (op : ByteArray) (hop : op.size ≤ maxLen) {X : World} {x : Ex} {a0 a1 a2 a3 a4 a5 a6 : Value} (ha : ExIn X anyB (.agg #[a0, a1, a2, a3, a4, a5, a6]) x) (la : (x.pre 1).length ≤ 90) (da : ExB x) (vl vr : Value) (zs : List (ByteArray × Int)) (rs : List V3) (henv : KEnv X) (hcv : ColsV X vl zs) (hrv : ValsV X vr rs) (hrs : SizedV rs) (t k : Int) (s : ByteArray) (e : Int) (hR : evP zs rs (mkN op [x]) = ((t, k, s), e)) (g : Nat) (hg : g = X.heap.size) :
    Calls Tryz.prog 8 #[.agg #[.string op, .string ⟨#[]⟩, .int .i64 0, .int .i64 0, .string ⟨#[]⟩, .slice (some ⟨g, 0, none⟩) 1 1, .int .i64 0], vl, vr] (X.alloc (.cells #[a0, a1, a2, a3, a4, a5, a6] 26)) fun e' w' => e' = .returned (.tuple #[.agg #[.int .i64 t, .int .i64 k, .string s], errV e]) ∧ Below X.heap.size X w' := by
  have bb : Below X.heap.size X (X.alloc (.cells #[a0, a1, a2, a3, a4, a5, a6] 26)) := (Below.refl _ X).alloc (Nat.le_refl _) _
  refine (eval_any (mkN op [x]) anyB _ vl vr zs rs _ (henv.on bb) (mk1_in op hop ha g hg) ?_ (bd_mk fun y hy => ?_) (hcv.on bb) (hrv.on bb) hrs t k s e hR).mono fun e' w' h => ⟨h.1, bb.trans (h.2.mono bb.size)⟩
  · rw [len_mk, pres_one, len_two x]
    omega
  · simp only [List.mem_cons, List.not_mem_nil, or_false] at hy
    subst hy
    exact da
theorem mk2_in (op : ByteArray) (hop : op.size ≤ maxLen) {X : World} {x y : Ex} {a0 a1 a2 a3 a4 a5 a6 b0 b1 b2 b3 b4 b5 b6 : Value} (ha : ExIn X anyB (.agg #[a0, a1, a2, a3, a4, a5, a6]) x) (hb : ExIn X anyB (.agg #[b0, b1, b2, b3, b4, b5, b6]) y) (g : Nat) (hg : g = X.heap.size) : ExIn (X.alloc (.cells #[a0, a1, a2, a3, a4, a5, a6, b0, b1, b2, b3, b4, b5, b6] 26)) anyB (.agg #[.string op, .string ⟨#[]⟩, .int .i64 0, .int .i64 0, .string ⟨#[]⟩, .slice (some ⟨g, 0, none⟩) 2 2, .int .i64 0]) (mkN op [x, y]) := by
  subst hg
  have bb : Below X.heap.size X (X.alloc (.cells #[a0, a1, a2, a3, a4, a5, a6, b0, b1, b2, b3, b4, b5, b6] 26)) := (Below.refl _ X).alloc (Nat.le_refl _) _
  rw [mkN, ExIn]
  refine ⟨some ⟨X.heap.size, 0, none⟩, 2, rfl, ⟨by simp [maxLen], by simp⟩, hop, by decide, by decide, .inr ⟨X.heap.size, 0, rfl, by simp, trivial, ?_⟩⟩
  rw [ExsIn, ExsIn, ExsIn]
  have hcl : ∀ i, (X.alloc (.cells #[a0, a1, a2, a3, a4, a5, a6, b0, b1, b2, b3, b4, b5, b6] 26)).cell? ⟨X.heap.size, i, none⟩ = (#[a0, a1, a2, a3, a4, a5, a6, b0, b1, b2, b3, b4, b5, b6] : Array Value)[i]? := fun i => World.cell?_alloc_at _ _ _ _ rfl
  exact ⟨⟨a0, a1, a2, a3, a4, a5, a6, hcl 0, hcl 1, hcl 2, hcl 3, hcl 4, hcl 5, hcl 6, ha.on bb⟩, ⟨⟨b0, b1, b2, b3, b4, b5, b6, hcl 7, hcl 8, hcl 9, hcl 10, hcl 11, hcl 12, hcl 13, hb.on bb⟩, trivial⟩⟩
theorem ev2_any (op : ByteArray) (hop : op.size ≤ maxLen) {X : World} {x y : Ex} {a0 a1 a2 a3 a4 a5 a6 b0 b1 b2 b3 b4 b5 b6 : Value} (ha : ExIn X anyB (.agg #[a0, a1, a2, a3, a4, a5, a6]) x) (hb : ExIn X anyB (.agg #[b0, b1, b2, b3, b4, b5, b6]) y) (la : (x.pre 1).length ≤ 90) (lb : (y.pre 1).length ≤ 90) (da : ExB x) (db : ExB y) (vl vr : Value) (zs : List (ByteArray × Int)) (rs : List V3) (henv : KEnv X) (hcv : ColsV X vl zs) (hrv : ValsV X vr rs) (hrs : SizedV rs) (t k : Int) (s : ByteArray) (e : Int) (hR : evP zs rs (mkN op [x, y]) = ((t, k, s), e)) (g : Nat) (hg : g = X.heap.size) :
    Calls Tryz.prog 8 #[.agg #[.string op, .string ⟨#[]⟩, .int .i64 0, .int .i64 0, .string ⟨#[]⟩, .slice (some ⟨g, 0, none⟩) 2 2, .int .i64 0], vl, vr] (X.alloc (.cells #[a0, a1, a2, a3, a4, a5, a6, b0, b1, b2, b3, b4, b5, b6] 26)) fun e' w' => e' = .returned (.tuple #[.agg #[.int .i64 t, .int .i64 k, .string s], errV e]) ∧ Below X.heap.size X w' := by
  have bb : Below X.heap.size X (X.alloc (.cells #[a0, a1, a2, a3, a4, a5, a6, b0, b1, b2, b3, b4, b5, b6] 26)) := (Below.refl _ X).alloc (Nat.le_refl _) _
  refine (eval_any (mkN op [x, y]) anyB _ vl vr zs rs _ (henv.on bb) (mk2_in op hop ha hb g hg) ?_ (bd_mk fun y hy => ?_) (hcv.on bb) (hrv.on bb) hrs t k s e hR).mono fun e' w' h => ⟨h.1, bb.trans (h.2.mono bb.size)⟩
  · rw [len_mk, pres_two, len_two x, len_two y]
    omega
  · simp only [List.mem_cons, List.not_mem_nil, or_false] at hy
    rcases hy with rfl | rfl
    · exact da
    · exact db
theorem mk3_in (op : ByteArray) (hop : op.size ≤ maxLen) {X : World} {x y z : Ex} {a0 a1 a2 a3 a4 a5 a6 b0 b1 b2 b3 b4 b5 b6 c0 c1 c2 c3 c4 c5 c6 : Value} (ha : ExIn X anyB (.agg #[a0, a1, a2, a3, a4, a5, a6]) x) (hb : ExIn X anyB (.agg #[b0, b1, b2, b3, b4, b5, b6]) y) (hc : ExIn X anyB (.agg #[c0, c1, c2, c3, c4, c5, c6]) z) (g : Nat) (hg : g = X.heap.size) : ExIn (X.alloc (.cells #[a0, a1, a2, a3, a4, a5, a6, b0, b1, b2, b3, b4, b5, b6, c0, c1, c2, c3, c4, c5, c6] 26)) anyB (.agg #[.string op, .string ⟨#[]⟩, .int .i64 0, .int .i64 0, .string ⟨#[]⟩, .slice (some ⟨g, 0, none⟩) 3 3, .int .i64 0]) (mkN op [x, y, z]) := by
  subst hg
  have bb : Below X.heap.size X (X.alloc (.cells #[a0, a1, a2, a3, a4, a5, a6, b0, b1, b2, b3, b4, b5, b6, c0, c1, c2, c3, c4, c5, c6] 26)) := (Below.refl _ X).alloc (Nat.le_refl _) _
  rw [mkN, ExIn]
  refine ⟨some ⟨X.heap.size, 0, none⟩, 3, rfl, ⟨by simp [maxLen], by simp⟩, hop, by decide, by decide, .inr ⟨X.heap.size, 0, rfl, by simp, trivial, ?_⟩⟩
  rw [ExsIn, ExsIn, ExsIn, ExsIn]
  have hcl : ∀ i, (X.alloc (.cells #[a0, a1, a2, a3, a4, a5, a6, b0, b1, b2, b3, b4, b5, b6, c0, c1, c2, c3, c4, c5, c6] 26)).cell? ⟨X.heap.size, i, none⟩ = (#[a0, a1, a2, a3, a4, a5, a6, b0, b1, b2, b3, b4, b5, b6, c0, c1, c2, c3, c4, c5, c6] : Array Value)[i]? := fun i => World.cell?_alloc_at _ _ _ _ rfl
  exact ⟨⟨a0, a1, a2, a3, a4, a5, a6, hcl 0, hcl 1, hcl 2, hcl 3, hcl 4, hcl 5, hcl 6, ha.on bb⟩, ⟨⟨b0, b1, b2, b3, b4, b5, b6, hcl 7, hcl 8, hcl 9, hcl 10, hcl 11, hcl 12, hcl 13, hb.on bb⟩, ⟨⟨c0, c1, c2, c3, c4, c5, c6, hcl 14, hcl 15, hcl 16, hcl 17, hcl 18, hcl 19, hcl 20, hc.on bb⟩, trivial⟩⟩⟩
theorem ev3_any (op : ByteArray) (hop : op.size ≤ maxLen) {X : World} {x y z : Ex} {a0 a1 a2 a3 a4 a5 a6 b0 b1 b2 b3 b4 b5 b6 c0 c1 c2 c3 c4 c5 c6 : Value} (ha : ExIn X anyB (.agg #[a0, a1, a2, a3, a4, a5, a6]) x) (hb : ExIn X anyB (.agg #[b0, b1, b2, b3, b4, b5, b6]) y) (hc : ExIn X anyB (.agg #[c0, c1, c2, c3, c4, c5, c6]) z) (la : (x.pre 1).length ≤ 90) (lb : (y.pre 1).length ≤ 90) (lc : (z.pre 1).length ≤ 90) (da : ExB x) (db : ExB y) (dc : ExB z) (vl vr : Value) (zs : List (ByteArray × Int)) (rs : List V3) (henv : KEnv X) (hcv : ColsV X vl zs) (hrv : ValsV X vr rs) (hrs : SizedV rs) (t k : Int) (s : ByteArray) (e : Int) (hR : evP zs rs (mkN op [x, y, z]) = ((t, k, s), e)) (g : Nat) (hg : g = X.heap.size) :
    Calls Tryz.prog 8 #[.agg #[.string op, .string ⟨#[]⟩, .int .i64 0, .int .i64 0, .string ⟨#[]⟩, .slice (some ⟨g, 0, none⟩) 3 3, .int .i64 0], vl, vr] (X.alloc (.cells #[a0, a1, a2, a3, a4, a5, a6, b0, b1, b2, b3, b4, b5, b6, c0, c1, c2, c3, c4, c5, c6] 26)) fun e' w' => e' = .returned (.tuple #[.agg #[.int .i64 t, .int .i64 k, .string s], errV e]) ∧ Below X.heap.size X w' := by
  have bb : Below X.heap.size X (X.alloc (.cells #[a0, a1, a2, a3, a4, a5, a6, b0, b1, b2, b3, b4, b5, b6, c0, c1, c2, c3, c4, c5, c6] 26)) := (Below.refl _ X).alloc (Nat.le_refl _) _
  refine (eval_any (mkN op [x, y, z]) anyB _ vl vr zs rs _ (henv.on bb) (mk3_in op hop ha hb hc g hg) ?_ (bd_mk fun y hy => ?_) (hcv.on bb) (hrv.on bb) hrs t k s e hR).mono fun e' w' h => ⟨h.1, bb.trans (h.2.mono bb.size)⟩
  · rw [len_mk, pres_three, len_two x, len_two y, len_two z]
    omega
  · simp only [List.mem_cons, List.not_mem_nil, or_false] at hy
    rcases hy with rfl | rfl | rfl
    · exact da
    · exact db
    · exact dc
theorem ck3_any (op : ByteArray) (hop : op.size ≤ maxLen) {X : World} {x y z : Ex} {a0 a1 a2 a3 a4 a5 a6 b0 b1 b2 b3 b4 b5 b6 c0 c1 c2 c3 c4 c5 c6 : Value} (ha : ExIn X anyB (.agg #[a0, a1, a2, a3, a4, a5, a6]) x) (hb : ExIn X anyB (.agg #[b0, b1, b2, b3, b4, b5, b6]) y) (hc : ExIn X anyB (.agg #[c0, c1, c2, c3, c4, c5, c6]) z) (la : (x.pre 1).length ≤ 90) (lb : (y.pre 1).length ≤ 90) (lc : (z.pre 1).length ≤ 90) (henv : TEnv X) (E : Int) (hR : ckP (mkN op [x, y, z]) = E) (g : Nat) (hg : g = X.heap.size) :
    Calls Tryz.prog 7 #[.agg #[.string op, .string ⟨#[]⟩, .int .i64 0, .int .i64 0, .string ⟨#[]⟩, .slice (some ⟨g, 0, none⟩) 3 3, .int .i64 0]] (X.alloc (.cells #[a0, a1, a2, a3, a4, a5, a6, b0, b1, b2, b3, b4, b5, b6, c0, c1, c2, c3, c4, c5, c6] 26)) fun e' w' => e' = .returned (errV E) ∧ Below X.heap.size X w' := by
  have bb : Below X.heap.size X (X.alloc (.cells #[a0, a1, a2, a3, a4, a5, a6, b0, b1, b2, b3, b4, b5, b6, c0, c1, c2, c3, c4, c5, c6] 26)) := (Below.refl _ X).alloc (Nat.le_refl _) _
  have h := check_tree (mkN op [x, y, z]) anyB _ _ (henv.on bb) (mk3_in op hop ha hb hc g hg) (by
    rw [len_mk, pres_three, len_two x, len_two y, len_two z]
    omega)
  rw [hR] at h
  exact h.mono fun e' w' h => ⟨h.1, bb.trans (h.2.mono bb.size)⟩
theorem yes_in (X : World) : ExIn X anyB (.agg #[.string ⟨#[118, 97, 108]⟩, .string ⟨#[]⟩, .int .i64 2, .int .i64 1, .string ⟨#[]⟩, .slice none 0 0, .int .i64 0]) yesX := by
  rw [yesX, ExIn]
  exact ⟨none, 0, rfl, ⟨by decide, by decide⟩, by decide, by decide, by decide, .inl rfl⟩
theorem no_in (X : World) : ExIn X anyB (.agg #[.string ⟨#[118, 97, 108]⟩, .string ⟨#[]⟩, .int .i64 2, .int .i64 0, .string ⟨#[]⟩, .slice none 0 0, .int .i64 0]) noX := by
  rw [noX, ExIn]
  exact ⟨none, 0, rfl, ⟨by decide, by decide⟩, by decide, by decide, by decide, .inl rfl⟩
theorem ev_fact : evP [(⟨#[120]⟩, 1)] [(1, 3, ⟨#[]⟩)] (mkN ⟨#[110, 111, 116]⟩ [noX]) = ((2, 1, ⟨#[]⟩), 0) := by kernel_rfl
end Go.Proofs.YticdcnbeemkapaaGreatDoor
