/-
  BtB, Told, BtC, in one text.
-/
import Derived.Test.YticdcnbeemkapaaGreatDoorGrAr
import Derived.Test.YticdcnbeemkapaaGreatDoorQAs
import Derived.Test.YticdcnbeemkapaaGreatDoorGrAa
import Derived.Laws.EntriesVeiled
namespace Go.Proofs.YticdcnbeemkapaaGreatDoor
open Go.RowKit Go.BigFrame
set_option linter.unusedVariables false
set_option linter.unusedSimpArgs false

/-- An expression is read out of a block that is known as a whole. -/
theorem ld_ex {W : World} {b o : Nat} {cs XC : Array Value} {T : TypeId} (hb : Blk W b cs T) (hr : ∀ j v, XC[j]? = some v → cs[o + j]? = some v) (h7 : XC.size = 7) :
    ∀ {ops : Array Oper} {rest : List Oper} {op : Oper} {a : Act} {Q : Exit → Act → World → Prop} (hgd : op.guard = none) (x : Operand) (ho : op.op = .load 26 x) (hx : a.eval x = .pointer (some ⟨b, o, none⟩)), wpList Tryz.prog ops Q rest (a.put op.dst (.agg XC)) W → wpList Tryz.prog ops Q (op :: rest) a W :=
  fun hgd x ho hx h => wpList_load_blk hgd 26 x ho b o hx cs T hb XC.toList (by simpa using hr) _ Tryz.underlying26 rfl (by rw [Array.length_toList, h7]; kernel_rfl) h
/-- A sieve's nine cells: the columns, the condition, the expressions. -/
structure SvIs (SC : Array Value) (vl : Value) (XC : Array Value) (cv : Value) : Prop where
  size : SC.size = 9
  s0 : SC[0]? = some vl
  ex : ∀ j v, XC[j]? = some v → SC[1 + j]? = some v
  s8 : SC[8]? = some cv
set_option maxHeartbeats 2000000 in
set_option maxRecDepth 20000 in
theorem passes_s (x : Ex) (lo : Nat → Prop) (XC SC : Array Value) (vl vr cv : Value) (zs : List Cl) (rs : List V3) (w : World) (henv : KEnv w) (hx : ExIn w lo (.agg XC) x) (hsz : (x.pre 1).length ≤ 1048576) (hxb : ExB x) (hS : SvIs SC vl XC cv) (hcv : ColsV w vl zs) (hrv : ValsV w vr rs) (hrs : SizedV rs) (P : Bool) (E : Int) (hR : pasP zs rs x = (P, E)) :
    Calls Tryz.prog 77 #[.agg SC, vr] w fun e w' => e = .returned (.tuple #[.bool P, errV E]) ∧ Below w.heap.size w w' := by
  have hX7 := ex_seven hx
  have b1 := (Below.refl w.heap.size w).alloc (Nat.le_refl _) (.cells SC 92)
  have hbk : ∀ W, Below (w.heap.size + 1) (w.alloc (.cells SC 92)) W → Blk W w.heap.size SC 92 := fun W hb => (blk_alloc w SC _).keep (hb.block _ (by omega))
  have cN := fun W (hb : Below w.heap.size w W) => isNothing_any x lo (.agg XC) W (hx.on hb)
  have hldx := fun W (hb : Below (w.heap.size + 1) (w.alloc (.cells SC 92)) W) => @ld_ex W _ 1 _ _ _ (hbk W hb) hS.ex hX7
  have hlds := fun W (hb : Below (w.heap.size + 1) (w.alloc (.cells SC 92)) W) => @ld_row W _ _ _ _ (hbk W hb) Tryz.underlying92 rfl (by rw [hS.size]; exact size_svU)
  rw [pasP] at hR
  by_cases hn : noOp x = true
  · rw [if_pos hn] at hR
    obtain ⟨rfl, rfl⟩ := Prod.mk.inj hR
    rw [errV, if_pos rfl]
    rw [hn] at cN
    clear hx hcv hrv hS henv hbk
    go_enter Tryz.func77, Tryz.ntmps77
    go_wp2_with (refine hldx _ (Below.refl _ _) rfl _ rfl rfl ?_)
    go_wp2_with fail
    refine (cN _ b1).mono ?_
    rintro e w1 ⟨rfl, b2⟩
    have B := b1.trans (b2.mono (by simp))
    clear cN hldx hlds b2
    go_wp2
    go_ret2
    exact ⟨rfl, B⟩
  · have hnb : noOp x = false := by simpa using hn
    rw [if_neg hn] at hR
    rw [hnb] at cN
    obtain ⟨t, k, s, E', hev⟩ : ∃ t k s E', evP zs rs x = ((t, k, s), E') := ⟨_, _, _, _, rfl⟩
    rw [hev] at hR
    obtain ⟨rfl, rfl⟩ := Prod.mk.inj hR
    have cE := fun W (hb : Below w.heap.size w W) => come_s x lo XC SC vl vr zs rs W (henv.on hb) (hx.on hb) hsz hxb hS.s0 (hcv.on hb) (hrv.on hb) hrs t k s E' (by rw [comP, if_neg hn, hev])
    clear hx hcv hrv henv hR hsz hxb hrs hn hnb hS hbk hev
    generalize errV E' = RV at *
    go_enter Tryz.func77, Tryz.ntmps77
    go_wp2_with (refine hldx _ (Below.refl _ _) rfl _ rfl rfl ?_)
    go_wp2_with fail
    refine (cN _ b1).mono ?_
    rintro e w1 ⟨rfl, b2⟩
    have B3 := b2.mono (show w.heap.size + 1 ≤ _ by simp)
    have B := b1.trans (b2.mono (by simp))
    have hl : w.heap.size + 1 ≤ w1.heap.size := by have := B3.size; simpa using this
    clear cN
    go_wp2_with (first | (refine hlds _ B3 rfl _ rfl rfl ?_) | (refine hldx _ B3 rfl _ rfl rfl ?_))
    go_wp2_with fail
    refine (cE _ B).mono ?_
    rintro e w2 ⟨rfl, b4⟩
    have B' := B.trans (b4.mono (by omega))
    have hl2 : w.heap.size ≤ w2.heap.size := B'.size
    clear cE hldx hlds b2 b4 B3
    go_wp2
    go_ret2
    exact ⟨rfl, B'.alloc hl2 _⟩
/-- Values in memory that was made behind B. -/
def FrV (B : Nat) (W : World) (u : Value) (T : List V3) : Prop := ∃ q c, u = .slice q T.length c ∧ ValsAt W q T ∧ (T.length = 0 ∨ ∃ b off, q = some ⟨b, off, none⟩ ∧ B ≤ b)
theorem FrV.own {B n : Nat} {W : World} {u : Value} {T : List V3} (hn : T.length = n) (h : W.ownsRow B 23 3 u n (vcells T)) : FrV B W u T := by
  subst hn
  obtain ⟨q, c, rfl⟩ := lown_slice h
  refine ⟨q, c, rfl, ownVals rfl h, ?_⟩
  rcases h.2 with ⟨e1, h0⟩ | ⟨g, cap, cur, e1, hb, _⟩
  · exact .inl h0
  · injection e1 with e1
    subst e1
    exact .inr ⟨g, 0, rfl, hb⟩
theorem FrV.nil (B : Nat) (W : World) : FrV B W (.slice none 0 0) [] := ⟨none, 0, rfl, .inl rfl, .inl rfl⟩
theorem gat_step {zs : List Cl} {rs acc : List V3} {es : List Ex} {k : Nat} (h : k < es.length) : gatP zs rs acc (es.drop k) = if (comP zs rs es[k]).2 ≠ 0 then ([], (comP zs rs es[k]).2) else gatP zs rs (acc ++ [(comP zs rs es[k]).1]) (es.drop (k + 1)) := by
  rw [List.drop_eq_getElem_cons h, gatP]
set_option maxHeartbeats 4000000 in
set_option maxRecDepth 20000 in
theorem take_s (x : Ex) (es : List Ex) (lo : Nat → Prop) (XC SC : Array Value) (vl vr : Value) (cp : Option Addr) (cc : Nat) (zs : List Cl) (rs : List V3) (w : World) (henv : KEnv w) (hx : ExIn w lo (.agg XC) x) (hsz : (x.pre 1).length ≤ 1048576) (hxb : ExB x) (hes : ArgsIs w lo (.slice cp es.length cc) es) (hel : es.length ≤ 1048576) (hen : ∀ y ∈ es, (y.pre 1).length ≤ 1048576 ∧ ExB y) (hS : SvIs SC vl XC (.slice cp es.length cc)) (hcv : ColsV w vl zs) (hrv : ValsV w vr rs) (hrs : SizedV rs) (T : List V3) (P : Bool) (E : Int) (hR : takP zs x es rs = (T, P, E)) :
    Calls Tryz.prog 45 #[.agg SC, vr] w fun e w' => (∃ u, e = .returned (.tuple #[u, .bool P, errV E]) ∧ Aside (FrV w.heap.size w' u T)) ∧ Below w.heap.size w w' := by
  have b1 := (Below.refl w.heap.size w).alloc (Nat.le_refl _) (.cells SC 92)
  have hbk : ∀ W, Below (w.heap.size + 1) (w.alloc (.cells SC 92)) W → Blk W w.heap.size SC 92 := fun W hb => (blk_alloc w SC _).keep (hb.block _ (by omega))
  have hlds := fun W (hb : Below (w.heap.size + 1) (w.alloc (.cells SC 92)) W) => @ld_row W _ _ _ _ (hbk W hb) Tryz.underlying92 rfl (by rw [hS.size]; exact size_svU)
  have hc8 : ∀ W, Below (w.heap.size + 1) (w.alloc (.cells SC 92)) W → W.cell? ⟨w.heap.size, 8, none⟩ = some (.slice cp es.length cc) := fun W hb => by rw [(hbk W hb).cell]; exact hS.s8
  obtain ⟨PP, PE, hpa⟩ : ∃ PP PE, pasP zs rs x = (PP, PE) := ⟨_, _, rfl⟩
  have cP := passes_s x lo XC SC vl vr _ zs rs _ (henv.on b1) (hx.on b1) hsz hxb hS (hcv.on b1) (hrv.on b1) hrs PP PE hpa
  rw [takP, hpa] at hR
  have hs0 := hS.s0
  clear hpa hx hsz hxb hbk hS
  by_cases hE : PE = 0
  · subst hE
    rw [errV, if_pos rfl] at cP
    rw [if_neg (by simp)] at hR
    cases PP
    · rw [if_pos rfl] at hR
      simp only [Prod.mk.injEq] at hR
      obtain ⟨rfl, rfl, rfl⟩ := hR
      rw [errV, if_pos rfl]
      clear hc8 henv hes hel hen hcv hrv hrs
      go_enter Tryz.func45, Tryz.ntmps45
      go_wp2_with (refine hlds _ (Below.refl _ _) rfl _ rfl rfl ?_)
      go_wp2_with fail
      refine cP.mono ?_
      rintro e w1 ⟨rfl, b2⟩
      have B := b1.trans (b2.mono (by simp))
      clear cP hlds b2
      go_wp2
      exact bodyPost_ret (v := .tuple #[.slice none 0 0, .bool false, .nilIface]) (by simp [results, Tryz.results45, go_sem]) rfl ⟨⟨_, rfl, (show Aside _ from FrV.nil _ _)⟩, B⟩
    · rw [if_neg (by simp)] at hR
      obtain ⟨G, GE, hg⟩ : ∃ G GE, gatP zs rs [] es = (G, GE) := ⟨_, _, rfl⟩
      have hGl := gat_len (zs := zs) (rs := rs) es []
      rw [hg] at hR hGl
      have HG : Hid (gatP zs rs [] es = (G, GE)) := hg
      have HGL : Hid (GE = 0 → G.length = es.length) := by simpa [Hid] using hGl
      have HR : Hid ((if GE ≠ 0 then ([], false, GE) else (G, true, 0)) = (T, P, E)) := hR
      have cE := fun W (hb : Below w.heap.size w W) y YC hy h1 h2 t k s E' hc => come_s y lo YC SC vl vr zs rs W (henv.on hb) hy h1 h2 hs0 (hcv.on hb) (hrv.on hb) hrs t k s E' hc
      have HES : Aside (ArgsIs w lo (.slice cp es.length cc) es) := hes
      have HEN : Aside (∀ y ∈ es, (y.pre 1).length ≤ 1048576 ∧ ExB y) := hen
      have HCE := (show Aside _ from cE)
      obtain ⟨N, hN⟩ : ∃ N, es.length = N := ⟨_, rfl⟩
      have HN : Hid (es.length = N) := hN
      rw [hN] at hc8 HES hel HGL
      clear hg hGl hR henv hes hen hcv hrv hrs cE hN
      go_enter Tryz.func45, Tryz.ntmps45
      go_wp2_with (refine hlds _ (Below.refl _ _) rfl _ rfl rfl ?_)
      go_wp2_with fail
      refine cP.mono ?_
      rintro e w1 ⟨rfl, b2⟩
      have BQ1 : Below (w.heap.size + 1) (w.alloc (.cells SC 92)) w1 := b2.mono (by simp)
      have hs1 : w.heap.size + 1 ≤ w1.heap.size := by have := BQ1.size; simpa using this
      have hcell := hc8 _ BQ1
      clear cP b2 hc8
      have hnz : (N : Int) ≤ 1048576 := by omega
      go_wp2
      go_loopg [9, 11, 12, 13, 30] N (fun gg s9 _ _ _ s30 wr => ∃ (kk : Nat) (acc : List V3) (u : Value), kk ≤ N ∧ N - kk ≤ gg ∧ s30 = .int .i64 (kk : Int) ∧ s9 = u ∧ Aside (wr.ownsRow w1.heap.size 23 3 u kk (vcells acc)) ∧ Aside (Below w1.heap.size w1 wr) ∧ Hid (acc.length = kk) ∧ Hid (gatP zs rs acc (es.drop kk) = (G, GE)))
      case atStart => exact ⟨0, [], .slice none 0 0, Nat.zero_le _, by omega, rfl, rfl, (show Aside _ from World.ownsRow_nil _ _ _ _), (show Aside _ from Below.refl _ _), (show Hid _ from rfl), HG⟩
      case round =>
        obtain ⟨kk, acc, u, hkk, hgk, rfl, hu, OJ, BJ, HOL, HC⟩ := hrel
        obtain rfl : u = _ := hu.symm
        clear HG
        have hbs := BJ.out.size
        have BQ : Below (w.heap.size + 1) (w.alloc (.cells SC 92)) wr := BQ1.trans (BJ.out.mono hs1)
        have Bw : Below w.heap.size w wr := b1.trans (BQ.mono (by omega))
        by_cases hlt : kk < N
        · have hltz : (kk : Int) < (N : Int) := by omega
          have h0z : (0 : Int) ≤ (kk : Int) := by omega
          have hk2 : kk < es.length := by rw [HN.out]; exact hlt
          have hAr := HES.out.onB Bw
          obtain ⟨ba, oa, yp, yc, rfl, hbl, hlo, hrg, hEx⟩ := partQ_at hAr hk2
          obtain ⟨n1, n2⟩ := HEN.out _ (List.getElem_mem hk2)
          have HC2 := HC.out
          rw [gat_step hk2] at HC2
          have HC3 : Hid _ := HC2
          clear HC HC2 hAr HEN HES hcell
          generalize es[kk] = y at hrg hEx n1 n2 HC3
          obtain ⟨t, k, s, E', hcm⟩ : ∃ t k s E', comP zs rs y = ((t, k, s), E') := ⟨_, _, _, _, rfl⟩
          have HC4 := HC3.out
          rw [hcm] at HC4
          have HC5 : Hid _ := HC4
          clear HC3 HC4
          have BX := Bw.alloc Bw.size (.cells #[.string y.op, .string y.nm, .int .i64 y.vt, .int .i64 y.vn, .string y.vs, .slice yp y.args.length yc, .int .i64 y.pos] 26)
          have BQX := BQ.alloc (by omega) (.cells #[.string y.op, .string y.nm, .int .i64 y.vt, .int .i64 y.vn, .string y.vs, .slice yp y.args.length yc, .int .i64 y.pos] 26)
          have BJX := BJ.out.alloc hbs (.cells #[.string y.op, .string y.nm, .int .i64 y.vt, .int .i64 y.vn, .string y.vs, .slice yp y.args.length yc, .int .i64 y.pos] 26)
          have cE := HCE.out _ BX y _ (hEx.on ((Below.refl _ _).alloc (Nat.le_refl _) _)) n1 n2 t k s E' hcm
          have hldy := @ld_row (wr.alloc (.cells #[.string y.op, .string y.nm, .int .i64 y.vt, .int .i64 y.vn, .string y.vs, .slice yp y.args.length yc, .int .i64 y.pos] 26)) wr.heap.size _ 26 _ (box_blk wr _ _) Tryz.underlying26 rfl (by kernel_rfl)
          clear hEx n1 n2 hcm hlo
          by_cases hE : E' = 0
          · subst hE
            rw [errV, if_pos rfl] at cE
            have HC6 : Hid (gatP zs rs (acc ++ [(t, k, s)]) (es.drop (kk + 1)) = (G, GE)) := by
              have := HC5.out
              rwa [if_neg (by simp)] at this
            clear HC5
            obtain ⟨uq, uc, rfl⟩ := lown_slice OJ.out
            go_wp2_with (first | (refine wpList_load_mid rfl 26 _ rfl ba (oa + kk * 7) rfl _ _ hrg Tryz.underlying26 rfl size_exU ?_) | (refine hlds _ BQX rfl _ rfl rfl ?_) | (refine hldy rfl _ rfl rfl ?_))
            go_wp2_with fail
            refine cE.mono ?_
            rintro e w2 ⟨rfl, b3⟩
            have hs2 := b3.size
            simp at hs2
            clear cE hldy hlds hrg
            have O2 := ((lown_below (lown_below OJ.out ((Below.refl _ _).alloc (Nat.le_refl _) _)) b3))
            have BJ2 := BJX.trans (b3.mono (by simp; omega))
            have a1 : ∀ (X : World) o, Below X.heap.size X (X.alloc o) := fun X o => (Below.refl _ _).alloc (Nat.le_refl _) o
            have O3 := lown_below O2 (a1 w2 (.cells #[.int .i64 t, .int .i64 k, .string s] 23))
            have BJ3 := BJ2.alloc (by omega) (.cells #[.int .i64 t, .int .i64 k, .string s] 23)
            have O4 := lown_below O3 (a1 _ (.cells #[.int .i64 t, .int .i64 k, .string s] 23))
            have BJ4 := BJ3.alloc (by simp; omega) (.cells #[.int .i64 t, .int .i64 k, .string s] 23)
            have HO4 := (show Aside _ from O4)
            have HJ4 := (show Aside _ from BJ4)
            clear O2 O3 O4 BJ2 BJ3 BJ4 OJ BJ BJX BQX BX b3
            go_wp2_with (at_builtin; refine wpList_append_val rfl _ _ rfl w1.heap.size _ kk acc rfl HO4.out (w2.heap.size + 1) 1 t k s rfl (news1 (by simp) _) (by omega) (by simp; omega) ?_)
            intro q' c' w4 ho hg
            have hown4 : ∀ m, (Value.slice uq kk uc).ownBlock = some m → w1.heap.size ≤ m := fun m hm => (World.ownsRow.lt HO4.out m hm).1
            have B6 : Aside (Below w1.heap.size w1 w4) := HJ4.out.grown hg (by simp; omega) hown4
            have O6 : Aside (w4.ownsRow w1.heap.size 23 3 (.slice q' (kk + 1) c') (kk + 1) (vcells (acc ++ [(t, k, s)]))) := ho
            have HL6 : Hid ((acc ++ [(t, k, s)]).length = kk + 1) := by show _ = _; rw [List.length_append, HOL.out]; rfl
            clear ho hg HO4 HJ4 hown4 HOL
            go_wp2
            go_roundg (N - (kk + 1))
            case measure => omega
            case rel => exact ⟨kk + 1, acc ++ [(t, k, s)], _, by omega, by omega, by go_num, rfl, O6, B6, HL6, HC6⟩
          · rw [errV, if_neg hE] at cE
            have he := HC5.out
            rw [if_pos hE] at he
            obtain ⟨rfl, rfl⟩ := Prod.mk.inj he
            have he2 := HR.out
            rw [if_pos hE] at he2
            simp only [Prod.mk.injEq] at he2
            obtain ⟨rfl, rfl, rfl⟩ := he2
            clear HC5 he HR
            go_wp2_with (first | (refine wpList_load_mid rfl 26 _ rfl ba (oa + kk * 7) rfl _ _ hrg Tryz.underlying26 rfl size_exU ?_) | (refine hlds _ BQX rfl _ rfl rfl ?_) | (refine hldy rfl _ rfl rfl ?_))
            go_wp2_with fail
            refine cE.mono ?_
            rintro e w2 ⟨rfl, b3⟩
            have hs2 := b3.size
            simp at hs2
            have BX2 := (BX.trans (b3.mono (by simp; omega))).alloc (by omega) (.cells #[.int .i64 t, .int .i64 k, .string s] 23)
            clear cE hldy hlds hrg HCE BQX BJX BX b3
            go_wp2
            refine bodyPost_ret (v := .tuple #[.slice none 0 0, .bool false, .iface 42 (.int .i64 E')]) (by simp [results, Tryz.results45, go_sem]) rfl ⟨⟨_, ?_, (show Aside _ from FrV.nil _ _)⟩, BX2⟩
            rw [errV, if_neg hE]
        · have hltz : ¬ (kk : Int) < (N : Int) := by omega
          obtain rfl : kk = N := by omega
          have he := HC.out
          rw [List.drop_eq_nil_of_le (by rw [HN.out]; exact Nat.le_refl _), gatP] at he
          obtain ⟨rfl, rfl⟩ := Prod.mk.inj he
          have he2 := HR.out
          rw [if_neg (by simp)] at he2
          simp only [Prod.mk.injEq] at he2
          obtain ⟨rfl, rfl, rfl⟩ := he2
          have F := FrV.own HOL.out OJ.out
          have F2 : Aside (FrV w.heap.size wr u acc) := by
            obtain ⟨q, c, e1, e2, e3⟩ := F
            refine ⟨q, c, e1, e2, ?_⟩
            rcases e3 with e3 | ⟨b, off, e3, e4⟩
            · exact .inl e3
            · exact .inr ⟨b, off, e3, by omega⟩
          clear OJ BJ HCE hlds HC he F
          go_wp2
          refine bodyPost_ret (v := .tuple #[u, .bool true, .nilIface]) (by simp [results, Tryz.results45, go_sem]) rfl ⟨⟨u, ?_, F2⟩, Bw⟩
          rw [errV, if_pos rfl]
  · rw [errV, if_neg hE] at cP
    rw [if_pos hE] at hR
    simp only [Prod.mk.injEq] at hR
    obtain ⟨rfl, rfl, rfl⟩ := hR
    rw [errV, if_neg hE]
    clear hc8 henv hes hel hen hcv hrv hrs
    go_enter Tryz.func45, Tryz.ntmps45
    go_wp2_with (refine hlds _ (Below.refl _ _) rfl _ rfl rfl ?_)
    go_wp2_with fail
    refine cP.mono ?_
    rintro e w1 ⟨rfl, b2⟩
    have B := b1.trans (b2.mono (by simp))
    clear cP hlds b2
    go_wp2
    exact bodyPost_ret (v := .tuple #[.slice none 0 0, .bool false, .iface 42 (.int .i64 PE)]) (by simp [results, Tryz.results45, go_sem]) rfl ⟨⟨_, rfl, (show Aside _ from FrV.nil _ _)⟩, B⟩
end Go.Proofs.YticdcnbeemkapaaGreatDoor
namespace Go.Proofs.YticdcnbeemkapaaGreatDoor
open Go.RowKit
set_option linter.unusedVariables false

/-- The handle of the type error lies there. -/
def EtAt (w : World) : Prop := w.cell? ⟨0, 0, none⟩ = some (.iface 158 (.agg #[.pointer (some ⟨6, 33, none⟩)]))
theorem EtAt.on {w w' : World} (h : EtAt w) (hb : Below w.heap.size w w') : EtAt w' := by
  have hl : 0 < w.heap.size := by
    rcases Nat.lt_or_ge 0 w.heap.size with h' | h'
    · exact h'
    · rw [EtAt] at h; simp [World.cell?, Array.getElem?_eq_none h'] at h
  rw [EtAt, hb.cell (p := ⟨0, 0, none⟩) hl]
  exact h
end Go.Proofs.YticdcnbeemkapaaGreatDoor
namespace Go.Proofs.YticdcnbeemkapaaGreatDoor
open Go.RowKit Go.BigFrame
set_option linter.unusedVariables false
set_option linter.unusedSimpArgs false

set_option maxHeartbeats 2000000 in
set_option maxRecDepth 20000 in
theorem fault_s (E : Int) (w : World) (hg : EtAt w) :
    Calls Tryz.prog 46 #[.iface 42 (.int .i64 E)] w fun e w' => e = .returned (.agg #[.slice none 0 0, .int .i64 E, .int .i64 0]) ∧ Below w.heap.size w w' := by
  have b2 := ((Below.refl w.heap.size w).alloc (Nat.le_refl _) (.cells #[.slice none 0 0, .int .i64 0, .int .i64 0] 44)).alloc (by simp) (.cells #[.int .i64 0] 42)
  have hgA := hg.on b2
  unfold EtAt at hgA
  have htA : ((w.alloc (.cells #[.slice none 0 0, .int .i64 0, .int .i64 0] 44)).alloc (.cells #[.int .i64 0] 42)).cell? ⟨w.heap.size + 1, 0, none⟩ = some (.int .i64 0) := by simp
  have hfA : ((w.alloc (.cells #[.slice none 0 0, .int .i64 0, .int .i64 0] 44)).alloc (.cells #[.int .i64 0] 42)).frozen? ⟨w.heap.size + 1, 0, none⟩ = false := by simp
  have cA := as_hit E ⟨w.heap.size + 1, 0, none⟩ (.int .i64 0) _ hgA htA hfA
  clear hgA htA hfA hg b2
  go_enter Tryz.func46, Tryz.ntmps46
  go_wp2_with (first | (go_at_call 27; refine cA.mono ?_; rintro e w' ⟨rfl, rfl⟩))
  refine bodyPost_ret (v := .agg #[.slice none 0 0, .int .i64 E, .int .i64 0]) (by simp [results, Tryz.results46, go_sem]) rfl ⟨rfl, ?_⟩
  repeat (first | exact Below.refl _ _ | (refine Below.setCell ?_ (by simp) _) | (refine Below.alloc ?_ (by simp; omega) _) | (refine Below.alloc ?_ (by simp) _))
/-- What a row's teller gives: nothing, or one that is told. -/
def PsIs (B : Nat) (W : World) (u : Value) (l : List Ot) : Prop := (l = [] ∧ u = .slice none 0 0) ∨ ∃ o g rq rc, l = [o] ∧ u = .slice (some ⟨g, 0, none⟩) 1 1 ∧ B ≤ g ∧ g < W.heap.size ∧ W.cell? ⟨g, 0, none⟩ = some (.slice rq o.1.length rc) ∧ W.cell? ⟨g, 1, none⟩ = some (.int .i64 o.2.1) ∧ W.cell? ⟨g, 2, none⟩ = some (.int .i64 o.2.2) ∧ ValsAt W rq o.1 ∧ (o.1.length = 0 ∨ ∃ b off, rq = some ⟨b, off, none⟩ ∧ B ≤ b)
theorem PsIs.nil0 (B : Nat) (W : World) : PsIs B W (.slice none 0 0) [] := .inl ⟨rfl, rfl⟩
theorem PsIs.one {B g : Nat} {W : World} {u rv : Value} {o : Ot} (hu : u = .slice (some ⟨g, 0, none⟩) 1 1) (hB : B ≤ g) (hb : Blk W g #[rv, .int .i64 o.2.1, .int .i64 o.2.2] 44) (hr : FrV B W rv o.1) : PsIs B W u [o] := by
  obtain ⟨q, c, rfl, h1, h2⟩ := hr
  exact .inr ⟨o, g, q, c, rfl, hu, hB, hb.lt, hb.cell 0, hb.cell 1, hb.cell 2, h1, h2⟩
theorem FrV.on {B : Nat} {W W' : World} {u : Value} {T : List V3} (h : FrV B W u T) (hb : Below W.heap.size W W') : FrV B W' u T := by
  obtain ⟨q, c, e, h1, h2⟩ := h
  exact ⟨q, c, e, h1.on hb, h2⟩
set_option maxHeartbeats 4000000 in
set_option maxRecDepth 20000 in
theorem push_s (x : Ex) (es : List Ex) (lo : Nat → Prop) (XC SC : Array Value) (vl vr : Value) (cp : Option Addr) (cc : Nat) (zs : List Cl) (rs : List V3) (sb : Nat) (w : World) (henv : KEnv w) (het : EtAt w) (hb : Blk w sb SC 92) (hx : ExIn w lo (.agg XC) x) (hsz : (x.pre 1).length ≤ 1048576) (hxb : ExB x) (hes : ArgsIs w lo (.slice cp es.length cc) es) (hel : es.length ≤ 1048576) (hen : ∀ y ∈ es, (y.pre 1).length ≤ 1048576 ∧ ExB y) (hS : SvIs SC vl XC (.slice cp es.length cc)) (hcv : ColsV w vl zs) (hrv : ValsV w vr rs) (hrs : SizedV rs) :
    Calls Tryz.prog 44 #[vr, .pointer (some ⟨sb, 0, none⟩)] w fun e w' => (∃ u, e = .returned u ∧ Aside (PsIs w.heap.size w' u (outP zs x es rs))) ∧ Below w.heap.size w w' := by
  obtain ⟨T, P, E, hR⟩ : ∃ T P E, takP zs x es rs = (T, P, E) := ⟨_, _, _, rfl⟩
  have cT := take_s x es lo XC SC vl vr cp cc zs rs w henv hx hsz hxb hes hel hen hS hcv hrv hrs T P E hR
  have hlds := @ld_row _ _ _ _ _ hb Tryz.underlying92 rfl (by rw [hS.size]; exact size_svU)
  have HO : Hid (outP zs x es rs = if E ≠ 0 then [([], E, 0)] else if P = true then [(T, 0, 0)] else []) := by
    show _ = _
    rw [outP, hR]
  have cF := fun W (hb : Below w.heap.size w W) => fault_s E W (het.on hb)
  generalize outP zs x es rs = OL at HO ⊢
  clear henv het hx hsz hxb hes hel hen hS hcv hrv hrs hR hb
  have a1 : ∀ (X : World) o, Below X.heap.size X (X.alloc o) := fun X o => (Below.refl _ _).alloc (Nat.le_refl _) o
  by_cases hE : E = 0
  · subst hE
    rw [errV, if_pos rfl] at cT
    have HO2 := HO.out
    rw [if_neg (by simp)] at HO2
    clear HO cF
    cases P
    · obtain rfl : OL = [] := by rw [HO2]; rfl
      clear HO2
      go_enter Tryz.func44, Tryz.ntmps44
      go_wp2_with (refine hlds rfl _ rfl rfl ?_)
      go_wp2_with fail
      refine cT.mono ?_
      rintro e w1 ⟨⟨u, rfl, HF⟩, b2⟩
      clear cT hlds
      go_wp2
      go_ret
      exact ⟨⟨_, rfl, (show Aside _ from PsIs.nil0 _ _)⟩, b2⟩
    · obtain rfl : OL = [(T, 0, 0)] := by rw [HO2]; rfl
      clear HO2
      go_enter Tryz.func44, Tryz.ntmps44
      go_wp2_with (refine hlds rfl _ rfl rfl ?_)
      go_wp2_with fail
      refine cT.mono ?_
      rintro e w1 ⟨⟨u, rfl, HF⟩, b2⟩
      clear cT hlds
      have hl := b2.size
      have F := HF.out.on (a1 w1 (.cells #[u, .int .i64 0, .int .i64 0] 44))
      have PS : Aside (PsIs w.heap.size (w1.alloc (.cells #[u, .int .i64 0, .int .i64 0] 44)) (.slice (some ⟨w1.heap.size, 0, none⟩) 1 1) [(T, 0, 0)]) := PsIs.one rfl hl (blk_alloc _ _ _) F
      obtain ⟨q, c, hu, -⟩ := HF.out
      subst hu
      clear F HF
      go_wp2
      go_ret
      exact ⟨⟨_, rfl, PS⟩, b2.alloc hl _⟩
  · rw [errV, if_neg hE] at cT
    have HO2 := HO.out
    rw [if_pos hE] at HO2
    subst HO2
    go_enter Tryz.func44, Tryz.ntmps44
    go_wp2_with (refine hlds rfl _ rfl rfl ?_)
    go_wp2_with fail
    refine cT.mono ?_
    rintro e w1 ⟨⟨u, rfl, HF⟩, b2⟩
    clear cT hlds
    go_wp2_with fail
    refine (cF _ b2).mono ?_
    rintro e w2 ⟨rfl, b3⟩
    have b4 := b2.trans (b3.mono b2.size)
    have hl := b4.size
    have PS : Aside (PsIs w.heap.size (w2.alloc (.cells #[.slice none 0 0, .int .i64 E, .int .i64 0] 44)) (.slice (some ⟨w2.heap.size, 0, none⟩) 1 1) [([], E, 0)]) := PsIs.one rfl hl (blk_alloc _ _ _) (FrV.nil _ _)
    clear cF HF
    go_wp2
    go_ret
    exact ⟨⟨_, rfl, PS⟩, b4.alloc hl _⟩
theorem end_s (w : World) : Calls Tryz.prog 47 #[] w fun e w' => e = .returned (.slice none 0 0) ∧ w' = w := by
  go_enter Tryz.func47, Tryz.ntmps47
  go_wp2
  go_ret
  exact ⟨rfl, rfl⟩
theorem blk_at {X : World} {n : Nat} {cs : Array Value} {t : TypeId} (h : X.heap.size = n) : Blk (X.alloc (.cells cs t)) n cs t := by
  subst h
  exact blk_alloc _ _ _
/-- The sieve that ofCols lays. -/
abbrev svC (vl : Value) (x : Ex) (wp : Option Addr) (wc : Nat) (cv : Value) : Array Value := #[vl, .string x.op, .string x.nm, .int .i64 x.vt, .int .i64 x.vn, .string x.vs, .slice wp x.args.length wc, .int .i64 x.pos, cv]
abbrev xC (x : Ex) (wp : Option Addr) (wc : Nat) : Array Value := #[.string x.op, .string x.nm, .int .i64 x.vt, .int .i64 x.vn, .string x.vs, .slice wp x.args.length wc, .int .i64 x.pos]
theorem svC_is (vl : Value) (x : Ex) (wp : Option Addr) (wc : Nat) (cv : Value) : SvIs (svC vl x wp wc cv) vl (xC x wp wc) cv := by
  refine ⟨rfl, rfl, fun j v hv => ?_, rfl⟩
  have hj : j < 7 := by have := (Array.getElem?_eq_some_iff.1 hv).1; simpa using this
  have : j = 0 ∨ j = 1 ∨ j = 2 ∨ j = 3 ∨ j = 4 ∨ j = 5 ∨ j = 6 := by omega
  rcases this with rfl | rfl | rfl | rfl | rfl | rfl | rfl
  all_goals (simp at hv; subst hv; rfl)
/-- The teller of a query without a group, its sieve in block sb. -/
abbrev tlV (sb : Nat) : Array Value := #[.func (.func 44) #[] #[.pointer (some ⟨sb, 0, none⟩)], .func (.func 47) #[] #[]]
set_option maxHeartbeats 2000000 in
set_option maxRecDepth 20000 in
theorem ofCols_s (q : Qy) (wp : Option Addr) (wc : Nat) (cp : Option Addr) (cc : Nat) (np : Option Addr) (nc : Nat) (gp : Option Addr) (gc : Nat) (ap : Option Addr) (ac : Nat) (z1 : Option Addr) (zn z2 : Nat) (w : World) :
    Calls Tryz.prog 22 #[.agg (qyC q wp wc cp cc np nc gp gc ap ac), .slice z1 zn z2] w fun e w' => ∃ sb, e = .returned (.agg (tlV sb)) ∧ w.heap.size ≤ sb ∧ Aside (Blk w' sb (svC (.slice z1 zn z2) q.whr wp wc (.slice cp q.cols.length cc)) 92) ∧ Below w.heap.size w w' := by
  have hQ := qv_of q wp wc cp cc np nc gp gc ap ac
  have hW : ∀ (j : Nat) (v : Value), (xC q.whr wp wc)[j]? = some v → (qyC q wp wc cp cc np nc gp gc ap ac)[1 + j]? = some v := fun j v hv => by
    have hj : j < 7 := by have := (Array.getElem?_eq_some_iff.1 hv).1; simpa using this
    have : j = 0 ∨ j = 1 ∨ j = 2 ∨ j = 3 ∨ j = 4 ∨ j = 5 ∨ j = 6 := by omega
    rcases this with rfl | rfl | rfl | rfl | rfl | rfl | rfl
    all_goals (simp at hv; subst hv; rfl)
  generalize qyC q wp wc cp cc np nc gp gc ap ac = QC at hQ hW ⊢
  have hc8 := hQ.c8
  have hbk : Blk ((w.alloc (.cells QC 39)).alloc (.cells #[.nilFunc, .nilFunc] 56)) w.heap.size QC 39 := (blk_alloc w QC _).on ((Below.refl _ _).alloc (Nat.le_refl _) _)
  have hc := hbk.cell 8
  rw [hc8] at hc
  have hldx := @ld_ex _ _ 1 _ _ _ hbk hW rfl
  clear hW hQ hc8 hbk
  go_enter Tryz.func22, Tryz.ntmps22
  go_wp2_with (refine hldx rfl _ rfl rfl ?_)
  go_wp2
  refine bodyPost_ret (v := .agg (tlV (w.heap.size + 1 + 1))) (by simp [results, Tryz.results22, go_sem]) rfl ⟨w.heap.size + 1 + 1, rfl, by omega, (show Aside _ from blk_at (by simp)), (((Below.refl w.heap.size w).alloc (Nat.le_refl _) _).alloc (by simp) _).alloc (by simp; omega) _⟩
end Go.Proofs.YticdcnbeemkapaaGreatDoor
