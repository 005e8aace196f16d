/-
  The walk of EvalTells: what any operation comes to, of any values, and any expression, of any row.
-/
import Derived.Test.YtpgadbpkednjkaaGreatDoorRefEv
import Derived.Test.YtpgadbpkednjkaaGreatDoorRefRw
import Derived.Test.YtpgadbpkednjkaaGreatDoorLo9
import Derived.Deep.CutBlock
import Derived.Deep.DeepCutAuto
import Derived.Deep.QuietTactic
namespace Go.Proofs.YtpgadbpkednjkaaGreatDoor
open Go.RowKit Go.BigFrame
set_option linter.unusedVariables false

theorem same_k (k : Int) (w : World) (hg : w.cell? ⟨0, 0, none⟩ = some (.iface 191 (.agg #[.pointer (some ⟨14, 38, none⟩)]))) :
    Calls Tryz.prog 10 #[errV k, .int .i64 k] w fun e w' => e = .returned (.bool true) ∧ Below w.heap.size w w' := by
  by_cases hk : k = 0
  · subst hk
    exact (same_nil 0 w).mono fun e w' hh => ⟨by rw [hh.1]; rfl, by rw [hh.2]; exact Below.refl _ _⟩
  · rw [errV, if_neg hk]
    exact (same_err k k w hg).mono fun e w' hh => ⟨by rw [hh.1]; simp, hh.2⟩
/-- Three cells, kept, that may be written. -/
def At3 (W : World) (b : Nat) (t k : Int) (s : ByteArray) : Prop := W.cell? ⟨b, 0, none⟩ = some (.int .i64 t) ∧ W.cell? ⟨b, 1, none⟩ = some (.int .i64 k) ∧ W.cell? ⟨b, 2, none⟩ = some (.string s) ∧ b < W.heap.size ∧ ∀ o, W.frozen? ⟨b, o, none⟩ = false
theorem At3.on {W W' : World} {b : Nat} {t k : Int} {s : ByteArray} (h : At3 W b t k s) (hb : Below W.heap.size W W') : At3 W' b t k s :=
  ⟨by rw [hb.cell (p := ⟨b, 0, none⟩) h.2.2.2.1]; exact h.1, by rw [hb.cell (p := ⟨b, 1, none⟩) h.2.2.2.1]; exact h.2.1, by rw [hb.cell (p := ⟨b, 2, none⟩) h.2.2.2.1]; exact h.2.2.1, by have := hb.size; have := h.2.2.2.1; omega, fun o => by rw [hb.frozen (p := ⟨b, o, none⟩) h.2.2.2.1]; exact h.2.2.2.2 o⟩
theorem At3.new (W : World) (t k : Int) (s : ByteArray) : At3 (W.alloc (.cells #[.int .i64 t, .int .i64 k, .string s] 23)) W.heap.size t k s :=
  ⟨by rw [World.cell?_alloc_at _ _ _ _ rfl]; rfl, by rw [World.cell?_alloc_at _ _ _ _ rfl]; rfl, by rw [World.cell?_alloc_at _ _ _ _ rfl]; rfl, by simp, fun o => by rw [World.frozen?_alloc_at _ _ _ _ rfl]⟩
/-- The same, to be looked at alone. -/
def Is3 (W : World) (b : Nat) (t k : Int) (s : ByteArray) : Prop := W.cell? ⟨b, 0, none⟩ = some (.int .i64 t) ∧ W.cell? ⟨b, 1, none⟩ = some (.int .i64 k) ∧ W.cell? ⟨b, 2, none⟩ = some (.string s) ∧ b < W.heap.size
theorem At3.is {W : World} {b : Nat} {t k : Int} {s : ByteArray} (h : At3 W b t k s) : Is3 W b t k s := ⟨h.1, h.2.1, h.2.2.1, h.2.2.2.1⟩
theorem Is3.on {W W' : World} {b : Nat} {t k : Int} {s : ByteArray} (h : Is3 W b t k s) (hb : Below W.heap.size W W') : Is3 W' b t k s :=
  ⟨by rw [hb.cell (p := ⟨b, 0, none⟩) h.2.2.2]; exact h.1, by rw [hb.cell (p := ⟨b, 1, none⟩) h.2.2.2]; exact h.2.1, by rw [hb.cell (p := ⟨b, 2, none⟩) h.2.2.2]; exact h.2.2.1, by have := hb.size; have := h.2.2.2; omega⟩
theorem Is3.set {W : World} {b : Nat} {t k t' k' : Int} {s s' : ByteArray} (h : Is3 W b t k s) : Is3 (((W.setCell ⟨b, 0, none⟩ (.int .i64 t')).setCell ⟨b, 1, none⟩ (.int .i64 k')).setCell ⟨b, 2, none⟩ (.string s')) b t' k' s' := by
  obtain ⟨c0, c1, c2, hl⟩ := h
  refine ⟨?_, ?_, ?_, by simpa [World.setCell] using hl⟩ <;> simp [World.cell?_setCell_other, World.cell?_setCell_same, c0, c1, c2]
theorem Is3.set_other {W : World} {b c : Nat} {t k : Int} {s : ByteArray} (h : Is3 W b t k s) (hne : b ≠ c) (x y z : Value) : Is3 (((W.setCell ⟨c, 0, none⟩ x).setCell ⟨c, 1, none⟩ y).setCell ⟨c, 2, none⟩ z) b t k s := by
  obtain ⟨c0, c1, c2, hl⟩ := h
  refine ⟨?_, ?_, ?_, by simpa [World.setCell] using hl⟩ <;> simp [World.cell?_setCell_other, c0, c1, c2]
/-- Types one behind the other, in a list that the walk owns. -/
theorem vl_take {vs : List V3} {k : Nat} (h : k < vs.length) : (vs.take (k + 1)).map (·.1) = (vs.take k).map (·.1) ++ [vs[k].1] := (map_take h).symm
/-- What the values' faults, and the rule's, say of Do. -/
theorem do_parts {op : List UInt8} {vs : List V3} {T K E : Int} {S : ByteArray} (h : doP op vs = ((T, K, S), E)) :
    ((vlE vs ≠ 0 ∨ (ruleP op (vs.map (·.1))).2 ≠ 0) → T = 0 ∧ K = 0 ∧ S = ⟨#[]⟩ ∧ E = (if vlE vs ≠ 0 then vlE vs else (ruleP op (vs.map (·.1))).2)) ∧ (vlE vs = 0 → (ruleP op (vs.map (·.1))).2 = 0 → appP op vs = ((T, K, S), E)) := by
  rw [doP] at h
  refine ⟨fun h1 => ?_, fun h1 h2 => ?_⟩
  · by_cases hv : vlE vs = 0
    · rw [if_neg (by simpa using hv), if_pos (h1.resolve_left (fun h => h hv))] at h
      simp only [noV, Prod.mk.injEq] at h
      obtain ⟨⟨rfl, rfl, rfl⟩, rfl⟩ := h
      exact ⟨rfl, rfl, rfl, by rw [if_neg (by simpa using hv)]⟩
    · rw [if_pos hv] at h
      simp only [noV, Prod.mk.injEq] at h
      obtain ⟨⟨rfl, rfl, rfl⟩, rfl⟩ := h
      exact ⟨rfl, rfl, rfl, by rw [if_pos hv]⟩
  · rwa [if_neg (by simpa using h1), if_neg (by simpa using h2)] at h
set_option maxHeartbeats 16000000 in
set_option maxRecDepth 20000 in
theorem tells_eval (op : ByteArray) (p : Option Addr) (c N : Nat) (vs : List V3) (x : Ex) (lo : Nat → Prop) (v vl vr : Value) (zs : List (ByteArray × Int)) (rs : List V3) (w : World) (henv : KEnv w) (hN : vs.length = N) (hl : N ≤ 1048576) (hvs : ValsAt w p vs) (hsv : SizedV vs) (hx : ExIn w lo v x) (hsz : (x.pre 1).length ≤ 1048576) (hxb : ExB x) (hcv : ColsV w vl zs) (hrv : ValsV w vr rs) (hrs : SizedV rs) :
    Calls Tryz.prog 5 #[.string op, .slice p N c, v, vl, vr] w fun e' w' => e' = .returned (.bool true) ∧ Below w.heap.size w w' := by
  obtain ⟨o1, n1, t1, k1, s1, p1, m1, c1, a1, rfl⟩ := hx.agg
  obtain ⟨i0, hi, hzi0, hzi1, hzi2⟩ := info_parts info_int
  have b0 : Below w.heap.size w (w.alloc (.cells #[.string o1, .string n1, .int .i64 t1, .int .i64 k1, .string s1, .slice p1 m1 c1, .int .i64 a1] 26)) := (Below.refl _ w).alloc (Nat.le_refl _) _
  have E0 : Hid (∀ W, Below (w.heap.size + 1) (w.alloc (.cells #[.string o1, .string n1, .int .i64 t1, .int .i64 k1, .string s1, .slice p1 m1 c1, .int .i64 a1] 26)) W → (∀ i, W.cell? ⟨w.heap.size, i, none⟩ = (#[.string o1, .string n1, .int .i64 t1, .int .i64 k1, .string s1, .slice p1 m1 c1, .int .i64 a1] : Array Value)[i]?) ∧ w.heap.size < W.heap.size ∧ Below w.heap.size w W) := fun W hb => by
    obtain ⟨h1, _, h3⟩ := box_at w _ _ hb (Nat.lt_succ_self _)
    exact ⟨h1, h3, b0.trans (hb.mono (Nat.le_succ _))⟩
  obtain ⟨Td, Kd, Sd, Ed, hdo⟩ : ∃ Td Kd Sd Ed, doP op.data.toList vs = ((Td, Kd, Sd), Ed) := ⟨_, _, _, _, rfl⟩
  obtain ⟨te, ke, se, Ee, hev⟩ : ∃ te ke se Ee, evP zs rs x = ((te, ke, se), Ee) := ⟨_, _, _, _, rfl⟩
  obtain ⟨TR, ER, hru⟩ : ∃ TR ER, ruleP op.data.toList (vs.map (·.1)) = (TR, ER) := ⟨_, _, rfl⟩
  obtain ⟨X, F, AT, hof⟩ : ∃ X F AT, ofP zs x = (X, F, AT) := ⟨_, _, _, rfl⟩
  obtain ⟨VL, hVL⟩ : ∃ VL, vlE vs = VL := ⟨_, rfl⟩
  obtain ⟨RC, hRC⟩ : ∃ RC, rowChk zs rs = RC := ⟨_, rfl⟩
  obtain ⟨hd1, hd2⟩ := do_parts hdo
  rw [hVL, hru] at hd1 hd2
  simp only at hd1 hd2
  have DP1 : Hid (VL ≠ 0 ∨ ER ≠ 0 → Td = 0 ∧ Kd = 0 ∧ Sd = ⟨#[]⟩ ∧ Ed = (if VL ≠ 0 then VL else ER)) := hd1
  have cR : Aside (∀ W q cp, Below (w.heap.size + 1) (w.alloc (.cells #[.string o1, .string n1, .int .i64 t1, .int .i64 k1, .string s1, .slice p1 m1 c1, .int .i64 a1] 26)) W → IntsAt W q (vs.map (·.1)) → Calls Tryz.prog 18 #[.string op, .slice q N cp] W fun e w' => e = .returned (.tuple #[.int .i64 TR, .int .i64 ER]) ∧ Below (w.heap.size + 1) (w.alloc (.cells #[.string o1, .string n1, .int .i64 t1, .int .i64 k1, .string s1, .slice p1 m1 c1, .int .i64 a1] 26)) w') := fun W q cp hW hi =>
    (refRule_any op q cp N (vs.map (·.1)) W (by rw [List.length_map]; exact hN) (by omega) hi TR ER hru).mono fun e w' h => ⟨h.1, hW.trans (h.2.mono (E0.out W hW).2.1)⟩
  have cD : Aside (VL = 0 → ER = 0 → ∀ W, Below (w.heap.size + 1) (w.alloc (.cells #[.string o1, .string n1, .int .i64 t1, .int .i64 k1, .string s1, .slice p1 m1 c1, .int .i64 a1] 26)) W → Calls Tryz.prog 19 #[.string op, .slice p N c] W fun e w' => e = .returned (.tuple #[.agg #[.int .i64 Td, .int .i64 Kd, .string Sd], .int .i64 Ed]) ∧ Below W.heap.size W w') := fun h1 h2 W hW =>
    refDo_any op p c N vs W hN (hvs.on (E0.out W hW).2.2) (vlE_zero.1 (hVL.trans h1)) hsv TR (by rw [hru, h2]) Td Kd Sd Ed (hd2 h1 h2)
  have cE : Aside (∀ W, Below (w.heap.size + 1) (w.alloc (.cells #[.string o1, .string n1, .int .i64 t1, .int .i64 k1, .string s1, .slice p1 m1 c1, .int .i64 a1] 26)) W → Calls Tryz.prog 20 #[.string op, .slice p N c] W fun e w' => e = .returned (.tuple #[.agg #[.int .i64 Td, .int .i64 Kd, .string Sd], errV Ed]) ∧ Below W.heap.size W w') := fun W hW =>
    do_any op p c N vs W (henv.on (E0.out W hW).2.2).rules hN hl (hvs.on (E0.out W hW).2.2) hsv Td Kd Sd Ed hdo
  have cO : Aside (∀ W, Below (w.heap.size + 1) (w.alloc (.cells #[.string o1, .string n1, .int .i64 t1, .int .i64 k1, .string s1, .slice p1 m1 c1, .int .i64 a1] 26)) W → Calls Tryz.prog 21 #[.agg #[.string o1, .string n1, .int .i64 t1, .int .i64 k1, .string s1, .slice p1 m1 c1, .int .i64 a1], vl] W fun e w' => e = .returned (.tuple #[.int .i64 X, .int .i64 F, .int .i64 AT]) ∧ Below W.heap.size W w') := fun W hW =>
    refOf_any x lo _ vl zs W (hx.on (E0.out W hW).2.2) hsz (hcv.on (E0.out W hW).2.2) X F AT hof
  have cW : Aside (∀ W, Below (w.heap.size + 1) (w.alloc (.cells #[.string o1, .string n1, .int .i64 t1, .int .i64 k1, .string s1, .slice p1 m1 c1, .int .i64 a1] 26)) W → Calls Tryz.prog 22 #[vl, vr] W fun e w' => e = .returned (.int .i64 RC) ∧ Below W.heap.size W w') := fun W hW => by
    rw [← hRC]
    exact refRowV vl vr zs rs W (hcv.on (E0.out W hW).2.2) (hrv.on (E0.out W hW).2.2) hrs
  have hevp := hev
  rw [evP, hof, hRC] at hevp
  simp only at hevp
  have DP2 : Hid (F ≠ 0 ∨ RC ≠ 0 → te = 0 ∧ ke = 0 ∧ se = ⟨#[]⟩ ∧ Ee = (if F ≠ 0 then F else RC)) := fun h => by
    by_cases hF : F = 0
    · rw [if_neg (by simpa using hF), if_pos (h.resolve_left (fun h => h hF))] at hevp
      simp only [noV, Prod.mk.injEq] at hevp
      obtain ⟨⟨rfl, rfl, rfl⟩, rfl⟩ := hevp
      exact ⟨rfl, rfl, rfl, by rw [if_neg (by simpa using hF)]⟩
    · rw [if_pos hF] at hevp
      simp only [noV, Prod.mk.injEq] at hevp
      obtain ⟨⟨rfl, rfl, rfl⟩, rfl⟩ := hevp
      exact ⟨rfl, rfl, rfl, by rw [if_pos hF]⟩
  have cV : Aside (F = 0 → RC = 0 → ∀ W, Below (w.heap.size + 1) (w.alloc (.cells #[.string o1, .string n1, .int .i64 t1, .int .i64 k1, .string s1, .slice p1 m1 c1, .int .i64 a1] 26)) W → Calls Tryz.prog 23 #[.agg #[.string o1, .string n1, .int .i64 t1, .int .i64 k1, .string s1, .slice p1 m1 c1, .int .i64 a1], vl, vr] W fun e w' => e = .returned (.tuple #[.agg #[.int .i64 te, .int .i64 ke, .string se], .int .i64 Ee]) ∧ Below W.heap.size W w') := fun h1 h2 W hW => by
    rw [if_neg (by simpa using h1), if_neg (by simpa using h2)] at hevp
    obtain ⟨hcm, hck, hs, hty⟩ := cm_in (zs := zs) hxb hrs (by rw [hof]; exact h1) (hRC.trans h2)
    obtain ⟨hrow, _⟩ := rowR_of (hRC.trans h2) hrs
    obtain ⟨hz1, hz2, _⟩ := schE_zero hs
    obtain ⟨q, c, rfl, hcols⟩ := id hcv
    obtain ⟨q2, c2, rfl, hrm, hvals⟩ := id hrv
    rcases hcols with h | ⟨b, off, rfl, _, _, hco⟩
    · exact absurd h hz1
    rcases hvals with h | ⟨rb, ro, rfl, hrl, hrc⟩
    · exact absurd (hrow.1 ▸ h) hz1
    have hb := (E0.out W hW).2.2
    exact refEval_any (c := c) (rc := c2) (b := b) (off := off) (rb := rb) (ro := ro) hz2 hrow x 1 (ckP_zero hck).2 hxb (by rw [hty, hof]; exact h1) lo _ W te ke se Ee (hx.on hb) (hco.on hb) (RowAt.on ⟨hrl, hrc⟩ hb) hevp
  have cL : Aside (∀ W, Below (w.heap.size + 1) (w.alloc (.cells #[.string o1, .string n1, .int .i64 t1, .int .i64 k1, .string s1, .slice p1 m1 c1, .int .i64 a1] 26)) W → Calls Tryz.prog 24 #[.agg #[.string o1, .string n1, .int .i64 t1, .int .i64 k1, .string s1, .slice p1 m1 c1, .int .i64 a1], vl, vr] W fun e w' => e = .returned (.tuple #[.agg #[.int .i64 te, .int .i64 ke, .string se], errV Ee]) ∧ Below W.heap.size W w') := fun W hW =>
    eval_any x lo _ vl vr zs rs W (henv.on (E0.out W hW).2.2) (hx.on (E0.out W hW).2.2) hsz hxb (hcv.on (E0.out W hW).2.2) (hrv.on (E0.out W hW).2.2) hrs te ke se Ee hev
  have HET : Aside (∀ W, Below (w.heap.size + 1) (w.alloc (.cells #[.string o1, .string n1, .int .i64 t1, .int .i64 k1, .string s1, .slice p1 m1 c1, .int .i64 a1] 26)) W → W.cell? ⟨0, 0, none⟩ = some (.iface 191 (.agg #[.pointer (some ⟨14, 38, none⟩)]))) := fun W hW => (henv.on (E0.out W hW).2.2).et
  have HVS : Aside (∀ W, Below (w.heap.size + 1) (w.alloc (.cells #[.string o1, .string n1, .int .i64 t1, .int .i64 k1, .string s1, .slice p1 m1 c1, .int .i64 a1] 26)) W → ValsAt W p vs) := fun W hW => hvs.on (E0.out W hW).2.2
  have HSV : Hid (SizedV vs) := hsv
  have HN : Hid (vs.length = N) := hN
  have HVL : Hid (vlE vs = VL) := hVL
  have qT : (Td == Td) = true := by simp
  have qK : (Kd == Kd) = true := by simp
  have qS : (Sd.toList == Sd.toList) = true := by simp
  have qt : (te == te) = true := by simp
  have qk : (ke == ke) = true := by simp
  have qs : (se.toList == se.toList) = true := by simp
  have hvlo := hcv
  obtain ⟨vlq, vlc, rfl, _⟩ := hvlo
  have hvro := hrv
  obtain ⟨vrq, vrc, rfl, _⟩ := hvro
  clear henv hvs hsv hx hsz hxb hcv hrv hrs hdo hev hru hof hVL hRC hd1 hd2 hevp hN b0
  go_enter Tryz.func5, Tryz.ntmps5
  go_upto_block 0 with fail
  go_cut [11, 12, 13] (fun s11 s12 _ wx => ∃ (q : Option Addr) (m cp : Nat), s11 = .int .i64 VL ∧ s12 = .slice q m cp ∧ Aside (VL = 0 → m = N ∧ IntsAt wx q (vs.map (·.1))) ∧ Aside (Below (w.heap.size + 1) (w.alloc (.cells #[.string o1, .string n1, .int .i64 t1, .int .i64 k1, .string s1, .slice p1 m1 c1, .int .i64 a1] 26)) wx))
  case first => as_aux_lemma =>
    go_wp2_with fail
    go_loopg [11, 12, 13] N (fun gg s11 s12 s13 wr => ∃ (kk : Nat) (ff : Int) (q : Option Addr) (cp : Nat) (acc : List Int), kk ≤ N ∧ N - kk ≤ gg ∧ s13 = .int .i64 kk ∧ s11 = .int .i64 ff ∧ s12 = .slice q kk cp ∧ Aside (wr.ownsRow (w.heap.size + 1) 3 1 (.slice q kk cp) kk (acc.map fun t => .int .i64 t)) ∧ Aside (Below (w.heap.size + 1) (w.alloc (.cells #[.string o1, .string n1, .int .i64 t1, .int .i64 k1, .string s1, .slice p1 m1 c1, .int .i64 a1] 26)) wr) ∧ Hid (acc = (vs.take kk).map (·.1)) ∧ Hid ((ff = 0 → vlE (vs.drop kk) = VL) ∧ (ff ≠ 0 → VL = ff)))
    case atStart => exact ⟨0, 0, none, 0, [], Nat.zero_le _, by omega, rfl, rfl, rfl, (show Aside _ from ⟨rfl, .inl ⟨rfl, rfl⟩⟩), (show Aside _ from Below.refl _ _), (show Hid _ from rfl), (show Hid _ from ⟨fun _ => HVL.out, fun h => absurd rfl h⟩)⟩
    case round =>
      obtain ⟨kk, ff, q, cp, acc, hkk, hg, rfl, rfl, rfl, OW, BW, HAC, HF⟩ := hrel
      by_cases hff : ff = 0
      · subst hff
        by_cases hlt : kk < N
        · have hltz : (kk : Int) < (N : Int) := by omega
          have k0 : (0 : Int) ≤ (kk : Int) := by omega
          have hk2 : kk < vs.length := by rw [HN.out]; exact hlt
          have hzr := (E0.out wr BW.out).2.1
          rcases HVS.out wr BW.out with h | ⟨b, off, rfl, hbl, hc⟩
          · exact absurd h (by omega)
          obtain ⟨d0, d1, d2⟩ := hc kk hk2
          obtain ⟨hs1, hs2⟩ := HSV.out _ (List.getElem_mem hk2)
          have HA : Hid (vlE (vs.drop kk) = _) := vlE_at hk2
          have HT : Hid ((vs.take (kk + 1)).map (·.1) = (vs.take kk).map (·.1) ++ [vs[kk].1]) := vl_take hk2
          generalize hy : vs[kk] = y at d0 d1 d2 HA HT hs1 hs2
          obtain ⟨yt, yn, ys⟩ := y
          simp only at d0 d1 d2 HA HT hs1 hs2
          have cC := refVal_any yt yn ys wr hs1
          obtain ⟨ce, hce⟩ : ∃ ce, chk yt yn ys.data.toList = ce := ⟨_, rfl⟩
          rw [hce] at cC
          have HF2 : Hid ((ce = 0 → vlE (vs.drop (kk + 1)) = VL) ∧ (ce ≠ 0 → VL = ce)) := by
            have h1 := HF.out.1 rfl
            rw [HA.out, hce] at h1
            refine ⟨fun h => ?_, fun h => ?_⟩
            · rwa [if_neg (by simpa using h)] at h1
            · rw [if_pos h] at h1; exact h1.symm
          have HAC2 : Hid (acc ++ [yt] = (vs.take (kk + 1)).map (·.1)) := by
            show _ = _
            rw [HT.out, HAC.out]
          clear hc hy hce HA HF HT HAC
          go_wp2_with fail
          refine cC.mono ?_
          rintro e' w4 ⟨rfl, b4⟩
          have kA : ∀ o, w4.cell? ⟨b, o, none⟩ = wr.cell? ⟨b, o, none⟩ := fun o => b4.cell (p := ⟨b, o, none⟩) hbl
          rw [← kA] at d0 d1 d2
          have hbl4 : b < w4.heap.size := by have := b4.size; omega
          have hz4 : wr.heap.size ≤ w4.heap.size := b4.size
          have OW4 := own_but OW.out (But.of_below' (r := 0) b4 (Nat.zero_le _)) (by omega)
          have BW5 : Aside (Below (w.heap.size + 1) (w.alloc (.cells #[.string o1, .string n1, .int .i64 t1, .int .i64 k1, .string s1, .slice p1 m1 c1, .int .i64 a1] 26)) w4) := BW.out.trans (b4.mono hzr)
          clear cC b4 kA OW
          go_wp2_with (at_builtin; refine wpList_append_own _ rfl _ _ 48 rfl (w.heap.size + 1) 3 i0 (.int .i64 0) 1 8 Tryz.underlying48 hi hzi0 hzi1 hzi2 rfl (by decide) _ _ _ rfl (OW4.alloc _) ⟨w4.heap.size, 0, none⟩ 1 1 [.int .i64 yt] rfl rfl ?c1 ?c2 ?c3 ?c4 ?c5 ?_)
          case c1 =>
            intro i u hu
            rw [Go.WideShapes.add_plain, World.cell?_alloc_at _ _ _ _ (by simp)]
            simpa using hu
          case c2 =>
            intro u hu
            simp at hu
            subst hu; rfl
          case c3 => simp [maxLen]; omega
          case c4 => omega
          case c5 => simp; omega
          · intro v' w5 hown' hgrow _
            have hlo3 : ∀ j, (Value.slice q kk cp).ownBlock = some j → w.heap.size + 1 ≤ j := fun j hj => (OW4.lt j hj).1
            have bg : Below (w.heap.size + 1) w4 w5 := ((Below.refl _ _).alloc (by omega) _).grown hgrow (by simp; omega) hlo3
            have BW6 : Aside (Below (w.heap.size + 1) (w.alloc (.cells #[.string o1, .string n1, .int .i64 t1, .int .i64 k1, .string s1, .slice p1 m1 c1, .int .i64 a1] 26)) w5) := BW5.out.trans bg
            obtain ⟨q5, c5, rfl⟩ := lown_slice hown'
            have ow6 : w5.ownsRow (w.heap.size + 1) 3 1 (.slice q5 (kk + 1) c5) (kk + 1) ((acc ++ [yt]).map fun t => .int .i64 t) := by rw [List.map_append]; exact hown'
            clear hown' hgrow OW4 bg BW5
            go_wp2
            go_roundg (N - (kk + 1))
            case measure => omega
            case rel => exact ⟨kk + 1, ce, q5, c5, acc ++ [yt], by omega, by omega, by go_num, rfl, rfl, (show Aside _ from ow6), BW6, HAC2, HF2⟩
        · have hltz : ¬ (kk : Int) < (N : Int) := by omega
          obtain rfl : kk = N := by omega
          have hv0 : VL = 0 := by
            rw [← HF.out.1 rfl, List.drop_eq_nil_of_le (by rw [HN.out]; exact Nat.le_refl _)]; rfl
          have hints : IntsAt wr q (vs.map (·.1)) := by
            have ha : acc = vs.map (·.1) := by rw [HAC.out, List.take_of_length_le (by rw [HN.out]; exact Nat.le_refl _)]
            rw [← ha]
            exact ownInts (by rw [ha, List.length_map, HN.out]) OW.out
          subst hv0
          clear HF OW HAC
          go_wp2
          go_meet
          case rel => exact ⟨q, _, cp, rfl, rfl, (show Aside _ from fun _ => ⟨rfl, hints⟩), BW⟩
      · have hfb : (ff == 0) = false := by simpa using hff
        obtain rfl := HF.out.2 hff
        clear HF OW HAC
        by_cases hlt : kk < N
        · have hltz : (kk : Int) < (N : Int) := by omega
          go_wp2
          go_meet
          case rel => exact ⟨q, _, cp, rfl, rfl, (show Aside _ from fun h => absurd h hff), BW⟩
        · have hltz : ¬ (kk : Int) < (N : Int) := by omega
          go_wp2
          go_meet
          case rel => exact ⟨q, _, cp, rfl, rfl, (show Aside _ from fun h => absurd h hff), BW⟩
  case rest => as_aux_lemma =>
    obtain ⟨q, m, cp, rfl, rfl, HI, BA⟩ := hcut
    rename World => wA
    obtain ⟨F1, hF1⟩ : ∃ F1, (if VL ≠ 0 then VL else ER) = F1 := ⟨_, rfl⟩
    have HF1 : Hid ((if VL ≠ 0 then VL else ER) = F1) := hF1
    clear hF1
    go_upto_if 45 with fail
    go_cut [11] (fun s11 wx => s11 = .int .i64 F1 ∧ Aside (Below (w.heap.size + 1) (w.alloc (.cells #[.string o1, .string n1, .int .i64 t1, .int .i64 k1, .string s1, .slice p1 m1 c1, .int .i64 a1] 26)) wx))
    case first => as_aux_lemma =>
      by_cases hv : VL = 0
      · subst hv
        obtain ⟨rfl, hints⟩ := HI.out rfl
        have hf : ER = F1 := by rw [← HF1.out, if_neg (by simp)]
        subst hf
        have cR2 := cR.out wA q cp BA.out hints
        go_wp2_with fail
        refine cR2.mono ?_
        rintro e' w2 ⟨rfl, b2⟩
        go_wp2
        go_meet
        case rel => exact ⟨rfl, b2⟩
      · have hvb : (VL == 0) = false := by simpa using hv
        have hf : VL = F1 := by rw [← HF1.out, if_pos hv]
        subst hf
        go_wp2
        go_meet
        case rel => exact ⟨rfl, BA⟩
    case rest => as_aux_lemma =>
      obtain ⟨rfl, BB⟩ := hcut
      rename World => wB
      clear BA HI
      have hzB := (E0.out wB BB.out).2.1
      have BC : Aside (Below (w.heap.size + 1) (w.alloc (.cells #[.string o1, .string n1, .int .i64 t1, .int .i64 k1, .string s1, .slice p1 m1 c1, .int .i64 a1] 26)) (wB.alloc (.cells #[.int .i64 0, .int .i64 0, .string ⟨#[]⟩] 23))) := BB.out.alloc hzB _
      have A0 : At3 (wB.alloc (.cells #[.int .i64 0, .int .i64 0, .string ⟨#[]⟩] 23)) wB.heap.size 0 0 ⟨#[]⟩ := At3.new wB 0 0 ⟨#[]⟩
      go_upto_if 53 with fail
      go_cut [11] (fun s11 wx => s11 = .int .i64 Ed ∧ Aside (Is3 wx wB.heap.size Td Kd Sd) ∧ Aside (Below (w.heap.size + 1) (w.alloc (.cells #[.string o1, .string n1, .int .i64 t1, .int .i64 k1, .string s1, .slice p1 m1 c1, .int .i64 a1] 26)) wx))
      case first => as_aux_lemma =>
        by_cases hf : F1 = 0
        · have hv : VL = 0 := by
            by_cases h : VL = 0
            · exact h
            · have := HF1.out; rw [if_pos h, hf] at this; exact this
          have he : ER = 0 := by have := HF1.out; rw [if_neg (by simpa using hv), hf] at this; exact this
          have cD2 := cD.out hv he _ BC.out
          subst hf
          go_wp2_with fail
          refine cD2.mono ?_
          rintro e' w2 ⟨rfl, b2⟩
          have A2 := A0.on b2
          obtain ⟨d0, d1, d2, hl2, dff⟩ := id A2
          have B2 : Below (w.heap.size + 1) (w.alloc (.cells #[.string o1, .string n1, .int .i64 t1, .int .i64 k1, .string s1, .slice p1 m1 c1, .int .i64 a1] 26)) w2 := BC.out.trans (b2.mono (by simp; omega))
          go_wp2
          go_meet
          case rel => exact ⟨rfl, (show Aside _ from Is3.set A2.is), (show Aside _ from ((B2.setCell (p := ⟨wB.heap.size, 0, none⟩) (by simp; omega) _).setCell (p := ⟨wB.heap.size, 1, none⟩) (by simp; omega) _).setCell (p := ⟨wB.heap.size, 2, none⟩) (by simp; omega) _)⟩
        · have hfb : (F1 == 0) = false := by simpa using hf
          obtain ⟨rfl, rfl, rfl, he⟩ := DP1.out (by
            by_cases h : VL = 0
            · refine .inr fun h2 => hf ?_
              rw [← HF1.out, if_neg (by simpa using h), h2]
            · exact .inl h)
          obtain rfl : F1 = Ed := by rw [he, HF1.out]
          clear he
          go_wp2
          go_meet
          case rel => exact ⟨rfl, (show Aside _ from A0.is), BC⟩
      case rest => as_aux_lemma =>
        obtain ⟨rfl, HA3, BD⟩ := hcut
        rename World => wC
        have cE3 := cE.out wC BD.out
        have hzC := (E0.out wC BD.out).2.1
        clear A0 BC cR cD cE DP1 HF1
        go_wp2_with fail
        refine cE3.mono ?_
        rintro e' w3 ⟨rfl, b3⟩
        have HW : Aside (Is3 (w3.alloc (.cells #[.int .i64 Td, .int .i64 Kd, .string Sd] 23)) wB.heap.size Td Kd Sd) := (HA3.out.on b3).on ((Below.refl _ _).alloc (Nat.le_refl _) _)
        have HG : Aside (Is3 (w3.alloc (.cells #[.int .i64 Td, .int .i64 Kd, .string Sd] 23)) w3.heap.size Td Kd Sd) := (At3.new w3 Td Kd Sd).is
        have B3 : Aside (Below (w.heap.size + 1) (w.alloc (.cells #[.string o1, .string n1, .int .i64 t1, .int .i64 k1, .string s1, .slice p1 m1 c1, .int .i64 a1] 26)) (w3.alloc (.cells #[.int .i64 Td, .int .i64 Kd, .string Sd] 23))) := (BD.out.trans (b3.mono hzC)).alloc (by have := b3.size; omega) _
        have cS := same_k Ed _ (HET.out _ B3.out)
        have hz3 := (E0.out _ B3.out).2.1
        clear cE3 HA3 BD b3
        go_wp2_with fail
        refine cS.mono ?_
        rintro e' w4 ⟨rfl, b4⟩
        have HW4 : Aside (Is3 w4 wB.heap.size Td Kd Sd) := HW.out.on b4
        have HG4 : Aside (Is3 w4 w3.heap.size Td Kd Sd) := HG.out.on b4
        have B4 : Aside (Below (w.heap.size + 1) (w.alloc (.cells #[.string o1, .string n1, .int .i64 t1, .int .i64 k1, .string s1, .slice p1 m1 c1, .int .i64 a1] 26)) w4) := B3.out.trans (b4.mono hz3)
        obtain ⟨hB, hz4, _⟩ := E0.out w4 B4.out
        have g0 : w4.cell? ⟨w.heap.size, 0, none⟩ = some (.string o1) := hB 0
        have g1 : w4.cell? ⟨w.heap.size, 1, none⟩ = some (.string n1) := hB 1
        have g2 : w4.cell? ⟨w.heap.size, 2, none⟩ = some (.int .i64 t1) := hB 2
        have g3 : w4.cell? ⟨w.heap.size, 3, none⟩ = some (.int .i64 k1) := hB 3
        have g4 : w4.cell? ⟨w.heap.size, 4, none⟩ = some (.string s1) := hB 4
        have g5 : w4.cell? ⟨w.heap.size, 5, none⟩ = some (.slice p1 m1 c1) := hB 5
        have g6 : w4.cell? ⟨w.heap.size, 6, none⟩ = some (.int .i64 a1) := hB 6
        have cO4 := cO.out w4 B4.out
        clear cS b4 HW HG B3 hB
        go_wp2_with fail
        refine cO4.mono ?_
        rintro e' w5 ⟨rfl, b5⟩
        have HW5 : Aside (Is3 w5 wB.heap.size Td Kd Sd) := HW4.out.on b5
        have HG5 : Aside (Is3 w5 w3.heap.size Td Kd Sd) := HG4.out.on b5
        have B5 : Aside (Below (w.heap.size + 1) (w.alloc (.cells #[.string o1, .string n1, .int .i64 t1, .int .i64 k1, .string s1, .slice p1 m1 c1, .int .i64 a1] 26)) w5) := B4.out.trans (b5.mono hz4)
        clear cO4 b5 HW4 HG4 B4 g0 g1 g2 g3 g4 g5 g6 cO
        obtain ⟨F2, hF2⟩ : ∃ F2, (if F ≠ 0 then F else RC) = F2 := ⟨_, rfl⟩
        have HF2 : Hid ((if F ≠ 0 then F else RC) = F2) := hF2
        clear hF2
        go_upto_if 77 with fail
        go_cut [11] (fun s11 wx => s11 = .int .i64 F2 ∧ Aside (Below w5.heap.size w5 wx))
        case first => as_aux_lemma =>
          by_cases hf : F = 0
          · subst hf
            obtain rfl : RC = F2 := by rw [← HF2.out, if_neg (by simp)]
            have cW5 := cW.out w5 B5.out
            go_wp2_with fail
            refine cW5.mono ?_
            rintro e' w6 ⟨rfl, b6⟩
            go_wp2
            go_meet
            case rel => exact ⟨rfl, b6⟩
          · have hfb : (F == 0) = false := by simpa using hf
            obtain rfl : F = F2 := by rw [← HF2.out, if_pos hf]
            go_wp2
            go_meet
            case rel => exact ⟨rfl, (show Aside _ from Below.refl _ _)⟩
        case rest => as_aux_lemma =>
          obtain ⟨rfl, b6⟩ := hcut
          rename World => wD
          have hz5 := (E0.out w5 B5.out).2.1
          have HW6 : Aside (Is3 (wD.alloc (.cells #[.int .i64 0, .int .i64 0, .string ⟨#[]⟩] 23)) wB.heap.size Td Kd Sd) := (HW5.out.on b6.out).on ((Below.refl _ _).alloc (Nat.le_refl _) _)
          have HG6 : Aside (Is3 (wD.alloc (.cells #[.int .i64 0, .int .i64 0, .string ⟨#[]⟩] 23)) w3.heap.size Td Kd Sd) := (HG5.out.on b6.out).on ((Below.refl _ _).alloc (Nat.le_refl _) _)
          have hlB : wB.heap.size < wD.heap.size := (HW5.out.on b6.out).2.2.2
          have hl3 : w3.heap.size < wD.heap.size := (HG5.out.on b6.out).2.2.2
          have BD0 : Below (w.heap.size + 1) (w.alloc (.cells #[.string o1, .string n1, .int .i64 t1, .int .i64 k1, .string s1, .slice p1 m1 c1, .int .i64 a1] 26)) wD := B5.out.trans (b6.out.mono hz5)
          have hzD := (E0.out wD BD0).2.1
          have B6 : Aside (Below (w.heap.size + 1) (w.alloc (.cells #[.string o1, .string n1, .int .i64 t1, .int .i64 k1, .string s1, .slice p1 m1 c1, .int .i64 a1] 26)) (wD.alloc (.cells #[.int .i64 0, .int .i64 0, .string ⟨#[]⟩] 23))) := BD0.alloc hzD _
          have A0 : At3 (wD.alloc (.cells #[.int .i64 0, .int .i64 0, .string ⟨#[]⟩] 23)) wD.heap.size 0 0 ⟨#[]⟩ := At3.new wD 0 0 ⟨#[]⟩
          clear BD0 b6 HW5 HG5 B5 cW
          obtain ⟨hB, hz6, _⟩ := E0.out _ B6.out
          have g0 : (wD.alloc (.cells #[.int .i64 0, .int .i64 0, .string ⟨#[]⟩] 23)).cell? ⟨w.heap.size, 0, none⟩ = some (.string o1) := hB 0
          have g1 : (wD.alloc (.cells #[.int .i64 0, .int .i64 0, .string ⟨#[]⟩] 23)).cell? ⟨w.heap.size, 1, none⟩ = some (.string n1) := hB 1
          have g2 : (wD.alloc (.cells #[.int .i64 0, .int .i64 0, .string ⟨#[]⟩] 23)).cell? ⟨w.heap.size, 2, none⟩ = some (.int .i64 t1) := hB 2
          have g3 : (wD.alloc (.cells #[.int .i64 0, .int .i64 0, .string ⟨#[]⟩] 23)).cell? ⟨w.heap.size, 3, none⟩ = some (.int .i64 k1) := hB 3
          have g4 : (wD.alloc (.cells #[.int .i64 0, .int .i64 0, .string ⟨#[]⟩] 23)).cell? ⟨w.heap.size, 4, none⟩ = some (.string s1) := hB 4
          have g5 : (wD.alloc (.cells #[.int .i64 0, .int .i64 0, .string ⟨#[]⟩] 23)).cell? ⟨w.heap.size, 5, none⟩ = some (.slice p1 m1 c1) := hB 5
          have g6 : (wD.alloc (.cells #[.int .i64 0, .int .i64 0, .string ⟨#[]⟩] 23)).cell? ⟨w.heap.size, 6, none⟩ = some (.int .i64 a1) := hB 6
          clear hB
          go_upto_if 82 with fail
          go_cut [11] (fun s11 wx => s11 = .int .i64 Ee ∧ Aside (Is3 wx wD.heap.size te ke se) ∧ Aside (Is3 wx wB.heap.size Td Kd Sd) ∧ Aside (Is3 wx w3.heap.size Td Kd Sd) ∧ Aside (Below (w.heap.size + 1) (w.alloc (.cells #[.string o1, .string n1, .int .i64 t1, .int .i64 k1, .string s1, .slice p1 m1 c1, .int .i64 a1] 26)) wx))
          case first => as_aux_lemma =>
            by_cases hf : F2 = 0
            · have hv : F = 0 := by
                by_cases h : F = 0
                · exact h
                · have := HF2.out; rw [if_pos h, hf] at this; exact this
              have he : RC = 0 := by have := HF2.out; rw [if_neg (by simpa using hv), hf] at this; exact this
              have cV2 := cV.out hv he _ B6.out
              subst hf
              go_wp2_with fail
              refine cV2.mono ?_
              rintro e' w7 ⟨rfl, b7⟩
              have A2 := A0.on b7
              have HW7 := HW6.out.on b7
              have HG7 := HG6.out.on b7
              obtain ⟨d0, d1, d2, hl2, dff⟩ := id A2
              have B7 : Below (w.heap.size + 1) (w.alloc (.cells #[.string o1, .string n1, .int .i64 t1, .int .i64 k1, .string s1, .slice p1 m1 c1, .int .i64 a1] 26)) w7 := B6.out.trans (b7.mono (by simp; omega))
              go_wp2
              go_meet
              case rel => exact ⟨rfl, (show Aside _ from Is3.set A2.is), (show Aside _ from HW7.set_other (by omega) _ _ _), (show Aside _ from HG7.set_other (by omega) _ _ _), (show Aside _ from ((B7.setCell (p := ⟨wD.heap.size, 0, none⟩) (by simp; omega) _).setCell (p := ⟨wD.heap.size, 1, none⟩) (by simp; omega) _).setCell (p := ⟨wD.heap.size, 2, none⟩) (by simp; omega) _)⟩
            · have hfb : (F2 == 0) = false := by simpa using hf
              obtain ⟨rfl, rfl, rfl, he⟩ := DP2.out (by
                by_cases h : F = 0
                · refine .inr fun h2 => hf ?_
                  rw [← HF2.out, if_neg (by simpa using h), h2]
                · exact .inl h)
              obtain rfl : F2 = Ee := by rw [he, HF2.out]
              clear he
              go_wp2
              go_meet
              case rel => exact ⟨rfl, (show Aside _ from A0.is), HW6, HG6, B6⟩
          case rest => as_aux_lemma =>
            obtain ⟨rfl, HV8, HW8, HG8, B8⟩ := hcut
            rename World => wE
            clear g0 g1 g2 g3 g4 g5 g6 HW6 HG6 B6 A0 cV DP2 HF2
            obtain ⟨hB, hz8, _⟩ := E0.out _ B8.out
            have g0 : wE.cell? ⟨w.heap.size, 0, none⟩ = some (.string o1) := hB 0
            have g1 : wE.cell? ⟨w.heap.size, 1, none⟩ = some (.string n1) := hB 1
            have g2 : wE.cell? ⟨w.heap.size, 2, none⟩ = some (.int .i64 t1) := hB 2
            have g3 : wE.cell? ⟨w.heap.size, 3, none⟩ = some (.int .i64 k1) := hB 3
            have g4 : wE.cell? ⟨w.heap.size, 4, none⟩ = some (.string s1) := hB 4
            have g5 : wE.cell? ⟨w.heap.size, 5, none⟩ = some (.slice p1 m1 c1) := hB 5
            have g6 : wE.cell? ⟨w.heap.size, 6, none⟩ = some (.int .i64 a1) := hB 6
            have cL8 := cL.out wE B8.out
            clear hB
            go_wp2_with fail
            refine cL8.mono ?_
            rintro e' w9 ⟨rfl, b9⟩
            have B9 : Aside (Below (w.heap.size + 1) (w.alloc (.cells #[.string o1, .string n1, .int .i64 t1, .int .i64 k1, .string s1, .slice p1 m1 c1, .int .i64 a1] 26)) (w9.alloc (.cells #[.int .i64 te, .int .i64 ke, .string se] 23))) := (B8.out.trans (b9.mono hz8)).alloc (by have := b9.size; omega) _
            have HN9 : Aside (Is3 (w9.alloc (.cells #[.int .i64 te, .int .i64 ke, .string se] 23)) w9.heap.size te ke se) := (At3.new w9 te ke se).is
            have HV9 : Aside (Is3 (w9.alloc (.cells #[.int .i64 te, .int .i64 ke, .string se] 23)) wD.heap.size te ke se) := (HV8.out.on b9).on ((Below.refl _ _).alloc (Nat.le_refl _) _)
            have HW9 : Aside (Is3 (w9.alloc (.cells #[.int .i64 te, .int .i64 ke, .string se] 23)) wB.heap.size Td Kd Sd) := (HW8.out.on b9).on ((Below.refl _ _).alloc (Nat.le_refl _) _)
            have HG9 : Aside (Is3 (w9.alloc (.cells #[.int .i64 te, .int .i64 ke, .string se] 23)) w3.heap.size Td Kd Sd) := (HG8.out.on b9).on ((Below.refl _ _).alloc (Nat.le_refl _) _)
            have cS := same_k Ee _ (HET.out _ B9.out)
            have hz9 := (E0.out _ B9.out).2.1
            clear cL8 b9 HV8 HW8 HG8 B8 g0 g1 g2 g3 g4 g5 g6 cL
            go_wp2_with fail
            refine cS.mono ?_
            rintro e' wF ⟨rfl, bF⟩
            obtain ⟨x0, x1, x2, x3⟩ := HN9.out.on bF
            obtain ⟨y0, y1, y2, y3⟩ := HV9.out.on bF
            obtain ⟨z0, z1, z2, z3⟩ := HW9.out.on bF
            obtain ⟨u0, u1, u2, u3⟩ := HG9.out.on bF
            have BF := (E0.out _ (B9.out.trans (bF.mono hz9))).2.2
            clear cS bF HN9 HV9 HW9 HG9 B9
            go_wp2
            all_goals
              go_ret
              exact ⟨rfl, BF⟩
end Go.Proofs.YtpgadbpkednjkaaGreatDoor
