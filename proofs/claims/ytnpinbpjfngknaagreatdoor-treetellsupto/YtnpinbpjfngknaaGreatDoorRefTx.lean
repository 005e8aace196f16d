/-
  The document's Text (package sluiceref1): an expression that is right, as it is written.
-/
import Derived.Test.YtnpinbpjfngknaaGreatDoorLoP
import Derived.Test.YtnpinbpjfngknaaGreatDoorLoQ
import Derived.Test.YtnpinbpjfngknaaGreatDoorRef3
namespace Go.Proofs.YtnpinbpjfngknaaGreatDoor
open Go.RowKit Go.BigFrame
set_option linter.unusedVariables false

theorem boxT_at (w : World) (cs : Array Value) (t : TypeId) {W : World} {n : Nat} (hb : Below n (w.alloc (.cells cs t)) W) (hn : w.heap.size < n) : (∀ i, W.cell? ⟨w.heap.size, i, none⟩ = cs[i]?) ∧ w.heap.size < W.heap.size := by
  have hz := hb.size
  simp at hz
  exact ⟨fun i => by rw [hb.cell (p := ⟨w.heap.size, i, none⟩) hn, World.cell?_alloc_at _ _ _ _ rfl], by omega⟩
theorem bytesT {X Y : ByteArray} (h : X.data.toList = Y.data.toList) : X = Y := by
  apply ByteArray.ext
  exact Array.toList_inj.1 h
theorem sizeT {X : ByteArray} {l : List UInt8} (h : X.data.toList = l) : X.size = l.length := by
  rw [← h, Array.length_toList]; rfl
theorem inter_part (bt : List UInt8) : ∀ (ts : List (List UInt8)) (k : Nat) (h : k < ts.length), ts[k].length ≤ (inter bt ts).length
  | [], k, h => by simp at h
  | [t], 0, _ => by simp [inter]
  | [t], k + 1, h => by simp at h
  | t :: u :: ts, 0, _ => by simp [inter]
  | t :: u :: ts, k + 1, h => by
    have := inter_part bt (u :: ts) k (by simpa using h)
    simp only [inter, List.length_append, List.getElem_cons_succ]
    omega
theorem two_map {l : List Ex} (h : l.length = 2) : l.map txP = [txP (l[0]'(by omega)), txP (l[1]'(by omega))] := by
  match l, h with
  | [a, b], _ => rfl
set_option maxHeartbeats 8000000 in
set_option maxRecDepth 20000 in
theorem refText_any : ∀ (x : Ex) (d : Nat) (lo : Nat → Prop) (v : Value) (w : World) (X : ByteArray), (∀ q ∈ x.pre d, nodeE q.1 = 0) → (∀ q ∈ x.pre d, inI q.1.vn) → (txP x).length ≤ 1000000 → ExIn w lo v x → X.data.toList = txP x →
    Calls Tryz.prog 10 #[v] w fun e w' => e = .returned (.string X) ∧ Below w.heap.size w w' := by
  refine Ex.ind fun op nm vt vn vs pos l ih d lo v w X hpre hin hlen hx hX => ?_
  rw [ExIn] at hx
  obtain ⟨p, ca, rfl, ⟨hm, hmc⟩, ho, hnm, hvs, hparts⟩ := hx
  unfold maxLen at hm
  have hself := hpre (.node op nm vt vn vs pos l, d) (by rw [Ex.pre]; exact List.mem_cons_self ..)
  have hvn : inI vn := hin (.node op nm vt vn vs pos l, d) (by rw [Ex.pre]; exact List.mem_cons_self ..)
  obtain ⟨ha1, ha2, ha3⟩ := node_ok hself
  simp only [Ex.op, Ex.args, Ex.vt, Ex.vn, Ex.vs] at ha1 ha2 ha3
  have hol := apL_len _ ha1
  have hl3 : l.length ≤ 3 := by have := (apL_le _ ha1).1; omega
  have hsub : ∀ y ∈ l, ∀ q ∈ y.pre (d + 1), q ∈ (Ex.node op nm vt vn vs pos l).pre d := fun y hy q hq => by
    rw [Ex.pre]; exact List.mem_cons_of_mem _ (pres_mem hy q hq)
  have b1 : Below w.heap.size w (w.alloc (.cells #[.string op, .string nm, .int .i64 vt, .int .i64 vn, .string vs, .slice p l.length ca, .int .i64 pos] 26)) := (Below.refl _ w).alloc (Nat.le_refl _) _
  have HI : Aside (∀ y ∈ l, ∀ (lo : Nat → Prop) (v : Value) (w : World) (X : ByteArray), (txP y).length ≤ 1000000 → ExIn w lo v y → X.data.toList = txP y → Calls Tryz.prog 10 #[v] w fun e w' => e = .returned (.string X) ∧ Below w.heap.size w w') := fun y hy lo v w X h1 h2 h3 => ih y hy (d + 1) lo v w X (fun q hq => hpre q (hsub y hy q hq)) (fun q hq => hin q (hsub y hy q hq)) h1 h2 h3
  have HPA : Aside (l.length = 0 ∨ ∃ b off, p = some ⟨b, off, none⟩ ∧ b < w.heap.size ∧ lo b ∧ ExsIn w lo b off l) := hparts
  have box : Hid (∀ wr, Below (w.heap.size + 1) (w.alloc (.cells #[.string op, .string nm, .int .i64 vt, .int .i64 vn, .string vs, .slice p l.length ca, .int .i64 pos] 26)) wr → (wr.cell? ⟨w.heap.size, 0, none⟩ = some (.string op) ∧ wr.cell? ⟨w.heap.size, 1, none⟩ = some (.string nm) ∧ wr.cell? ⟨w.heap.size, 2, none⟩ = some (.int .i64 vt) ∧ wr.cell? ⟨w.heap.size, 3, none⟩ = some (.int .i64 vn) ∧ wr.cell? ⟨w.heap.size, 4, none⟩ = some (.string vs) ∧ wr.cell? ⟨w.heap.size, 5, none⟩ = some (.slice p l.length ca)) ∧ w.heap.size < wr.heap.size ∧ Below w.heap.size w wr) := fun wr hb => by
    obtain ⟨h1, h3⟩ := boxT_at w _ _ hb (Nat.lt_succ_self _)
    exact ⟨⟨h1 0, h1 1, h1 2, h1 3, h1 4, h1 5⟩, h3, b1.trans (hb.mono (Nat.le_succ _))⟩
  have HOP : Hid (op.data.toList.length ≤ 3) := hol
  have hos : op.size ≤ 3 := by rw [sizeT rfl]; exact hol
  have hck : op.data.toList = [118, 97, 108] → ckV vt vn vs.data.toList = 0 := fun h => ha3 (by rw [Lib.toList_data]; simpa using h)
  clear ih hparts hpre hin hsub hself ha3 hol
  by_cases hq1 : op.data.toList = [118, 97, 108]
  · have hc0 := hck hq1
    have hch : chk vt vn vs.data.toList = 0 := by
      rw [ckV] at hc0
      split at hc0
      · rename_i h; exact absurd hc0 h
      · rename_i h; simpa using h
    have g1 : (op.toList == [99, 111, 108]) = false := by rw [Lib.toList_data, hq1]; decide
    have g2 : (op.toList == [118, 97, 108]) = true := by rw [Lib.toList_data, hq1]; decide
    have hsh : (⟨(shown vt vn vs.data.toList).toArray⟩ : ByteArray) = X := bytesT (by rw [hX, txP, if_pos hq1, prS, if_pos hch])
    have cS := show_any vt vn vs (w.alloc (.cells #[.string op, .string nm, .int .i64 vt, .int .i64 vn, .string vs, .slice p l.length ca, .int .i64 pos] 26)) hvn hch
    rw [hsh] at cS
    obtain ⟨⟨k0, k1, k2, k3, k4, k5⟩, hl1, bw⟩ := box.out _ (Below.refl _ _)
    clear hsh hch hc0 hck hX HI HPA box
    go_enter Tryz.func10, Tryz.ntmps10
    go_wp2_with fail
    refine cS.mono ?_
    rintro e w1 ⟨rfl, b2⟩
    go_wp2
    go_ret
    exact ⟨rfl, b1.trans (b2.mono (by simp))⟩
  by_cases hq2 : op.data.toList = [99, 111, 108]
  · have g1 : (op.toList == [99, 111, 108]) = true := by rw [Lib.toList_data, hq2]; decide
    have hsh : nm = X := bytesT (by rw [hX, txP, if_neg hq1, if_pos hq2])
    subst hsh
    obtain ⟨⟨k0, k1, k2, k3, k4, k5⟩, hl1, bw⟩ := box.out _ (Below.refl _ _)
    clear hck hX HI HPA box
    go_enter Tryz.func10, Tryz.ntmps10
    go_wp2
    go_ret
    exact ⟨rfl, b1⟩
  have g1 : (op.toList == [99, 111, 108]) = false := by rw [Lib.toList_data]; simpa using hq2
  have g2 : (op.toList == [118, 97, 108]) = false := by rw [Lib.toList_data]; simpa using hq1
  have hkd := op_kinds ha1 ha2 hq1 hq2
  rw [txP, if_neg hq1, if_neg hq2, txsP_map] at hX hlen
  clear hck ha1 ha2 hq1 hq2
  have h1 : 1 ≤ l.length := by rcases hkd with ⟨_, h⟩ | ⟨_, h⟩ | ⟨_, h⟩ | ⟨_, h⟩ | ⟨_, h, _⟩ <;> omega
  rcases HPA.out with h | ⟨ba, oa, rfl, hbl, hlo, hE⟩
  · exact absurd h (by omega)
  clear HPA
  by_cases hcall : op.data.toList = [108, 101, 110] ∨ op.data.toList = [105, 102]
  · rw [if_pos hcall] at hX hlen
    clear hkd
    have HX : Hid (X.data.toList = op.data.toList ++ argsT [44, 32] (l.map txP)) := hX
    have HL : Hid ((op.data.toList ++ argsT [44, 32] (l.map txP)).length ≤ 1000000) := hlen
    have hsm : ∀ k, k ≤ l.length → (inter [44, 32] ((l.map txP).take k)).length ≤ 1000000 - 2 - op.data.toList.length := fun k hk => by
      have h1 := inter_take_len (bt := [44, 32]) (ts := l.map txP) k (by rw [List.length_map]; exact hk)
      simp only [argsT, List.length_append, List.length_cons, List.length_nil] at hlen
      omega
    have HSM : Hid (∀ k, k ≤ l.length → (inter [44, 32] ((l.map txP).take k)).length ≤ 1000000 - 2 - op.data.toList.length) := hsm
    have HE : Aside (ExsIn w lo ba oa l) := hE
    clear hX hlen hsm hE
    by_cases hq3 : op.data.toList = [108, 101, 110]
    · have g3 : (op.toList == [108, 101, 110]) = true := by rw [Lib.toList_data, hq3]; decide
      clear hcall hq3
      go_enter Tryz.func10, Tryz.ntmps10
      obtain ⟨⟨k0, k1, k2, k3, k4, k5⟩, hl1, bw⟩ := box.out _ (Below.refl _ _)
      go_wp2
      go_loopg [3, 4, 5] l.length (fun gg s2 s3 _ wr => ∃ (kk : Nat) (S : ByteArray), kk ≤ l.length ∧ l.length - kk ≤ gg ∧ s3 = .int .i64 kk ∧ s2 = .string S ∧ Hid (S.data.toList = op.data.toList ++ 40 :: inter [44, 32] ((l.map txP).take kk)) ∧ Aside (Below (w.heap.size + 1) (w.alloc (.cells #[.string op, .string nm, .int .i64 vt, .int .i64 vn, .string vs, .slice (some ⟨ba, oa, none⟩) l.length ca, .int .i64 pos] 26)) wr))
      case atStart => exact ⟨0, _, Nat.zero_le _, by omega, rfl, rfl, (show Hid _ from by show _ = _; simp [inter]), (show Aside _ from Below.refl _ _)⟩
      case round =>
        obtain ⟨kk, S, hkk, hg, rfl, rfl, HS, BW⟩ := hrel
        obtain ⟨⟨r0, r1, r2, r3, r4, r5⟩, hlr, bwr⟩ := box.out wr BW.out
        have hSs : S.size ≤ 1000000 := by
          rw [sizeT HS.out]
          have := HSM.out kk hkk
          have := HOP.out
          simp only [List.length_append, List.length_cons]
          omega
        clear k0 k1 k2 k3 k4 k5
        by_cases hltkk : kk < l.length
        · have hltz : (kk : Int) < (l.length : Int) := by omega
          have h0z : (0 : Int) ≤ (kk : Int) := by omega
          have hE := HE.out
          obtain ⟨v0, v1, v2, v3, v4, v5, v6, e0, e1, e2, e3, e4, e5, e6, hy⟩ := exsIn_at w lo ba l oa hE kk hltkk
          obtain ⟨u0, u1, u2, u3, u4, u5, u6, u7, u8, huu⟩ := hy.agg
          injection huu with huu
          simp only [Array.mk.injEq, List.cons.injEq, and_true] at huu
          obtain ⟨rfl, rfl, rfl, rfl, rfl, rfl, rfl⟩ := huu
          have kA : ∀ o, wr.cell? ⟨ba, o, none⟩ = w.cell? ⟨ba, o, none⟩ := fun o => bwr.cell (p := ⟨ba, o, none⟩) hbl
          rw [← kA] at e0 e1 e2 e3 e4 e5 e6
          have hblr : ba < wr.heap.size := by have := bwr.size; omega
          obtain ⟨Y, hY⟩ : ∃ Y : ByteArray, Y.data.toList = txP l[kk] := ⟨⟨(txP l[kk]).toArray⟩, rfl⟩
          have hpt : (txP l[kk]).length ≤ 1000000 := by
            have h2 := inter_part [44, 32] (l.map txP) kk (by rw [List.length_map]; exact hltkk)
            have h3 := HSM.out l.length (Nat.le_refl _)
            rw [List.take_of_length_le (by rw [List.length_map]; exact Nat.le_refl _)] at h3
            rw [List.getElem_map] at h2
            omega
          have hYs : Y.size ≤ 1000000 := by rw [sizeT hY]; exact hpt
          have cY := HI.out _ (List.getElem_mem hltkk) lo _ wr Y hpt (hy.on bwr) hY
          have HKL : Hid (kk < l.length) := hltkk
          have hstep : Hid ((inter [44, 32] ((l.map txP).take (kk + 1))) = (if kk = 0 then [] else inter [44, 32] ((l.map txP).take kk) ++ [44, 32]) ++ Y.data.toList) := by
            show _ = _
            rw [inter_take (by rw [List.length_map]; exact hltkk), List.getElem_map, hY]
          clear hE kA hy hY hpt HI
          by_cases hk0 : kk = 0
          · subst hk0
            simp only [Nat.zero_mul, Nat.add_zero] at e0 e1 e2 e3 e4 e5 e6
            go_wp2_with fail
            refine cY.mono ?_
            rintro e w4 ⟨rfl, b4⟩
            have BW4 : Aside (Below (w.heap.size + 1) (w.alloc (.cells #[.string op, .string nm, .int .i64 vt, .int .i64 vn, .string vs, .slice (some ⟨ba, oa, none⟩) l.length ca, .int .i64 pos] 26)) w4) := BW.out.trans (b4.mono hlr)
            clear cY b4
            go_wp2
            go_roundg (l.length - (0 + 1))
            case measure => have := HKL.out; omega
            case rel => exact ⟨0 + 1, S ++ Y, by have := HKL.out; omega, by omega, by go_num, rfl, (show Hid _ from by show _ = _; rw [hstep.out]; simp [HS.out, inter]), BW4⟩
          · have hz0 : (0 : Int) < (kk : Int) := by omega
            go_wp2_with fail
            refine cY.mono ?_
            rintro e w4 ⟨rfl, b4⟩
            have BW4 : Aside (Below (w.heap.size + 1) (w.alloc (.cells #[.string op, .string nm, .int .i64 vt, .int .i64 vn, .string vs, .slice (some ⟨ba, oa, none⟩) l.length ca, .int .i64 pos] 26)) w4) := BW.out.trans (b4.mono hlr)
            clear cY b4
            go_wp2
            go_roundg (l.length - (kk + 1))
            case measure => have := HKL.out; omega
            case rel => exact ⟨kk + 1, (S ++ ⟨#[44, 32]⟩) ++ Y, by have := HKL.out; omega, by omega, by go_num, rfl, (show Hid _ from by show _ = _; rw [hstep.out]; simp [HS.out, hk0]), BW4⟩
        · have hltz : ¬ (kk : Int) < (l.length : Int) := by omega
          have hfin : S ++ ⟨#[41]⟩ = X := bytesT (by
            rw [HX.out]
            have hke : kk = l.length := by omega
            have h3 : (l.map txP).take kk = l.map txP := List.take_of_length_le (by rw [List.length_map]; omega)
            simp [HS.out, h3, argsT])
          clear HX HS HL HSM
          go_wp2
          go_ret
          exact ⟨by rw [← hfin]; rfl, bwr⟩
    · have g3 : (op.toList == [108, 101, 110]) = false := by rw [Lib.toList_data]; simpa using hq3
      have g4 : (op.toList == [105, 102]) = true := by
        rcases hcall with h | h
        · exact absurd h hq3
        · rw [Lib.toList_data, h]; decide
      clear hcall hq3
      go_enter Tryz.func10, Tryz.ntmps10
      obtain ⟨⟨k0, k1, k2, k3, k4, k5⟩, hl1, bw⟩ := box.out _ (Below.refl _ _)
      go_wp2
      go_loopg [3, 4, 5] l.length (fun gg s2 s3 _ wr => ∃ (kk : Nat) (S : ByteArray), kk ≤ l.length ∧ l.length - kk ≤ gg ∧ s3 = .int .i64 kk ∧ s2 = .string S ∧ Hid (S.data.toList = op.data.toList ++ 40 :: inter [44, 32] ((l.map txP).take kk)) ∧ Aside (Below (w.heap.size + 1) (w.alloc (.cells #[.string op, .string nm, .int .i64 vt, .int .i64 vn, .string vs, .slice (some ⟨ba, oa, none⟩) l.length ca, .int .i64 pos] 26)) wr))
      case atStart => exact ⟨0, _, Nat.zero_le _, by omega, rfl, rfl, (show Hid _ from by show _ = _; simp [inter]), (show Aside _ from Below.refl _ _)⟩
      case round =>
        obtain ⟨kk, S, hkk, hg, rfl, rfl, HS, BW⟩ := hrel
        obtain ⟨⟨r0, r1, r2, r3, r4, r5⟩, hlr, bwr⟩ := box.out wr BW.out
        have hSs : S.size ≤ 1000000 := by
          rw [sizeT HS.out]
          have := HSM.out kk hkk
          have := HOP.out
          simp only [List.length_append, List.length_cons]
          omega
        clear k0 k1 k2 k3 k4 k5
        by_cases hltkk : kk < l.length
        · have hltz : (kk : Int) < (l.length : Int) := by omega
          have h0z : (0 : Int) ≤ (kk : Int) := by omega
          have hE := HE.out
          obtain ⟨v0, v1, v2, v3, v4, v5, v6, e0, e1, e2, e3, e4, e5, e6, hy⟩ := exsIn_at w lo ba l oa hE kk hltkk
          obtain ⟨u0, u1, u2, u3, u4, u5, u6, u7, u8, huu⟩ := hy.agg
          injection huu with huu
          simp only [Array.mk.injEq, List.cons.injEq, and_true] at huu
          obtain ⟨rfl, rfl, rfl, rfl, rfl, rfl, rfl⟩ := huu
          have kA : ∀ o, wr.cell? ⟨ba, o, none⟩ = w.cell? ⟨ba, o, none⟩ := fun o => bwr.cell (p := ⟨ba, o, none⟩) hbl
          rw [← kA] at e0 e1 e2 e3 e4 e5 e6
          have hblr : ba < wr.heap.size := by have := bwr.size; omega
          obtain ⟨Y, hY⟩ : ∃ Y : ByteArray, Y.data.toList = txP l[kk] := ⟨⟨(txP l[kk]).toArray⟩, rfl⟩
          have hpt : (txP l[kk]).length ≤ 1000000 := by
            have h2 := inter_part [44, 32] (l.map txP) kk (by rw [List.length_map]; exact hltkk)
            have h3 := HSM.out l.length (Nat.le_refl _)
            rw [List.take_of_length_le (by rw [List.length_map]; exact Nat.le_refl _)] at h3
            rw [List.getElem_map] at h2
            omega
          have hYs : Y.size ≤ 1000000 := by rw [sizeT hY]; exact hpt
          have cY := HI.out _ (List.getElem_mem hltkk) lo _ wr Y hpt (hy.on bwr) hY
          have HKL : Hid (kk < l.length) := hltkk
          have hstep : Hid ((inter [44, 32] ((l.map txP).take (kk + 1))) = (if kk = 0 then [] else inter [44, 32] ((l.map txP).take kk) ++ [44, 32]) ++ Y.data.toList) := by
            show _ = _
            rw [inter_take (by rw [List.length_map]; exact hltkk), List.getElem_map, hY]
          clear hE kA hy hY hpt HI
          by_cases hk0 : kk = 0
          · subst hk0
            simp only [Nat.zero_mul, Nat.add_zero] at e0 e1 e2 e3 e4 e5 e6
            go_wp2_with fail
            refine cY.mono ?_
            rintro e w4 ⟨rfl, b4⟩
            have BW4 : Aside (Below (w.heap.size + 1) (w.alloc (.cells #[.string op, .string nm, .int .i64 vt, .int .i64 vn, .string vs, .slice (some ⟨ba, oa, none⟩) l.length ca, .int .i64 pos] 26)) w4) := BW.out.trans (b4.mono hlr)
            clear cY b4
            go_wp2
            go_roundg (l.length - (0 + 1))
            case measure => have := HKL.out; omega
            case rel => exact ⟨0 + 1, S ++ Y, by have := HKL.out; omega, by omega, by go_num, rfl, (show Hid _ from by show _ = _; rw [hstep.out]; simp [HS.out, inter]), BW4⟩
          · have hz0 : (0 : Int) < (kk : Int) := by omega
            go_wp2_with fail
            refine cY.mono ?_
            rintro e w4 ⟨rfl, b4⟩
            have BW4 : Aside (Below (w.heap.size + 1) (w.alloc (.cells #[.string op, .string nm, .int .i64 vt, .int .i64 vn, .string vs, .slice (some ⟨ba, oa, none⟩) l.length ca, .int .i64 pos] 26)) w4) := BW.out.trans (b4.mono hlr)
            clear cY b4
            go_wp2
            go_roundg (l.length - (kk + 1))
            case measure => have := HKL.out; omega
            case rel => exact ⟨kk + 1, (S ++ ⟨#[44, 32]⟩) ++ Y, by have := HKL.out; omega, by omega, by go_num, rfl, (show Hid _ from by show _ = _; rw [hstep.out]; simp [HS.out, hk0]), BW4⟩
        · have hltz : ¬ (kk : Int) < (l.length : Int) := by omega
          have hfin : S ++ ⟨#[41]⟩ = X := bytesT (by
            rw [HX.out]
            have hke : kk = l.length := by omega
            have h3 : (l.map txP).take kk = l.map txP := List.take_of_length_le (by rw [List.length_map]; omega)
            simp [HS.out, h3, argsT])
          clear HX HS HL HSM
          go_wp2
          go_ret
          exact ⟨by rw [← hfin]; rfl, bwr⟩
  rw [if_neg hcall] at hX hlen
  have g3 : (op.toList == [108, 101, 110]) = false := by rw [Lib.toList_data]; simpa using fun h => hcall (.inl h)
  have g4 : (op.toList == [105, 102]) = false := by rw [Lib.toList_data]; simpa using fun h => hcall (.inr h)
  have hlt0 : 0 < l.length := h1
  have hp0 : (0 : Int) < (l.length : Int) := by omega
  obtain ⟨Y, hY⟩ : ∃ Y : ByteArray, Y.data.toList = txP l[0] := ⟨⟨(txP l[0]).toArray⟩, rfl⟩
  have hhd : (l.map txP).headD [] = txP l[0] := by
    cases l with
    | nil => simp at h1
    | cons a t => rfl
  obtain ⟨⟨k0, k1, k2, k3, k4, k5⟩, hl1, bw⟩ := box.out _ (Below.refl _ _)
  by_cases hq5 : op.data.toList = [110, 111, 116]
  · rw [if_pos hq5] at hX hlen
    have g5 : (op.toList == [110, 111, 116]) = true := by rw [Lib.toList_data, hq5]; decide
    clear hq5 hcall
    rw [hhd] at hX hlen
    have hpt : (txP l[0]).length ≤ 1000000 := by simp only [aheadT, List.length_append, List.length_cons, List.length_nil] at hlen; omega
    have hfin : ((⟨#[40, 110, 111, 116, 32]⟩ : ByteArray) ++ Y) ++ ⟨#[41]⟩ = X := bytesT (by rw [hX]; simp [aheadT, hY])
    have hYs : Y.size ≤ 1000000 := by rw [sizeT hY]; omega
    obtain ⟨v0, v1, v2, v3, v4, v5, v6, e0, e1, e2, e3, e4, e5, e6, hy⟩ := exsIn_at w lo ba l oa hE 0 hlt0
    obtain ⟨u0, u1, u2, u3, u4, u5, u6, u7, u8, huu⟩ := hy.agg
    injection huu with huu
    simp only [Array.mk.injEq, List.cons.injEq, and_true] at huu
    obtain ⟨rfl, rfl, rfl, rfl, rfl, rfl, rfl⟩ := huu
    have kA : ∀ o, (w.alloc (.cells #[.string op, .string nm, .int .i64 vt, .int .i64 vn, .string vs, .slice (some ⟨ba, oa, none⟩) l.length ca, .int .i64 pos] 26)).cell? ⟨ba, o, none⟩ = w.cell? ⟨ba, o, none⟩ := fun o => bw.cell (p := ⟨ba, o, none⟩) hbl
    rw [← kA] at e0 e1 e2 e3 e4 e5 e6
    have hblr : ba < (w.alloc (.cells #[.string op, .string nm, .int .i64 vt, .int .i64 vn, .string vs, .slice (some ⟨ba, oa, none⟩) l.length ca, .int .i64 pos] 26)).heap.size := by have := bw.size; omega
    have cY := HI.out _ (List.getElem_mem hlt0) lo _ _ Y (by omega) (hy.on bw) hY
    simp only [Nat.zero_mul, Nat.add_zero] at e0 e1 e2 e3 e4 e5 e6
    clear hE kA hy hY hpt HI hX hlen hhd hkd
    go_enter Tryz.func10, Tryz.ntmps10
    go_wp2_with fail
    refine cY.mono ?_
    rintro e w4 ⟨rfl, b4⟩
    obtain ⟨⟨r0, r1, r2, r3, r4, r5⟩, hlr, bwr⟩ := box.out w4 (b4.mono (by simp))
    clear cY
    go_wp2
    go_ret
    exact ⟨by rw [← hfin]; rfl, bwr⟩
  rw [if_neg hq5] at hX hlen
  have g5 : (op.toList == [110, 111, 116]) = false := by rw [Lib.toList_data]; simpa using hq5
  by_cases hq6 : op.data.toList = [110, 101, 103]
  · rw [if_pos hq6] at hX hlen
    have g6 : (op.toList == [110, 101, 103]) = true := by rw [Lib.toList_data, hq6]; decide
    clear hq6 hq5 hcall
    rw [hhd] at hX hlen
    have hpt : (txP l[0]).length ≤ 1000000 := by simp only [aheadT, List.length_append, List.length_cons, List.length_nil] at hlen; omega
    have hfin : ((⟨#[40, 45, 32]⟩ : ByteArray) ++ Y) ++ ⟨#[41]⟩ = X := bytesT (by rw [hX]; simp [aheadT, hY])
    have hYs : Y.size ≤ 1000000 := by rw [sizeT hY]; omega
    obtain ⟨v0, v1, v2, v3, v4, v5, v6, e0, e1, e2, e3, e4, e5, e6, hy⟩ := exsIn_at w lo ba l oa hE 0 hlt0
    obtain ⟨u0, u1, u2, u3, u4, u5, u6, u7, u8, huu⟩ := hy.agg
    injection huu with huu
    simp only [Array.mk.injEq, List.cons.injEq, and_true] at huu
    obtain ⟨rfl, rfl, rfl, rfl, rfl, rfl, rfl⟩ := huu
    have kA : ∀ o, (w.alloc (.cells #[.string op, .string nm, .int .i64 vt, .int .i64 vn, .string vs, .slice (some ⟨ba, oa, none⟩) l.length ca, .int .i64 pos] 26)).cell? ⟨ba, o, none⟩ = w.cell? ⟨ba, o, none⟩ := fun o => bw.cell (p := ⟨ba, o, none⟩) hbl
    rw [← kA] at e0 e1 e2 e3 e4 e5 e6
    have hblr : ba < (w.alloc (.cells #[.string op, .string nm, .int .i64 vt, .int .i64 vn, .string vs, .slice (some ⟨ba, oa, none⟩) l.length ca, .int .i64 pos] 26)).heap.size := by have := bw.size; omega
    have cY := HI.out _ (List.getElem_mem hlt0) lo _ _ Y (by omega) (hy.on bw) hY
    simp only [Nat.zero_mul, Nat.add_zero] at e0 e1 e2 e3 e4 e5 e6
    clear hE kA hy hY hpt HI hX hlen hhd hkd
    go_enter Tryz.func10, Tryz.ntmps10
    go_wp2_with fail
    refine cY.mono ?_
    rintro e w4 ⟨rfl, b4⟩
    obtain ⟨⟨r0, r1, r2, r3, r4, r5⟩, hlr, bwr⟩ := box.out w4 (b4.mono (by simp))
    clear cY
    go_wp2
    go_ret
    exact ⟨by rw [← hfin]; rfl, bwr⟩
  rw [if_neg hq6] at hX hlen
  have g6 : (op.toList == [110, 101, 103]) = false := by rw [Lib.toList_data]; simpa using hq6
  have hl2 : l.length = 2 := by
    rcases hkd with ⟨h, _⟩ | ⟨h, _⟩ | ⟨h, _⟩ | ⟨h, _⟩ | ⟨_, h, _⟩
    · exact absurd (.inl h) hcall
    · exact absurd (.inr h) hcall
    · exact absurd h hq5
    · exact absurd h hq6
    · exact h
  have hlt1 : 1 < l.length := by omega
  have hp1 : (1 : Int) < (l.length : Int) := by omega
  obtain ⟨Z, hZ⟩ : ∃ Z : ByteArray, Z.data.toList = txP l[1] := ⟨⟨(txP l[1]).toArray⟩, rfl⟩
  have hmap : l.map txP = [Y.data.toList, Z.data.toList] := by rw [hY, hZ]; exact two_map hl2
  rw [hmap] at hX hlen
  have hlens : Y.data.toList.length + Z.data.toList.length + op.data.toList.length + 4 ≤ 1000000 := by simp only [argsT, inter, List.length_append, List.length_cons, List.length_nil] at hlen; omega
  have hfin : ((((((⟨#[40]⟩ : ByteArray) ++ Y) ++ ⟨#[32]⟩) ++ op) ++ ⟨#[32]⟩) ++ Z) ++ ⟨#[41]⟩ = X := bytesT (by rw [hX]; simp [argsT, inter])
  have hYs : Y.size + Z.size ≤ 1000000 := by rw [sizeT (X := Y) rfl, sizeT (X := Z) rfl]; omega
  have hp0L : (txP l[0]).length ≤ 1000000 := by rw [← hY]; omega
  have hp1L : (txP l[1]).length ≤ 1000000 := by rw [← hZ]; omega
  have HE : Aside (ExsIn w lo ba oa l) := hE
  obtain ⟨v0, v1, v2, v3, v4, v5, v6, e0, e1, e2, e3, e4, e5, e6, hy⟩ := exsIn_at w lo ba l oa hE 0 hlt0
  obtain ⟨u0, u1, u2, u3, u4, u5, u6, u7, u8, huu⟩ := hy.agg
  injection huu with huu
  simp only [Array.mk.injEq, List.cons.injEq, and_true] at huu
  obtain ⟨rfl, rfl, rfl, rfl, rfl, rfl, rfl⟩ := huu
  have kA : ∀ o, (w.alloc (.cells #[.string op, .string nm, .int .i64 vt, .int .i64 vn, .string vs, .slice (some ⟨ba, oa, none⟩) l.length ca, .int .i64 pos] 26)).cell? ⟨ba, o, none⟩ = w.cell? ⟨ba, o, none⟩ := fun o => bw.cell (p := ⟨ba, o, none⟩) hbl
  rw [← kA] at e0 e1 e2 e3 e4 e5 e6
  have hblr : ba < (w.alloc (.cells #[.string op, .string nm, .int .i64 vt, .int .i64 vn, .string vs, .slice (some ⟨ba, oa, none⟩) l.length ca, .int .i64 pos] 26)).heap.size := by have := bw.size; omega
  have cY := HI.out _ (List.getElem_mem hlt0) lo _ _ Y hp0L (hy.on bw) hY
  simp only [Nat.zero_mul, Nat.add_zero] at e0 e1 e2 e3 e4 e5 e6
  clear hE kA hy hY hX hlen hhd hkd hmap hp0L hcall hq5 hq6 hlens hl2
  go_enter Tryz.func10, Tryz.ntmps10
  go_wp2_with fail
  refine cY.mono ?_
  rintro e w4 ⟨rfl, b4⟩
  obtain ⟨⟨r0, r1, r2, r3, r4, r5⟩, hlr, bwr⟩ := box.out w4 (b4.mono (by simp))
  clear cY e0 e1 e2 e3 e4 e5 e6 k0 k1 k2 k3 k4 k5 hblr
  have hE := HE.out
  obtain ⟨v0, v1, v2, v3, v4, v5, v6, e0, e1, e2, e3, e4, e5, e6, hy⟩ := exsIn_at w lo ba l oa hE 1 hlt1
  obtain ⟨u0, u1, u2, u3, u4, u5, u6, u7, u8, huu⟩ := hy.agg
  injection huu with huu
  simp only [Array.mk.injEq, List.cons.injEq, and_true] at huu
  obtain ⟨rfl, rfl, rfl, rfl, rfl, rfl, rfl⟩ := huu
  have kA : ∀ o, w4.cell? ⟨ba, o, none⟩ = w.cell? ⟨ba, o, none⟩ := fun o => bwr.cell (p := ⟨ba, o, none⟩) hbl
  rw [← kA] at e0 e1 e2 e3 e4 e5 e6
  have hblr : ba < w4.heap.size := by have := bwr.size; omega
  have cZ := HI.out _ (List.getElem_mem hlt1) lo _ w4 Z hp1L (hy.on bwr) hZ
  clear hE kA hy hZ HI HE hp1L
  simp only [Nat.one_mul] at e0 e1 e2 e3 e4 e5 e6
  go_wp2_with fail
  refine cZ.mono ?_
  rintro e w5 ⟨rfl, b5⟩
  have bw5 : Below w.heap.size w w5 := bwr.trans (b5.mono bwr.size)
  obtain ⟨⟨s0, s1, s2, s3, s4, s5⟩, _, _⟩ := box.out w5 ((b4.mono (by simp)).trans (b5.mono hlr))
  clear cZ e0 e1 e2 e3 e4 e5 e6 r0 r1 r2 r3 r4 r5
  go_wp2
  go_ret
  exact ⟨by rw [← hfin]; rfl, bw5⟩
end Go.Proofs.YtnpinbpjfngknaaGreatDoor
