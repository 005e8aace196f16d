/-
  What lies on the stack behind an instruction (package verify): after.
-/
import Derived.Test.YtkoejkpjkcejcabDoorGyAp
import Derived.Deep.RegionWith
namespace Go.Proofs.YtkoejkpjkcejcabDoor
open Go.RowKit
set_option linter.unusedVariables false

/-- The upper end of a list of types. -/
theorem stk_slice_l {w : World} {B : Nat} {p : Option Addr} {n c l : Nat} {ts : List Int} (h : StkAt w B (.slice p n c) ts) (hn : ts.length = n) (hl : l ≤ n) : ∃ p1 c1, (∀ W, Sem.run Tryd.prog (Instr.slice 70 (.slice p n c) (some (.int .i64 (l : Int))) none none) W = .ok (.slice p1 (n - l) c1) W) ∧ StkAt w B (.slice p1 (n - l) c1) (ts.drop l) := by
  subst hn
  obtain ⟨p', c', e, ⟨h1, h64⟩, h2, h3⟩ := h
  injection e with e1 e2 e3
  subst e1 e3
  have hr : ∀ W, Sem.run Tryd.prog (Instr.slice 70 (.slice p ts.length c) (some (.int .i64 (l : Int))) none none) W = .ok (sliced p l ts.length c 1) W := fun W => by
    have g0 : (0 : Int) ≤ (l : Int) := by omega
    have g1 : (l : Int) ≤ (ts.length : Int) := by omega
    have g2 : Sem.run Tryd.prog (Go.sizeOf (Tryd.prog.elem 70)) W = .ok 1 W := by kernel_rfl
    rw [run_slice_l W 70 p ts.length c (by kernel_rfl) .i64 l g0 g1, g2]
    rfl
  by_cases hcl : c = l
  · refine ⟨p, c - l, fun W => by rw [hr W, sliced, if_pos hcl], p, c - l, by rw [List.length_drop], ⟨by rw [List.length_drop]; omega, by rw [List.length_drop]; omega⟩, fun hp => by have := h2 hp; omega, fun a ha => ?_⟩
    obtain ⟨g, off, e2, h4, h5, h6⟩ := h3 a ha
    exact ⟨g, off, e2, h4, h5, fun j hj => absurd hj (by rw [List.length_drop]; omega)⟩
  · cases p with
    | none => exact absurd (h2 rfl) (by omega)
    | some a =>
      obtain ⟨g, off, rfl, h4, h5, h6⟩ := h3 a rfl
      refine ⟨some ⟨g, off + l * 1, none⟩, c - l, fun W => by rw [hr W, sliced, if_neg hcl, Option.map_some, Go.WideShapes.add_plain], some ⟨g, off + l * 1, none⟩, c - l, by rw [List.length_drop], ⟨by rw [List.length_drop]; omega, by rw [List.length_drop]; omega⟩, (fun hp => nomatch hp), fun a ha => ?_⟩
      injection ha with ha
      subst ha
      refine ⟨g, off + l * 1, rfl, h4, h5, fun j hj => ?_⟩
      rw [List.length_drop] at hj
      have := h6 (l + j) (by omega)
      rw [List.getElem_drop, show off + l * 1 + j = off + (l + j) by omega]
      exact this
/-- The lower end of a list of types. -/
theorem stk_slice_h {w : World} {B : Nat} {p : Option Addr} {n c l : Nat} {ts : List Int} (h : StkAt w B (.slice p n c) ts) (hn : ts.length = n) (hl : l ≤ n) : ∃ p1 c1, (∀ W, Sem.run Tryd.prog (Instr.slice 70 (.slice p n c) none (some (.int .i64 (l : Int))) none) W = .ok (.slice p1 l c1) W) ∧ StkAt w B (.slice p1 l c1) (ts.take l) := by
  subst hn
  obtain ⟨p', c', e, ⟨h1, h64⟩, h2, h3⟩ := h
  injection e with e1 e2 e3
  subst e1 e3
  have hr : ∀ W, Sem.run Tryd.prog (Instr.slice 70 (.slice p ts.length c) none (some (.int .i64 (l : Int))) none) W = .ok (sliced p 0 l c 1) W := fun W => by
    have g0 : (0 : Int) ≤ (l : Int) := by omega
    have g1 : (l : Int) ≤ (c : Int) := by omega
    have g2 : Sem.run Tryd.prog (Go.sizeOf (Tryd.prog.elem 70)) W = .ok 1 W := by kernel_rfl
    rw [run_slice_h W 70 p ts.length c (by kernel_rfl) .i64 l g0 g1, g2]
    rfl
  have hlen : (ts.take l).length = l := by rw [List.length_take]; omega
  refine ⟨p, c, fun W => ?_, p, c, by rw [hlen], ⟨by omega, by omega⟩, h2, fun a ha => ?_⟩
  · rw [hr W, sliced]
    cases p with
    | none => simp
    | some a =>
      obtain ⟨g, off, rfl, -⟩ := h3 a rfl
      simp [Addr.add]
  · obtain ⟨g, off, e2, h4, h5, h6⟩ := h3 a ha
    refine ⟨g, off, e2, h4, h5, fun j hj => ?_⟩
    rw [List.getElem_take]
    exact h6 j (by omega)
set_option maxHeartbeats 4000000 in
set_option maxRecDepth 20000 in
theorem after_any (st : List Int) (p : Option Addr) (n c : Nat) (i : I5) (zs : List (ByteArray × Int)) (cb co cc : Nat) (bh : Int) (w : World) (hr : REnv w) (B : Nat) (hst : StkAt w B (.slice p n c) st) (hn : st.length = n) (hA : argE i zs.length bh = 0) (hz6 : zs.length ≤ 6) (hc : ColsIn w cb co zs) (hB : B < w.heap.size) (L : List Int) (E : Int) (hL : aftP st i zs = (L, E)) :
    Calls Tryd.prog 98 #[.slice p n c, insW i, .slice (some ⟨cb, co, none⟩) zs.length cc] w fun e w' => (∃ v, e = .returned (.tuple #[v, errV E]) ∧ Aside (StkAt w' B v L)) ∧ Below w.heap.size w w' := by
  have hn64 : n ≤ 64 := by
    obtain ⟨_, _, _, ⟨_, h⟩, _⟩ := hst
    omega
  obtain ⟨C, hC⟩ : ∃ C, needN i = C := ⟨_, rfl⟩
  have hC3 : C ≤ 3 := by
    rw [← hC, needN]
    split
    · exact cntN_le _
    split
    · omega
    · omega
  have cN := fun W hW => needs_any i W hW C hC
  have cY := fun W => lays_any i (st.drop (n - C)) (zs := zs) (cb := cb) (co := co) (cc := cc) (bh := bh) (w := W)
  obtain ⟨a, g, t, k, s⟩ := i
  have HA : Hid (argE (a, g, t, k, s) zs.length bh = 0) := hA
  have HC : Hid (needN (a, g, t, k, s) = C) := hC
  simp only [insW] at cN cY
  show Calls Tryd.prog _ #[_, Value.agg #[.int .i64 a, .int .i64 g, .int .i64 t, .int .i64 k, .string s], _] w _
  have hB1 := alB w (.cells #[.int .i64 a, .int .i64 g, .int .i64 t, .int .i64 k, .string s] 50)
  unfold aftP at hL
  rw [hC, hn] at hL
  by_cases hlt : n < C
  · rw [if_pos hlt] at hL
    obtain ⟨rfl, rfl⟩ := Prod.mk.inj hL
    have hz : (n : Int) - (C : Int) < 0 := by omega
    have hw : wrap64 ((n : Int) - (C : Int)) = (n : Int) - (C : Int) := by unfold wrap64; omega
    have HST : Aside (StkAt w B (.slice p n c) st) := hst
    clear hL hA hC hc hst hn HC HA cY
    go_enter Tryd.func98, Tryd.ntmps98
    go_wp2_with fail
    refine (cN _ (hr.on hB1)).mono ?_
    rintro e w1 ⟨rfl, b1⟩
    have b2 := hB1.trans (b1.mono hB1.size)
    go_wp2
    go_ret2
    exact ⟨⟨_, rfl, (show Aside _ from StkAt.nil _ _)⟩, b2⟩
  rw [if_neg hlt] at hL
  obtain ⟨l, hl⟩ : ∃ l, n = l + C := ⟨n - C, by omega⟩
  rw [show n - C = l by omega] at hL cY
  obtain ⟨p1, c1, r1, s1⟩ := stk_slice_l hst hn (l := l) (by omega)
  obtain ⟨p2, c2, r2, s2⟩ := stk_slice_h hst hn (l := l) (by omega)
  rw [show n - l = C by omega] at r1 s1
  have hz : ¬ (n : Int) - (C : Int) < 0 := by omega
  rw [show (l : Int) = (n : Int) - (C : Int) by omega] at r1 r2
  obtain ⟨⟨LY, EY⟩, hLY⟩ : ∃ r, layP (a, g, t, k, s) (st.drop l) zs = r := ⟨_, rfl⟩
  rw [hLY] at hL
  simp only at hL
  have hlenY : LY.length ≤ 64 := by
    have : (layP (a, g, t, k, s) (st.drop l) zs).1.length ≤ 2 := by
      unfold layP
      repeat' split
      all_goals simp
    rw [hLY] at this
    simp only at this
    omega
  have cL : ∀ (w1 : World) (q : Nat), Below w.heap.size w w1 → Calls Tryd.prog 124 #[.agg #[.int .i64 a, .int .i64 g, .int .i64 t, .int .i64 k, .string s], .slice p1 C c1, .slice (some ⟨cb, co, none⟩) zs.length cc] (w1.drewN q) fun e w' => (∃ v, e = .returned (.tuple #[v, errV EY]) ∧ Aside (StkAt w' B v LY)) ∧ Below w.heap.size w w' := fun w1 q b => by
    have b' := below_drewN b q
    have hs := b'.size
    refine (cY (w1.drewN q) p1 C c1 (hr.on b') (s1.on b').ints (by rw [List.length_drop]; omega) (by rw [List.length_drop, HC.out]; omega) HA.out hz6 (hc.on b') B (by omega) LY EY hLY).mono ?_
    rintro e w' ⟨h1, h2⟩
    exact ⟨h1, b'.trans (h2.mono hs)⟩
  have S2 : Aside (StkAt w B (.slice p2 l c2) (st.take l)) := s2
  have HL2 : Hid ((st.take l).length = l) := by show _ = _; rw [List.length_take]; omega
  have HLn : Hid (n = l + C) := hl
  have hl64 : l ≤ 64 := by omega
  clear hst hn s1 s2 cY hc hLY hA HA hC HC hlt hl
  by_cases hE : EY = 0
  · subst hE
    simp only [show errV 0 = .nilIface from rfl] at cL
    rw [if_neg (by simp)] at hL
    by_cases hF : 64 < l + LY.length
    · rw [if_pos hF] at hL
      obtain ⟨rfl, rfl⟩ := Prod.mk.inj hL
      have hFz : (64 : Int) < (n : Int) - (C : Int) + (LY.length : Int) := by have := HLn.out; omega
      clear hL hF
      go_enter Tryd.func98, Tryd.ntmps98
      go_wp2_with fail
      refine (cN _ (hr.on hB1)).mono ?_
      rintro e w1 ⟨rfl, b1⟩
      have b2 := hB1.trans (b1.mono hB1.size)
      have m0 : ∀ o, w1.cell? ⟨w.heap.size, o, none⟩ = (w.alloc (.cells #[.int .i64 a, .int .i64 g, .int .i64 t, .int .i64 k, .string s] 50)).cell? ⟨w.heap.size, o, none⟩ := fun o => b1.cell (p := ⟨w.heap.size, o, none⟩) (by simp)
      have m1 : w1.cell? ⟨w.heap.size, 0, none⟩ = some (.int .i64 a) := by rw [m0, World.cell?_alloc_at _ _ _ _ rfl]; rfl
      have m2 : w1.cell? ⟨w.heap.size, 1, none⟩ = some (.int .i64 g) := by rw [m0, World.cell?_alloc_at _ _ _ _ rfl]; rfl
      have m3 : w1.cell? ⟨w.heap.size, 2, none⟩ = some (.int .i64 t) := by rw [m0, World.cell?_alloc_at _ _ _ _ rfl]; rfl
      have m4 : w1.cell? ⟨w.heap.size, 3, none⟩ = some (.int .i64 k) := by rw [m0, World.cell?_alloc_at _ _ _ _ rfl]; rfl
      have m5 : w1.cell? ⟨w.heap.size, 4, none⟩ = some (.string s) := by rw [m0, World.cell?_alloc_at _ _ _ _ rfl]; rfl
      clear m0
      go_wp2
      go_region_with (go_at_call 124; refine (cL w1 _ b2).mono ?_; rintro e w2 ⟨⟨v, rfl, SV⟩, b3⟩)
      obtain ⟨pv, cv, rfl, -⟩ := SV.out
      go_wp2
      go_ret2
      exact ⟨⟨_, rfl, (show Aside _ from StkAt.nil _ _)⟩, b3⟩
    · rw [if_neg hF] at hL
      obtain ⟨rfl, rfl⟩ := Prod.mk.inj hL
      have hFz : ¬ (64 : Int) < (n : Int) - (C : Int) + (LY.length : Int) := by have := HLn.out; omega
      have hF2 : l + LY.length ≤ 64 := by omega
      clear hL hF
      go_enter Tryd.func98, Tryd.ntmps98
      go_wp2_with fail
      refine (cN _ (hr.on hB1)).mono ?_
      rintro e w1 ⟨rfl, b1⟩
      have b2 := hB1.trans (b1.mono hB1.size)
      have m0 : ∀ o, w1.cell? ⟨w.heap.size, o, none⟩ = (w.alloc (.cells #[.int .i64 a, .int .i64 g, .int .i64 t, .int .i64 k, .string s] 50)).cell? ⟨w.heap.size, o, none⟩ := fun o => b1.cell (p := ⟨w.heap.size, o, none⟩) (by simp)
      have m1 : w1.cell? ⟨w.heap.size, 0, none⟩ = some (.int .i64 a) := by rw [m0, World.cell?_alloc_at _ _ _ _ rfl]; rfl
      have m2 : w1.cell? ⟨w.heap.size, 1, none⟩ = some (.int .i64 g) := by rw [m0, World.cell?_alloc_at _ _ _ _ rfl]; rfl
      have m3 : w1.cell? ⟨w.heap.size, 2, none⟩ = some (.int .i64 t) := by rw [m0, World.cell?_alloc_at _ _ _ _ rfl]; rfl
      have m4 : w1.cell? ⟨w.heap.size, 3, none⟩ = some (.int .i64 k) := by rw [m0, World.cell?_alloc_at _ _ _ _ rfl]; rfl
      have m5 : w1.cell? ⟨w.heap.size, 4, none⟩ = some (.string s) := by rw [m0, World.cell?_alloc_at _ _ _ _ rfl]; rfl
      clear m0
      go_wp2
      go_region_with (go_at_call 124; refine (cL w1 _ b2).mono ?_; rintro e w2 ⟨⟨v, rfl, SV⟩, b3⟩)
      obtain ⟨pv, cv, rfl, -⟩ := SV.out
      have SV2 : Aside (StkAt w2 B (.slice pv LY.length cv) LY) := SV.out
      have hs2 := b3.size
      have cK := concat_any w2.heap.size p2 pv l LY.length c2 cv (st.take l) LY (w2.alloc (.cells #[.slice p2 l c2, .slice pv LY.length cv] 70)) B (by simp; omega) ((S2.out.on b3).on (alB _ _)) (SV2.out.on (alB _ _)) HL2.out rfl (by simp) (by rw [World.cell?_alloc_at _ _ _ _ rfl]; rfl) (by rw [World.cell?_alloc_at _ _ _ _ rfl]; rfl) hF2
      clear SV S2
      go_wp2_with fail
      refine cK.mono ?_
      rintro e w3 ⟨⟨v3, rfl, SV3⟩, b4⟩
      have b5 : Below w.heap.size w w3 := (b3.trans ((alB w2 _).mono hs2)).trans (b4.mono (by simp; omega))
      go_wp2
      go_ret2
      exact ⟨⟨_, rfl, SV3⟩, b5⟩
  · rw [if_pos hE] at hL
    obtain ⟨rfl, rfl⟩ := Prod.mk.inj hL
    have hV : errV EY = .iface 37 (.int .i64 EY) := by rw [errV, if_neg hE]
    simp only [hV] at cL ⊢
    clear hL hE hV
    go_enter Tryd.func98, Tryd.ntmps98
    go_wp2_with fail
    refine (cN _ (hr.on hB1)).mono ?_
    rintro e w1 ⟨rfl, b1⟩
    have b2 := hB1.trans (b1.mono hB1.size)
    have m0 : ∀ o, w1.cell? ⟨w.heap.size, o, none⟩ = (w.alloc (.cells #[.int .i64 a, .int .i64 g, .int .i64 t, .int .i64 k, .string s] 50)).cell? ⟨w.heap.size, o, none⟩ := fun o => b1.cell (p := ⟨w.heap.size, o, none⟩) (by simp)
    have m1 : w1.cell? ⟨w.heap.size, 0, none⟩ = some (.int .i64 a) := by rw [m0, World.cell?_alloc_at _ _ _ _ rfl]; rfl
    have m2 : w1.cell? ⟨w.heap.size, 1, none⟩ = some (.int .i64 g) := by rw [m0, World.cell?_alloc_at _ _ _ _ rfl]; rfl
    have m3 : w1.cell? ⟨w.heap.size, 2, none⟩ = some (.int .i64 t) := by rw [m0, World.cell?_alloc_at _ _ _ _ rfl]; rfl
    have m4 : w1.cell? ⟨w.heap.size, 3, none⟩ = some (.int .i64 k) := by rw [m0, World.cell?_alloc_at _ _ _ _ rfl]; rfl
    have m5 : w1.cell? ⟨w.heap.size, 4, none⟩ = some (.string s) := by rw [m0, World.cell?_alloc_at _ _ _ _ rfl]; rfl
    clear m0
    go_wp2
    go_region_with (go_at_call 124; refine (cL w1 _ b2).mono ?_; rintro e w2 ⟨⟨v, rfl, SV⟩, b3⟩)
    obtain ⟨pv, cv, rfl, -⟩ := SV.out
    go_wp2
    go_ret2
    exact ⟨⟨_, rfl, (show Aside _ from StkAt.nil _ _)⟩, b3⟩
end Go.Proofs.YtkoejkpjkcejcabDoor
