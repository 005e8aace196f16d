/-
  TreeCh, KdCol, in one text.
-/
import Derived.Test.YticdcnbeemkapaaGreatDoorQTreeCk
import Derived.Test.YticdcnbeemkapaaGreatDoorQKdRuleC
namespace Go.Proofs.YticdcnbeemkapaaGreatDoor
open Go.RowKit Go.BigFrame
set_option linter.unusedVariables false

def fck (s : Int) (x : Ex) (d : Nat) : Int × Bool := (nodeE x, nodeE x == 0)
/-- What Check says of an expression. -/
def ckP (x : Ex) : Int := if tgB x = true then 4 else (foldP fck 0 (x.pre 1)).1
/-- The variable of the error. -/
def ErrIn (p : Nat) (W : World) (s : Int) (m : Nat) : Prop := (W.cell? ⟨p, 0, none⟩ = some (errV s) ∧ W.frozen? ⟨p, 0, none⟩ = false ∧ p < W.heap.size) ∧ TEnv W ∧ 6 ≤ p
set_option maxHeartbeats 1000000 in
set_option maxRecDepth 20000 in
theorem check1_any (p : Nat) (W : World) (v : Value) (lo : Nat → Prop) (x : Ex) (d : Nat) (s : Int) (m : Nat) (hx : ExIn W lo v x) (hs : ErrIn p W s (m + 1)) :
    Calls Tryz.prog 16 #[v, .int .i64 (d : Int), .pointer (some ⟨p, 0, none⟩)] W fun e w' => e = .returned (.bool (fck s x d).2) ∧ ((fck s x d).2 = true → ErrIn p w' (fck s x d).1 m) ∧ ((fck s x d).2 = false → ErrIn p w' (fck s x d).1 0) ∧ But p W w' := by
  obtain ⟨⟨h1, h2, h3⟩, henv, hG⟩ := hs
  obtain ⟨o1, n1, t1, k1, s1, p1, m1, c1, a1, rfl⟩ := hx.agg
  have b1 : Below W.heap.size W (W.alloc (.cells #[.string o1, .string n1, .int .i64 t1, .int .i64 k1, .string s1, .slice p1 m1 c1, .int .i64 a1] 26)) := al W _
  have cN := checkNode_any x lo _ _ (henv.on b1) (hx.on b1)
  have q1 := errK_eql (nodeE x)
  have q2 := errK_geql (nodeE x)
  have key : Hid (∀ w', But p W w' → w'.cell? ⟨p, 0, none⟩ = some (errV (nodeE x)) → w'.frozen? ⟨p, 0, none⟩ = false → ∀ j, ErrIn p w' (nodeE x) j) := fun w' hb hc hf j => ⟨⟨hc, hf, by have := hb.size; omega⟩, henv.but hb hG, hG⟩
  rw [fck]
  show Calls Tryz.prog 16 _ W fun e w' => e = .returned (.bool (nodeE x == 0)) ∧ ((nodeE x == 0) = true → ErrIn p w' (nodeE x) m) ∧ ((nodeE x == 0) = false → ErrIn p w' (nodeE x) 0) ∧ But p W w'
  have fin : Hid (∀ w1, Below (W.alloc (.cells #[.string o1, .string n1, .int .i64 t1, .int .i64 k1, .string s1, .slice p1 m1 c1, .int .i64 a1] 26)).heap.size (W.alloc (.cells #[.string o1, .string n1, .int .i64 t1, .int .i64 k1, .string s1, .slice p1 m1 c1, .int .i64 a1] 26)) w1 → (∀ j, ErrIn p (w1.setCell ⟨p, 0, none⟩ (errV (nodeE x))) (nodeE x) j) ∧ But p W (w1.setCell ⟨p, 0, none⟩ (errV (nodeE x)))) := fun w1 b2 => by
    have b3 : Below W.heap.size W w1 := b1.trans (b2.mono (by simp))
    have bb : But p W (w1.setCell ⟨p, 0, none⟩ (errV (nodeE x))) := (But.of_below' b3 (Nat.le_of_lt h3)).set 0 _
    have e1 : w1.cell? ⟨p, 0, none⟩ = some (errV s) := by rw [b3.cell (p := ⟨p, 0, none⟩) h3]; exact h1
    have e2 : w1.frozen? ⟨p, 0, none⟩ = false := by rw [b3.frozen (p := ⟨p, 0, none⟩) h3]; exact h2
    exact ⟨key.out _ bb (World.cell?_setCell_same w1 ⟨p, 0, none⟩ _ e1) (by simpa using e2), bb⟩
  clear key
  generalize nodeE x = K at *
  by_cases hK : K = 0
  · have hU : errV K = .nilIface := if_pos hK
    have hQ : (K == 0) = true := by simpa using hK
    rw [hU] at cN q1 q2 fin
    rw [hQ] at q1
    rw [hQ]
    clear hU hQ hK
    clear henv hx
    go_enter Tryz.func16, Tryz.ntmps16
    go_wp2_with fail
    refine cN.mono ?_
    rintro e w1 ⟨rfl, b2⟩
    have b3 : Below W.heap.size W w1 := b1.trans (b2.mono (by simp))
    have e1 : w1.cell? ⟨p, 0, none⟩ = some (errV s) := by rw [b3.cell (p := ⟨p, 0, none⟩) h3]; exact h1
    have e2 : w1.frozen? ⟨p, 0, none⟩ = false := by rw [b3.frozen (p := ⟨p, 0, none⟩) h3]; exact h2
    have FN : Hid ((∀ j, ErrIn p (w1.setCell ⟨p, 0, none⟩ .nilIface) K j) ∧ But p W (w1.setCell ⟨p, 0, none⟩ .nilIface)) := fin.out w1 b2
    have hl : p < w1.heap.size := by have := b3.size; omega
    clear fin cN b1 b2 b3 h1 h2
    go_wp2
    go_ret
    exact ⟨rfl, fun _ => FN.out.1 _, fun _ => FN.out.1 _, FN.out.2⟩
  · have hU : errV K = .iface 42 (.int .i64 K) := if_neg hK
    have hQ : (K == 0) = false := by simpa using hK
    rw [hU] at cN q1 q2 fin
    rw [hQ] at q1
    rw [hQ]
    clear hU hQ hK
    clear henv hx
    go_enter Tryz.func16, Tryz.ntmps16
    go_wp2_with fail
    refine cN.mono ?_
    rintro e w1 ⟨rfl, b2⟩
    have b3 : Below W.heap.size W w1 := b1.trans (b2.mono (by simp))
    have e1 : w1.cell? ⟨p, 0, none⟩ = some (errV s) := by rw [b3.cell (p := ⟨p, 0, none⟩) h3]; exact h1
    have e2 : w1.frozen? ⟨p, 0, none⟩ = false := by rw [b3.frozen (p := ⟨p, 0, none⟩) h3]; exact h2
    have FN : Hid ((∀ j, ErrIn p (w1.setCell ⟨p, 0, none⟩ (.iface 42 (.int .i64 K))) K j) ∧ But p W (w1.setCell ⟨p, 0, none⟩ (.iface 42 (.int .i64 K)))) := fin.out w1 b2
    have hl : p < w1.heap.size := by have := b3.size; omega
    clear fin cN b1 b2 b3 h1 h2
    go_wp2
    go_ret
    exact ⟨rfl, fun _ => FN.out.1 _, fun _ => FN.out.1 _, FN.out.2⟩
set_option maxHeartbeats 1000000 in
set_option maxRecDepth 20000 in
theorem check_tree (x : Ex) (lo : Nat → Prop) (v : Value) (w : World) (henv : TEnv w) (hx : ExIn w lo v x) (hsz : (x.pre 1).length ≤ 1048576) :
    Calls Tryz.prog 7 #[v] w fun e w' => e = .returned (errV (ckP x)) ∧ Below w.heap.size w w' := by
  obtain ⟨o1, n1, t1, k1, s1, p1, m1, c1, a1, rfl⟩ := hx.agg
  have b1 : Below w.heap.size w (w.alloc (.cells #[.string o1, .string n1, .int .i64 t1, .int .i64 k1, .string s1, .slice p1 m1 c1, .int .i64 a1] 26)) := al w _
  have cT := tooGreat_any x (fun b => lo b ∧ b < w.heap.size) _ _ ((ExIn.low (fun b h1 h2 => ⟨h2, h1⟩) _ _ hx).on b1) hsz
  have hG := henv.big
  have cW : ∀ w1 : World, Below (w.alloc (.cells #[.string o1, .string n1, .int .i64 t1, .int .i64 k1, .string s1, .slice p1 m1 c1, .int .i64 a1] 26)).heap.size (w.alloc (.cells #[.string o1, .string n1, .int .i64 t1, .int .i64 k1, .string s1, .slice p1 m1 c1, .int .i64 a1] 26)) w1 → Calls Tryz.prog 15 #[.agg #[.string o1, .string n1, .int .i64 t1, .int .i64 k1, .string s1, .slice p1 m1 c1, .int .i64 a1], .func (.func 16) #[] #[.pointer (some ⟨w1.heap.size, 0, none⟩)]] (w1.alloc (.cells #[.nilIface] 33)) fun e w' => e = .returned (.bool (foldP fck 0 (x.pre 1)).2) ∧ w'.cell? ⟨w1.heap.size, 0, none⟩ = some (errV (foldP fck 0 (x.pre 1)).1) ∧ w1.heap.size < w'.heap.size ∧ Below w.heap.size w w' := by
    intro w1 b2
    have b3 : Below w.heap.size w w1 := b1.trans (b2.mono (by simp))
    have hz1 : w.heap.size + 1 ≤ w1.heap.size := by have := b2.size; simpa using this
    have b4 : Below w.heap.size w (w1.alloc (.cells #[.nilIface] 33)) := b3.trans ((al _ _).mono b3.size)
    have cc := walk_any fck 16 (fun args W => by kernel_rfl) w1.heap.size (ErrIn w1.heap.size) (fun W s => ErrIn w1.heap.size W s 0) (fun b => lo b ∧ b < w.heap.size) (w1.alloc (.cells #[.nilIface] 33)) _ x 0 (by simp) ((ExIn.low (fun b h1 h2 => ⟨h2, h1⟩) _ _ hx).on b4) (fun b h1 _ => by have := h1.2; omega) hsz
      (fun W v y d s m _ hy _ hs => check1_any _ W v _ y d s m hy hs)
      (fun W W' s m hb hz hs => by
        obtain ⟨⟨h1, h2, h3⟩, h4, h5⟩ := hs
        exact ⟨⟨by rw [hb.cell (p := ⟨w1.heap.size, 0, none⟩) (by simp)]; exact h1, by rw [hb.frozen (p := ⟨w1.heap.size, 0, none⟩) (by simp)]; exact h2, by omega⟩, h4.onB hb (by simp; omega) hz, h5⟩)
      ⟨⟨by rw [World.cell?_alloc_at _ _ _ _ rfl]; rfl, World.frozen?_alloc_at _ _ _ _ rfl, by simp⟩, henv.on b4, by omega⟩
    refine cc.mono ?_
    rintro e w' ⟨he, g1, g2, g3⟩
    have gz := g3.size
    simp at gz
    refine ⟨he, ?_, by omega, b4.trans (g3.below.mono (by omega))⟩
    cases hq : (foldP fck 0 (x.pre 1)).2
    · exact (g2 hq).1.1
    · exact (g1 hq).1.1
  obtain ⟨K, hK⟩ : ∃ K, errV (ckP x) = K := ⟨_, rfl⟩
  have HK : Hid (errV (ckP x) = K) := hK
  rw [hK]
  rw [ckP] at HK
  generalize foldP fck 0 (x.pre 1) = T at cW HK
  obtain ⟨T1, T2⟩ := T
  simp only at cW HK
  generalize tgB x = G at cT HK
  cases G
  · have HV : Hid (errV T1 = K) := by show _ = _; rw [← HK.out]; rfl
    clear HK
    generalize errV T1 = U at *
    go_enter Tryz.func7, Tryz.ntmps7
    go_wp2_with fail
    refine cT.mono ?_
    rintro e w1 ⟨rfl, b2⟩
    have cc := cW w1 b2
    have hz1 : w.heap.size < w1.heap.size := by have := b2.size; simp at this; omega
    have gB : ∀ i, w1.cell? ⟨w.heap.size, i, none⟩ = (#[.string o1, .string n1, .int .i64 t1, .int .i64 k1, .string s1, .slice p1 m1 c1, .int .i64 a1] : Array Value)[i]? := fun i => by rw [b2.cell (p := ⟨w.heap.size, i, none⟩) (by simp), World.cell?_alloc_at _ _ _ _ rfl]
    have g0 : w1.cell? ⟨w.heap.size, 0, none⟩ = some (.string o1) := gB 0
    have g1 : w1.cell? ⟨w.heap.size, 1, none⟩ = some (.string n1) := gB 1
    have g2 : w1.cell? ⟨w.heap.size, 2, none⟩ = some (.int .i64 t1) := gB 2
    have g3 : w1.cell? ⟨w.heap.size, 3, none⟩ = some (.int .i64 k1) := gB 3
    have g4 : w1.cell? ⟨w.heap.size, 4, none⟩ = some (.string s1) := gB 4
    have g5 : w1.cell? ⟨w.heap.size, 5, none⟩ = some (.slice p1 m1 c1) := gB 5
    have g6 : w1.cell? ⟨w.heap.size, 6, none⟩ = some (.int .i64 a1) := gB 6
    clear gB cW
    go_wp2_with fail
    refine cc.mono ?_
    rintro e w2 ⟨rfl, hc2, hl2, b5⟩
    go_wp2
    go_ret
    exact ⟨by rw [← HV.out]; rfl, b5⟩
  · have HV : Hid ((.iface 42 (.int .i64 4) : Value) = K) := by show _ = _; rw [← HK.out]; rfl
    clear HK cW
    go_enter Tryz.func7, Tryz.ntmps7
    go_wp2_with fail
    refine cT.mono ?_
    rintro e w1 ⟨rfl, b2⟩
    go_wp2
    go_ret
    exact ⟨by rw [← HV.out]; rfl, b1.trans (b2.mono (by simp))⟩
end Go.Proofs.YticdcnbeemkapaaGreatDoor
namespace Go.Proofs.YticdcnbeemkapaaGreatDoor
open Go.RowKit Go.BigFrame
set_option linter.unusedVariables false

set_option maxHeartbeats 4000000 in
set_option maxRecDepth 20000 in
theorem typeOfColumn_any (x : Ex) (lo : Nat → Prop) (v : Value) (b off c : Nat) (zs : List (ByteArray × Int)) (w : World) (henv : KEnv w) (hx : ExIn w lo v x) (hn : zs.length ≤ 6) (hc : ColsIn w b off zs) (T H P : Int) (hR : (if findN x.nm.data.toList zs = -1 then (0, 5, x.pos) else ((zs[(findN x.nm.data.toList zs).toNat]?.getD default).2, 0, 0)) = (T, H, P)) :
    Calls Tryz.prog 29 #[v, .slice (some ⟨b, off, none⟩) zs.length c] w fun e w' => e = .returned (.tuple #[.int .i64 T, .agg #[.int .i64 H, .int .i64 P]]) ∧ Below w.heap.size w w' := by
  obtain ⟨p, c1, rfl, _, _, _, _⟩ := hx.whole
  have b1 : Below w.heap.size w ((w.alloc (.cells #[.string x.op, .string x.nm, .int .i64 x.vt, .int .i64 x.vn, .string x.vs, .slice p x.args.length c1, .int .i64 x.pos] 26)).alloc (.cells #[.int .i64 0, .int .i64 0] 46)) := ((Below.refl _ w).alloc (Nat.le_refl _) _).alloc (by simp) _
  have key : ∀ w1, Below ((w.alloc (.cells #[.string x.op, .string x.nm, .int .i64 x.vt, .int .i64 x.vn, .string x.vs, .slice p x.args.length c1, .int .i64 x.pos] 26)).alloc (.cells #[.int .i64 0, .int .i64 0] 46)).heap.size ((w.alloc (.cells #[.string x.op, .string x.nm, .int .i64 x.vt, .int .i64 x.vn, .string x.vs, .slice p x.args.length c1, .int .i64 x.pos] 26)).alloc (.cells #[.int .i64 0, .int .i64 0] 46)) w1 → w1.cell? ⟨w.heap.size, 6, none⟩ = some (.int .i64 x.pos) ∧ w1.cell? ⟨w.heap.size + 1, 0, none⟩ = some (.int .i64 0) ∧ w1.cell? ⟨w.heap.size + 1, 1, none⟩ = some (.int .i64 0) ∧ (∀ o, w1.frozen? ⟨w.heap.size + 1, o, none⟩ = false) ∧ w.heap.size + 1 < w1.heap.size := fun w1 b2 => by
    have hz := b2.size
    simp at hz
    refine ⟨?_, ?_, ?_, fun o => ?_, by omega⟩
    · rw [b2.cell (p := ⟨w.heap.size, 6, none⟩) (by simp; omega), World.cell?_alloc_lt _ _ _ (by simp), World.cell?_alloc_at _ _ _ _ rfl]; rfl
    · rw [b2.cell (p := ⟨w.heap.size + 1, 0, none⟩) (by simp), World.cell?_alloc_at _ _ _ _ (by simp)]; rfl
    · rw [b2.cell (p := ⟨w.heap.size + 1, 1, none⟩) (by simp), World.cell?_alloc_at _ _ _ _ (by simp)]; rfl
    · rw [b2.frozen (p := ⟨w.heap.size + 1, o, none⟩) (by simp), World.frozen?_alloc_at _ _ _ _ (by simp)]
  have HE : Aside (KEnv w) := henv
  have HCc : Aside (ColsIn w b off zs) := hc
  by_cases h1 : findN x.nm.data.toList zs = -1
  · rw [if_pos h1] at hR
    simp only [Prod.mk.injEq] at hR
    obtain ⟨rfl, rfl, rfl⟩ := hR
    have cF := find_none x.nm b off c zs _ (by omega) (hc.on b1) h1
    clear h1 hx henv hc
    generalize x.op = OP at *
    generalize x.nm = NM at *
    generalize x.vs = VS at *
    generalize x.vt = VT at *
    generalize x.vn = VN at *
    generalize x.pos = PS at *
    generalize x.args.length = M at *
    go_enter Tryz.func29, Tryz.ntmps29
    go_wp2_with fail
    refine cF.mono ?_
    rintro e w1 ⟨rfl, b2⟩
    obtain ⟨k6, f0, f1, ff, hl⟩ := key w1 b2
    have b3 : Below w.heap.size w w1 := b1.trans (b2.mono b1.size)
    have cP := faultOf_any 5 PS w1 (HE.out.on b3)
    have hl0 : w.heap.size < w1.heap.size := by omega
    clear key cF b1 HE HCc
    go_wp2_with fail
    refine cP.mono ?_
    rintro e w2 ⟨rfl, b4⟩
    have g0 : w2.cell? ⟨w.heap.size + 1, 0, none⟩ = some (.int .i64 0) := by rw [b4.cell (p := ⟨w.heap.size + 1, 0, none⟩) hl]; exact f0
    have g1 : w2.cell? ⟨w.heap.size + 1, 1, none⟩ = some (.int .i64 0) := by rw [b4.cell (p := ⟨w.heap.size + 1, 1, none⟩) hl]; exact f1
    have gf : ∀ o, w2.frozen? ⟨w.heap.size + 1, o, none⟩ = false := fun o => by rw [b4.frozen (p := ⟨w.heap.size + 1, o, none⟩) hl]; exact ff o
    have hl2 : w.heap.size + 1 < w2.heap.size := by have := b4.size; omega
    have b5 : Below w.heap.size w w2 := b3.trans (b4.mono b3.size)
    clear cP b2 b3 b4
    go_wp2
    refine bodyPost_ret (v := .tuple #[.int .i64 0, .agg #[.int .i64 5, .int .i64 PS]]) (by simp [results, Tryz.results29, go_sem, World.cell?_setCell_other, World.cell?_setCell_same, g0, g1]) rfl ⟨rfl, ?_⟩
    exact (b5.setCell (p := ⟨w.heap.size + 1, 0, none⟩) (Nat.le_succ _) _).setCell (p := ⟨w.heap.size + 1, 1, none⟩) (Nat.le_succ _) _
  · rw [if_neg h1] at hR
    simp only [Prod.mk.injEq] at hR
    obtain ⟨hT, rfl, rfl⟩ := hR
    rcases findN_cases x.nm.data.toList zs with ⟨h, _⟩ | ⟨k, hk, hkl, _⟩
    · exact absurd h h1
    have HTk : Hid (zs[k].2 = T) := by
      show _ = _
      rw [← hT, hk]
      simp [hkl]
    have cF := find_any x.nm b off c zs _ (by omega) (hc.on b1) k hk
    clear h1 hx henv hT hk
    generalize x.op = OP at *
    generalize x.nm = NM at *
    generalize x.vs = VS at *
    generalize x.vt = VT at *
    generalize x.vn = VN at *
    generalize x.pos = PS at *
    generalize x.args.length = M at *
    have hk0 : (0 : Int) ≤ (k : Int) := by omega
    have hkz : (k : Int) < (zs.length : Int) := by omega
    go_enter Tryz.func29, Tryz.ntmps29
    go_wp2_with fail
    refine cF.mono ?_
    rintro e w1 ⟨rfl, b2⟩
    obtain ⟨k6, f0, f1, ff, hl⟩ := key w1 b2
    have b3 : Below w.heap.size w w1 := b1.trans (b2.mono b1.size)
    obtain ⟨hbl, hcc⟩ := HCc.out.on b3
    have ct := (hcc k hkl).2
    rw [HTk.out] at ct
    clear key cF b1 HE HCc hcc HTk hc
    go_wp2
    refine bodyPost_ret (v := .tuple #[.int .i64 T, .agg #[.int .i64 0, .int .i64 0]]) (by simp [results, Tryz.results29, go_sem, World.cell?_setCell_other, World.cell?_setCell_same, f0, f1]) rfl ⟨rfl, ?_⟩
    exact (b3.setCell (p := ⟨w.heap.size + 1, 0, none⟩) (Nat.le_succ _) _).setCell (p := ⟨w.heap.size + 1, 1, none⟩) (Nat.le_succ _) _
end Go.Proofs.YticdcnbeemkapaaGreatDoor
