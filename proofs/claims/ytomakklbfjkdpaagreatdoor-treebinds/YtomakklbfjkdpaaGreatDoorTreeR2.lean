/-
  The program's reader of words (package tree): the words ahead, and take.
-/
import Derived.Test.YtomakklbfjkdpaaGreatDoorTreeR1
import Derived.Test.YtomakklbfjkdpaaGreatDoorTreeIn
namespace Go.Proofs.YtomakklbfjkdpaaGreatDoor
open Go.RowKit Go.BigFrame
set_option linter.unusedVariables false

/-- The reader lies in block r: the words that are ahead. -/
structure RdAt (w : World) (r : Nat) (ts : List Tok) : Prop where
  cell : ∃ p c, w.cell? ⟨r, 0, none⟩ = some (.slice p ts.length c) ∧ ts.length ≤ c ∧ (ts.length = 0 ∨ ∃ b off, p = some ⟨b, off, none⟩ ∧ b < r ∧ ToksIn w b off ts)
  fz : w.frozen? ⟨r, 0, none⟩ = false
  lt : r < w.heap.size
theorem RdAt.on {w w' : World} {r : Nat} {ts : List Tok} (h : RdAt w r ts) (hb : Below w.heap.size w w') : RdAt w' r ts := by
  obtain ⟨⟨p, c, h1, h2, h3⟩, hf, hl⟩ := h
  refine ⟨⟨p, c, by rw [hb.cell (p := ⟨r, 0, none⟩) hl]; exact h1, h2, ?_⟩, by rw [hb.frozen (p := ⟨r, 0, none⟩) hl]; exact hf, by have := hb.size; omega⟩
  rcases h3 with h0 | ⟨b, off, e1, e2, h4⟩
  · exact .inl h0
  · exact .inr ⟨b, off, e1, e2, h4.on hb⟩
theorem RdAt.onB {w w' : World} {r : Nat} {ts : List Tok} (h : RdAt w r ts) (hb : Below (r + 1) w w') (hs : w.heap.size ≤ w'.heap.size) : RdAt w' r ts := by
  obtain ⟨⟨p, c, h1, h2, h3⟩, hf, hl⟩ := h
  refine ⟨⟨p, c, by rw [hb.cell (p := ⟨r, 0, none⟩) (Nat.lt_succ_self r)]; exact h1, h2, ?_⟩, by rw [hb.frozen (p := ⟨r, 0, none⟩) (Nat.lt_succ_self r)]; exact hf, by omega⟩
  rcases h3 with h0 | ⟨b, off, e1, e2, h4⟩
  · exact .inl h0
  · refine .inr ⟨b, off, e1, e2, by have := h4.1; omega, fun j hj => ?_⟩
    rw [hb.cell (p := ⟨b, off + j * 3, none⟩) (by simp; omega), hb.cell (p := ⟨b, off + j * 3 + 1, none⟩) (by simp; omega), hb.cell (p := ⟨b, off + j * 3 + 2, none⟩) (by simp; omega)]
    exact h4.2 j hj
theorem But.of_below' {r : Nat} {w w' : World} (h : Below w.heap.size w w') (hr : r ≤ w.heap.size) : But r w w' := ⟨h.mono hr, h.size, fun k hk _ => h.block k hk⟩
theorem But.setNew {r : Nat} {w w1 : World} (h : But r w w1) (z o : Nat) (hz : w.heap.size ≤ z) (hr : r ≤ z) (v : Value) : But r w (w1.setCell ⟨z, o, none⟩ v) :=
  ⟨h.below.setCell (p := ⟨z, o, none⟩) hr v, by have := h.size; simpa [World.setCell] using this, fun k hk hkr => by rw [Below.heap_setCell _ _ _ _ (fun e => by simp at e; omega)]; exact h.kept k hk hkr⟩
theorem But.alloc {r : Nat} {w w1 : World} (h : But r w w1) (hr : r ≤ w1.heap.size) (o : Obj) : But r w (w1.alloc o) :=
  ⟨h.below.alloc hr o, by have := h.size; simp; omega, fun k hk hkr => by
    rw [((Below.refl w1.heap.size w1).alloc (Nat.le_refl _) o).block k (by have := h.size; omega)]; exact h.kept k hk hkr⟩
/-- A slice of the words from the next one on. -/
theorem RdAt.step {w W : World} {r : Nat} {t : Tok} {ts : List Tok} {p p' : Option Addr} {c c' : Nat} (h : RdAt w r (t :: ts)) (hp : w.cell? ⟨r, 0, none⟩ = some (.slice p (t :: ts).length c)) (hp' : p' = if c = 1 then p else p.map (·.add (1 * 3))) (hc' : c' = c - 1)
    (hb : But r w W) (hW : W.cell? ⟨r, 0, none⟩ = some (.slice p' ts.length c')) (hf : W.frozen? ⟨r, 0, none⟩ = false) : RdAt W r ts := by
  obtain ⟨⟨q, d, h1, h2, h3⟩, _, hl⟩ := h
  rw [h1] at hp
  obtain ⟨rfl, hd⟩ : q = p ∧ d = c := by
    injection hp with hp
    injection hp with e1 e2 e3
    exact ⟨e1, e3⟩
  subst hd
  simp only [List.length_cons] at h2
  refine ⟨⟨p', c', hW, by omega, ?_⟩, hf, by have := hb.size; omega⟩
  rcases Nat.eq_zero_or_pos ts.length with h0 | h0
  · exact .inl h0
  · right
    rcases h3 with h3 | ⟨b, off, rfl, hbr, h4⟩
    · simp at h3
    · refine ⟨b, off + 3, ?_, hbr, by have := h4.1; have := hb.size; omega, fun j hj => ?_⟩
      · rw [hp', if_neg (by omega)]; rfl
      · have := h4.2 (j + 1) (by simpa using hj)
        simp only [show off + (j + 1) * 3 = off + 3 + j * 3 from by omega, List.getElem_cons_succ] at this
        rw [hb.cell _ h4.1 (by omega), hb.cell _ h4.1 (by omega), hb.cell _ h4.1 (by omega)]
        exact this
def noTok : Value := .agg #[.int .i64 0, .string ⟨#[]⟩, .int .i64 0]
set_option maxHeartbeats 4000000 in
set_option maxRecDepth 20000 in
theorem take_none (w : World) (r : Nat) (so : Value) (h : RdAt w r []) :
    Calls Tryz.prog 74 #[.pointer (some ⟨r, 0, none⟩), so] w fun e w' => e = .returned (.tuple #[noTok, .bool false]) ∧ RdAt w' r [] ∧ But r w w' := by
  have h0 := h
  obtain ⟨⟨p, c, h1, h2, h3⟩, hf, hl⟩ := h0
  simp only [List.length_nil] at h1
  go_enter Tryz.func74, Tryz.ntmps74
  go_wp2
  refine bodyPost_ret (v := .tuple #[noTok, .bool false]) (by simp [results, Tryz.results74, go_sem, noTok]) rfl ?_
  have hb := (Below.refl w.heap.size w).alloc (Nat.le_refl _) (.cells #[.int .i64 0, .string ⟨#[]⟩, .int .i64 0] 83)
  exact ⟨rfl, h.on hb, But.of_below' hb (by omega)⟩
set_option maxHeartbeats 4000000 in
set_option maxRecDepth 20000 in
theorem take_gen (f : FuncId) (caps : Array Value) (hent : ∀ (args : Array Value) (W : World), Sem.run Tryz.prog (callFunc f args) W = .ok (.enter f args) W) (w : World) (r : Nat) (t : Tok) (ts : List Tok) (B : Bool) (h : RdAt w r (t :: ts))
    (hf : ∀ W, Below w.heap.size w W → Calls Tryz.prog f (#[tokV t] ++ caps) W fun e w' => e = .returned (.bool B) ∧ Below W.heap.size W w') :
    Calls Tryz.prog 74 #[.pointer (some ⟨r, 0, none⟩), .func (.func f) #[] caps] w fun e w' => e = .returned (.tuple #[if B = true then tokV t else noTok, .bool B]) ∧ RdAt w' r (if B = true then ts else t :: ts) ∧ But r w w' := by
  have h0 := h
  obtain ⟨⟨p, c, h1, h2, h3⟩, hfz, hl⟩ := h0
  rcases h3 with h3 | ⟨b, off, rfl, hbr, h4⟩
  · simp at h3
  obtain ⟨d0, d1, d2⟩ := h4.2 0 (by simp)
  have hbl := h4.1
  have hbr : b ≠ r := by omega
  have hlen : ((t :: ts).length : Int) = (ts.length : Int) + 1 := by simp
  have hnn : ¬ (((t :: ts).length : Int) = 0) := by omega
  have hnb : (((t :: ts).length : Int) == 0) = false := by simpa using hnn
  obtain ⟨tk, tx, ta⟩ := t
  rw [tokV] at hf
  simp only [List.getElem_cons_zero, Nat.zero_mul, Nat.add_zero] at d0 d1 d2 hf
  go_enter Tryz.func74, Tryz.ntmps74
  have hb := (Below.refl w.heap.size w).alloc (Nat.le_refl _) (.cells #[.int .i64 0, .string ⟨#[]⟩, .int .i64 0] 83)
  go_wp2_with fail
  refine (hf _ hb).mono ?_
  rintro e w1 ⟨rfl, b1⟩
  have q0 := fun o => b1.cell (p := ⟨w.heap.size, o, none⟩) (by simp)
  have qf := fun o => b1.frozen (p := ⟨w.heap.size, o, none⟩) (by simp)
  have ql : w.heap.size < w1.heap.size := by have := b1.size; simp at this; omega
  have g0 := q0 0
  have g1 := q0 1
  have g2 := q0 2
  have gf0 := qf 0
  have gf1 := qf 1
  have gf2 := qf 2
  rw [World.cell?_alloc_at _ _ _ _ rfl] at g0 g1 g2
  simp at g0 g1 g2 gf0 gf1 gf2
  have b2 : Below w.heap.size w w1 := hb.trans (b1.mono (by simp))
  have h5 := h.on b2
  rw [← b2.cell (p := ⟨r, 0, none⟩) hl] at h1
  rw [← b2.frozen (p := ⟨r, 0, none⟩) hl] at hfz
  rw [← b2.cell (p := ⟨b, off, none⟩) hbl] at d0
  rw [← b2.cell (p := ⟨b, off + 1, none⟩) hbl] at d1
  rw [← b2.cell (p := ⟨b, off + 2, none⟩) hbl] at d2
  have hl1 : r < w1.heap.size := by omega
  have hbl1 : b < w1.heap.size := by omega
  clear q0 qf hf h4 hb b1
  have HH : Aside (RdAt w r ((tk, tx, ta) :: ts)) := h
  have HC : Aside (w.cell? ⟨r, 0, none⟩ = some (.slice (some ⟨b, off, none⟩) ((tk, tx, ta) :: ts).length c)) := by
    show _ = _
    rw [← b2.cell (p := ⟨r, 0, none⟩) hl]; exact h1
  clear h
  have hne : r ≠ w.heap.size := by omega
  have BB := But.of_below' b2 (r := r) (by omega)
  cases B
  · go_wp2
    refine bodyPost_ret (v := .tuple #[noTok, .bool false]) (by simp [results, Tryz.results74, go_sem, noTok, g0, g1, g2]) rfl ?_
    exact ⟨rfl, HH.out.on (((b2.setCell (p := ⟨w.heap.size, 0, none⟩) (Nat.le_refl _) _).setCell (p := ⟨w.heap.size, 1, none⟩) (Nat.le_refl _) _).setCell (p := ⟨w.heap.size, 2, none⟩) (Nat.le_refl _) _), ((BB.setNew _ 0 (Nat.le_refl _) (by omega) _).setNew _ 1 (Nat.le_refl _) (by omega) _).setNew _ 2 (Nat.le_refl _) (by omega) _⟩
  · go_wp2
    all_goals
      refine bodyPost_ret (v := .tuple #[tokV (tk, tx, ta), .bool true]) (by simp [results, Tryz.results74, go_sem, tokV, g0, g1, g2, ql]) rfl ?_
      have B1 := fun u => ((((BB.set 0 u).setNew w.heap.size 0 (Nat.le_refl _) (by omega) (.int .i64 tk)).setNew w.heap.size 1 (Nat.le_refl _) (by omega) (.string tx)).setNew w.heap.size 2 (Nat.le_refl _) (by omega) (.int .i64 (ta : Int))).alloc (by simp [World.setCell]; omega) (.cells #[.int .i64 tk, .string tx, .int .i64 (ta : Int)] 83)
    · refine ⟨rfl, HH.out.step HC.out (p' := some ⟨b, off, none⟩) (c' := 0) (by rw [if_pos ‹c = 1›]) (by omega) (B1 _) ?_ ?_, B1 _⟩
      · rw [World.cell?_alloc_past _ _ _ (by simp [World.setCell]; omega), World.cell?_setCell_other _ _ _ _ (by simp), World.cell?_setCell_other _ _ _ _ (by simp), World.cell?_setCell_other _ _ _ _ (by simp), World.cell?_setCell_same w1 ⟨r, 0, none⟩ _ h1]
      · rw [World.frozen?_alloc_past _ _ _ (by simp [World.setCell]; omega)]
        simpa using hfz
    · refine ⟨rfl, HH.out.step HC.out (p' := some ⟨b, off + 3, none⟩) (c' := c - 1) (by rw [if_neg ‹¬ c = 1›]; rfl) (by omega) (B1 _) ?_ ?_, B1 _⟩
      · rw [World.cell?_alloc_past _ _ _ (by simp [World.setCell]; omega), World.cell?_setCell_other _ _ _ _ (by simp), World.cell?_setCell_other _ _ _ _ (by simp), World.cell?_setCell_other _ _ _ _ (by simp), World.cell?_setCell_same w1 ⟨r, 0, none⟩ _ h1]
      · rw [World.frozen?_alloc_past _ _ _ (by simp [World.setCell]; omega)]
        simpa using hfz
/-- take, over the plain reading. -/
theorem take_none' (P : Tok → Bool) (f : FuncId) (caps : Array Value) (hent : ∀ (args : Array Value) (W : World), Sem.run Tryz.prog (callFunc f args) W = .ok (.enter f args) W) (w : World) (r : Nat) (ts : List Tok) (h : RdAt w r ts)
    (hf : ∀ t ∈ ts, ∀ W, Below w.heap.size w W → Calls Tryz.prog f (#[tokV t] ++ caps) W fun e w' => e = .returned (.bool (P t)) ∧ Below W.heap.size W w') (hn : nxT P ts = none) :
    Calls Tryz.prog 74 #[.pointer (some ⟨r, 0, none⟩), .func (.func f) #[] caps] w fun e w' => e = .returned (.tuple #[noTok, .bool false]) ∧ RdAt w' r ts ∧ But r w w' := by
  cases ts with
  | nil => exact take_none w r _ h
  | cons t ts =>
    have hp : P t = false := by
      rw [nxT] at hn
      split at hn
      · exact absurd hn (by simp)
      · rename_i h1; simpa using h1
    have := take_gen f caps hent w r t ts (P t) h (fun W hb => hf t (by simp) W hb)
    rw [hp] at this
    exact this
theorem take_some (P : Tok → Bool) (f : FuncId) (caps : Array Value) (hent : ∀ (args : Array Value) (W : World), Sem.run Tryz.prog (callFunc f args) W = .ok (.enter f args) W) (w : World) (r : Nat) (t : Tok) (ts rs : List Tok) (h : RdAt w r ts)
    (hf : ∀ t ∈ ts, ∀ W, Below w.heap.size w W → Calls Tryz.prog f (#[tokV t] ++ caps) W fun e w' => e = .returned (.bool (P t)) ∧ Below W.heap.size W w') (hn : nxT P ts = some (t, rs)) :
    Calls Tryz.prog 74 #[.pointer (some ⟨r, 0, none⟩), .func (.func f) #[] caps] w fun e w' => e = .returned (.tuple #[tokV t, .bool true]) ∧ RdAt w' r rs ∧ But r w w' := by
  obtain ⟨rfl, hp⟩ := nxT_len hn
  have := take_gen f caps hent w r t rs (P t) h (fun W hb => hf t (by simp) W hb)
  rw [hp] at this
  exact this
theorem ent_sign (args : Array Value) (W : World) : Sem.run Tryz.prog (callFunc 77 args) W = .ok (.enter 77 args) W := by kernel_rfl
theorem take_sign_none (gs : List (List UInt8)) (p : Nat) (w : World) (r : Nat) (ts : List Tok) (h : RdAt w r ts) (hs : SignIn w p gs) (hn : nxT (sgT gs) ts = none) :
    Calls Tryz.prog 74 #[.pointer (some ⟨r, 0, none⟩), signV p] w fun e w' => e = .returned (.tuple #[noTok, .bool false]) ∧ RdAt w' r ts ∧ But r w w' :=
  take_none' (sgT gs) _ _ ent_sign w r ts h (fun t _ W hb => oneOf1_any t p gs W (hs.on hb)) hn
theorem take_sign_some (gs : List (List UInt8)) (p : Nat) (w : World) (r : Nat) (t : Tok) (ts rs : List Tok) (h : RdAt w r ts) (hs : SignIn w p gs) (hn : nxT (sgT gs) ts = some (t, rs)) :
    Calls Tryz.prog 74 #[.pointer (some ⟨r, 0, none⟩), signV p] w fun e w' => e = .returned (.tuple #[tokV t, .bool true]) ∧ RdAt w' r rs ∧ But r w w' :=
  take_some (sgT gs) _ _ ent_sign w r t ts rs h (fun t _ W hb => oneOf1_any t p gs W (hs.on hb)) hn
end Go.Proofs.YtomakklbfjkdpaaGreatDoor
