/-
  The document's reading of what is the tightest (package sluiceref1, In.one), way by way.
-/
import Derived.Test.YtnpinbpjfngknaaGreatDoorLoG
import Derived.Test.YtnpinbpjfngknaaGreatDoorTreeP2
import Derived.Test.YtnpinbpjfngknaaGreatDoorLo3
namespace Go.Proofs.YtnpinbpjfngknaaGreatDoor
open Go.RowKit
set_option linter.unusedVariables false
set_option linter.unusedSimpArgs false

/-- A call of Expr at a level gives this expression, and the reader stands so. -/
def GivesE (r : Nat) (tp : Option Addr) (tc : Nat) (ts : List Tok) (en : Nat) (lv : Int) (st : St) (x : Ex) (s1 : St) : Prop :=
  ∀ W, InAt W r tp tc ts en st → Calls Tryz.prog 16 #[.pointer (some ⟨r, 0, none⟩), .int .i64 lv] W fun e w' => ∃ v, e = .returned v ∧ ExIn w' (fun b => W.heap.size ≤ b) v x ∧ InAt w' r tp tc ts en s1 ∧ But r W w'
/-- The same of one. -/
def GivesO (r : Nat) (tp : Option Addr) (tc : Nat) (ts : List Tok) (en : Nat) (st : St) (x : Ex) (s1 : St) : Prop :=
  ∀ W, InAt W r tp tc ts en st → Calls Tryz.prog 38 #[.pointer (some ⟨r, 0, none⟩)] W fun e w' => ∃ v, e = .returned v ∧ ExIn w' (fun b => W.heap.size ≤ b) v x ∧ InAt w' r tp tc ts en s1 ∧ But r W w'
theorem ExIn.lowB {w : World} {a b : Nat} {v : Value} {x : Ex} (h : ExIn w (fun k => b ≤ k) v x) (hab : a ≤ b) : ExIn w (fun k => a ≤ k) v x := ExIn.low (fun k _ hk => Nat.le_trans hab hk) _ _ h
theorem has_yes (w : World) (r : Nat) (tp : Option Addr) (tc : Nat) (ts : List Tok) (en : Nat) (st : St) (s : ByteArray) (h : InAt w r tp tc ts en st) (hn : ts.length ≤ 400) (hi : st.i ≤ 1000) (hb : isT ts st s.data.toList = true) :
    Calls Tryz.prog 37 #[.pointer (some ⟨r, 0, none⟩), .string s] w fun e w' => e = .returned (.bool true) ∧ InAt w' r tp tc ts en (adv st) ∧ But r w w' := by
  have h := in_has w r tp tc ts en st s h hn hi
  rw [hasT_yes hb, hb] at h
  exact h
theorem has_no (w : World) (r : Nat) (tp : Option Addr) (tc : Nat) (ts : List Tok) (en : Nat) (st : St) (s : ByteArray) (h : InAt w r tp tc ts en st) (hn : ts.length ≤ 400) (hi : st.i ≤ 1000) (hb : isT ts st s.data.toList = false) :
    Calls Tryz.prog 37 #[.pointer (some ⟨r, 0, none⟩), .string s] w fun e w' => e = .returned (.bool false) ∧ InAt w' r tp tc ts en st ∧ But r w w' := by
  have h := in_has w r tp tc ts en st s h hn hi
  rw [hasT_no hb, hb] at h
  exact h
/-- Ahead of a call there is a place for what is returned. -/
def zE : Obj := .cells #[.string ⟨#[]⟩, .string ⟨#[]⟩, .int .i64 0, .int .i64 0, .string ⟨#[]⟩, .slice none 0 0, .int .i64 0] 26
theorem in_z {w : World} {r : Nat} {tp : Option Addr} {tc : Nat} {ts : List Tok} {en : Nat} {st : St} (h : InAt w r tp tc ts en st) : InAt (w.alloc zE) r tp tc ts en st ∧ But r w (w.alloc zE) ∧ r < w.heap.size := by
  have b := (Below.refl w.heap.size w).alloc (Nat.le_refl _) zE
  exact ⟨h.on b, But.of_below b (Nat.le_of_lt h.lt), h.lt⟩
theorem own_ne {r a : Nat} (h : r < a) : ∀ b, a ≤ b → b ≠ r := fun b hb => by omega
/-- The words lie elsewhere. -/
def TokNe (tp : Option Addr) (ts : List Tok) (z : Nat) : Prop := ts.length = 0 ∨ ∃ b off, tp = some ⟨b, off, none⟩ ∧ b ≠ z
theorem InAt.ne {w : World} {r : Nat} {tp : Option Addr} {tc : Nat} {ts : List Tok} {en : Nat} {st : St} (h : InAt w r tp tc ts en st) {z : Nat} (hz : w.heap.size ≤ z) : TokNe tp ts z := by
  rcases h.toks with h0 | ⟨b, off, e, _, h2⟩
  · exact .inl h0
  · exact .inr ⟨b, off, e, by have := h2.1; omega⟩
theorem InAt.set7 {w : World} {r : Nat} {tp : Option Addr} {tc : Nat} {ts : List Tok} {en : Nat} {st : St} (h : InAt w r tp tc ts en st) {z : Nat} (hz : r ≠ z) (ht : TokNe tp ts z) (v0 v1 v2 v3 v4 v5 v6 : Value) : InAt (((((((w.setCell ⟨z, 0, none⟩ v0).setCell ⟨z, 1, none⟩ v1).setCell ⟨z, 2, none⟩ v2).setCell ⟨z, 3, none⟩ v3).setCell ⟨z, 4, none⟩ v4).setCell ⟨z, 5, none⟩ v5).setCell ⟨z, 6, none⟩ v6) r tp tc ts en st := by
  obtain ⟨c0, c1, c2, c3, f1, f3, lt, tk⟩ := h
  refine ⟨by simp [World.cell?_setCell_other, hz, c0], by simp [World.cell?_setCell_other, hz, c1], by simp [World.cell?_setCell_other, hz, c2], by simp [World.cell?_setCell_other, hz, c3], by simpa using f1, by simpa using f3, by simpa [World.setCell] using lt, ?_⟩
  rcases tk with h0 | ⟨b, off, e, hb, h2⟩
  · exact .inl h0
  · rcases ht with h0 | ⟨b', off', e', hb'⟩
    · exact .inl h0
    · rw [e] at e'
      simp only [Option.some.injEq, Addr.mk.injEq] at e'
      have hbz : b ≠ z := by rw [e'.1]; exact hb'
      exact .inr ⟨b, off, e, hb, by simpa [World.setCell] using h2.1, fun j hj => by
        simpa [World.cell?_setCell_other] using h2.2 j hj⟩
set_option maxHeartbeats 4000000 in
theorem ref_one_br (r : Nat) (tp : Option Addr) (tc : Nat) (ts : List Tok) (en : Nat) (st : St) (x : Ex) (s1 : St) (hn : ts.length ≤ 400) (hi : st.i ≤ 1000) (hs1 : s1.i ≤ 1000) (hb : isT ts st [40] = true) (cE : GivesE r tp tc ts en 0 (adv st) x s1) : GivesO r tp tc ts en st x (needT ts en s1 [41]) := by
  intro w h
  obtain ⟨hz, bz, hrl⟩ := in_z h
  have hT : TokNe tp ts w.heap.size := h.ne (Nat.le_refl _)
  have cA := in_at _ r tp tc ts en st hz hn (by omega)
  have cH := fun q => has_yes ((w.alloc zE).drewN q) r tp tc ts en st ⟨#[40]⟩ (hz.same rfl) hn hi hb
  have X0 : Box7 (w.alloc zE) w.heap.size (.string ⟨#[]⟩) (.string ⟨#[]⟩) (.int .i64 0) (.int .i64 0) (.string ⟨#[]⟩) (.slice none 0 0) (.int .i64 0) := box7_alloc w _ _ _ _ _ _ _ _
  clear hb h hz
  go_enter Tryz.func38, Tryz.ntmps38
  go_wp2_with fail
  refine cA.mono ?_
  rintro e w1 ⟨rfl, q, rfl⟩
  go_wp2_with fail
  refine (cH q).mono ?_
  rintro e w2 ⟨rfl, h2, b2⟩
  have b2' : But r w w2 := (bz.drewN q).trans b2
  have b2z : But r (w.alloc zE) w2 := ((But.refl r _).drewN q).trans b2
  have hz2 : w.heap.size + 1 ≤ w2.heap.size := by have := b2z.size; simpa [zE] using this
  clear b2 cH cA bz
  go_wp2_with fail
  refine (cE w2 h2).mono ?_
  rintro e w3 ⟨v, rfl, hx, h3, b3⟩
  have b3' : But r w w3 := b2'.trans b3
  have X3 := X0.but (b2z.trans b3) (by omega)
  have hx3 := hx.lowB hz2
  obtain ⟨o1, n1, t1, k1, z1, p1, m1, c1, a1, rfl⟩ := hx.agg
  have L3 := box7_alloc w3 (.string o1) (.string n1) (.int .i64 t1) (.int .i64 k1) (.string z1) (.slice p1 m1 c1) (.int .i64 a1) 26
  have al3 := (Below.refl w3.heap.size w3).alloc (Nat.le_refl _) (.cells #[.string o1, .string n1, .int .i64 t1, .int .i64 k1, .string z1, .slice p1 m1 c1, .int .i64 a1] 26)
  have hr3 := h3.lt
  clear b3 h2 cE b2' hx X0 b2z
  go_wp2_with fail
  refine (in_need _ r tp tc ts en s1 ⟨#[41]⟩ (h3.on al3) hn hs1).mono ?_
  rintro e w4 ⟨rfl, h4, b4⟩
  have b5 : But r w3 w4 := (But.of_below al3 (Nat.le_of_lt hr3)).trans b4
  have hx4 := hx3.but b5 (own_ne (by omega))
  obtain ⟨c0, c1', c2, c3, c4, c5, c6, cf, cl⟩ := L3.but b4 (by omega)
  obtain ⟨d0, d1, d2, d3, d4, d5, d6, df, dl⟩ := X3.but b5 (by omega)
  have df0 := df 0
  have df1 := df 1
  have df2 := df 2
  have df3 := df 3
  have df4 := df 4
  have df5 := df 5
  have df6 := df 6
  clear b4 hx3 df cf L3 X3 al3 h3
  go_wp2
  refine bodyPost_ret (v := .agg #[.string o1, .string n1, .int .i64 t1, .int .i64 k1, .string z1, .slice p1 m1 c1, .int .i64 a1]) (by simp [results, Tryz.results38, go_sem, d0, d1, d2, d3, d4, d5, d6, dl]) rfl ⟨_, rfl, ?_, ?_, ?_⟩
  · exact ((hx4.set7 (own_ne (Nat.lt_succ_self _)) _ _ _ _ _ _ _)).lowB (Nat.le_succ _)
  · exact h4.set7 (by omega) hT _ _ _ _ _ _ _
  · exact (b3'.trans b5).set7 (Nat.le_refl _) (by omega) _ _ _ _ _ _ _
end Go.Proofs.YtnpinbpjfngknaaGreatDoor
