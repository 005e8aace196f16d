/-
  FdJ, FdU, Iter, FdV, FdS0, in one text.
-/
import Derived.Test.YtknibfhoecgjlaaGreatDoorQFdI
import Derived.Test.YtknibfhoecgjlaaGreatDoorQTreeWk
import Derived.Test.YtknibfhoecgjlaaGreatDoorGrAm
import Derived.Test.YtknibfhoecgjlaaGreatDoorGrAf
import Derived.Maps.Own
import Derived.Maps.OwnSet
import Derived.Maps.Views
import Derived.Deep.LoopGhost
import Derived.Shelf.SlIter.Nil
import Derived.Shelf.SortM.Plain
import Derived.Shelf.SortM.SortNone
import Derived.Ground.GgzProg
import Derived.Ground.SlgmProg
import Derived.Test.YtknibfhoecgjlaaGreatDoorProg
import Derived.Test.YtknibfhoecgjlaaGreatDoorGrAi
import Derived.Sort.KeysCollected
import Derived.Test.YtknibfhoecgjlaaGreatDoorGrAn
namespace Go.Proofs.YtknibfhoecgjlaaGreatDoor
open Go.RowKit
set_option linter.unusedVariables false

/-- What takes the place of a node whose parts are short; a value that Do says stands at z. -/
def insZ (z : Int) : Ex → Ex
  | .node op nm vt vn vs pos l => match rekP op.data.toList l with
    | some v => .node ⟨#[118, 97, 108]⟩ ⟨#[]⟩ v.1 v.2.1 v.2.2 z []
    | none => insQ (.node op nm vt vn vs pos l) op.data.toList l
theorem insZ_pos (op nm : ByteArray) (vt vn : Int) (vs : ByteArray) (pos : Int) (l : List Ex) : insZ pos (.node op nm vt vn vs pos l) = insP (.node op nm vt vn vs pos l) := by rw [insZ, insP]; cases rekP op.data.toList l <;> rfl
theorem vs_small {q : Ex} (hn : nodeE q = 0) : q.vs.size ≤ 400 := by
  rw [nodeE, nodeB] at hn
  split at hn
  · exact absurd hn (by decide)
  · split at hn
    · exact absurd hn (by decide)
    · rename_i h2
      by_cases hv : (q.op.toList == [118, 97, 108]) = true
      · rw [if_pos hv] at hn
        unfold ckV at hn
        by_cases hc : chk q.vt q.vn q.vs.data.toList = 0
        · have := chk_size hc
          have h40 : q.vs.size ≤ 40 := by simpa using this
          omega
        · rw [if_pos hc] at hn; exact absurd hn hc
      · have hvf : (q.op.toList == [118, 97, 108]) = false := by simpa using hv
        rw [hvf] at h2
        have h3 : q.vs.toList = [] := by
          simp at h2
          exact h2.2.2.2.2
        rw [Lib.toList_data] at h3
        have hs : q.vs.data.size = 0 := by rw [← Array.length_toList, h3]; rfl
        show q.vs.data.size ≤ 400
        omega
theorem insQ_none {n : Ex} {op : List UInt8} {l : List Ex} (h1 : isCh op = false) (h2 : op ≠ [110, 111, 116]) : insQ n op l = n := by
  cases l with
  | nil => rfl
  | cons f r => rw [insQ, if_neg (by rw [h1]; simp), if_neg (fun h => h2 h.1)]
theorem instead_any {zs : List (ByteArray × Int)} {T : Int} (op nm : ByteArray) (vt vn : Int) (vs : ByteArray) (pos : Int) (l : List Ex) (lo : Nat → Prop) (v : Value) (w : World) (hr : Rg zs T (.node op nm vt vn vs pos l)) (hx : ExIn w lo v (.node op nm vt vn vs pos l)) (henv : REnv w) :
    Calls Tryz.prog 50 #[v] w fun e w' => (∃ u, e = .returned u ∧ ExIn w' lo u (insZ pos (.node op nm vt vn vs pos l))) ∧ Below w.heap.size w w' := by
  simp only [insZ]
  have hxx := hx
  rw [ExIn] at hx
  obtain ⟨p, ca, rfl, ⟨hm, hmc⟩, ho, hnm, hvs, hp⟩ := hx
  have hval : ∀ y ∈ l, y.vs.size ≤ 400 ∧ inB y.vn := fun y hy => ⟨vs_small (hr.nd.part y hy).self, (hr.bd.part y hy).self⟩
  by_cases hop : op.data.toList = [118, 97, 108] ∨ op.data.toList = [99, 111, 108]
  · have hl := leaf_args hr.nd.self hop
    subst hl
    have hn := rek_none hop
    have e : (match rekP op.data.toList [] with | some v => Ex.node ⟨#[118, 97, 108]⟩ ⟨#[]⟩ v.1 v.2.1 v.2.2 pos [] | none => insQ (.node op nm vt vn vs pos []) op.data.toList []) = .node op nm vt vn vs pos [] := by rw [hn]; rfl
    rw [e]
    refine (instead_oth op nm vt vn vs pos [] lo p _ ca w hp rfl (by simp) henv hval hn (by rcases hop with h | h <;> rw [h] <;> decide) (by rcases hop with h | h <;> rw [h] <;> decide) (by rcases hop with h | h <;> rw [h] <;> decide) (by rcases hop with h | h <;> rw [h] <;> decide)).mono ?_
    rintro e w' ⟨rfl, hb⟩
    exact ⟨⟨_, rfl, hxx.on hb⟩, hb⟩
  obtain ⟨h1, h2⟩ := not_or.1 hop
  obtain ⟨hpart, hrule⟩ := rg_parts hr h1 h2
  have hl3 : l.length ≤ 1048576 := by
    obtain ⟨r, hf, hlen, -, -⟩ := ruleP_in hrule
    rw [List.length_map] at hlen
    have := (kdCnt_ok r (kdFind_mem hf).1).2
    omega
  cases hR : rekP op.data.toList l with
  | some R =>
    simp only
    refine (instead_val op nm vt vn vs pos l lo p _ ca w hp rfl hl3 henv hval R hR).mono ?_
    rintro e w' ⟨rfl, hb⟩
    have hins := (ins_right hr).1
    have hi : insP (.node op nm vt vn vs pos l) = .node ⟨#[118, 97, 108]⟩ ⟨#[]⟩ R.1 R.2.1 R.2.2 pos [] := by rw [insP, hR]
    rw [hi] at hins
    have hs : R.2.2.size ≤ 400 := vs_small hins.nd.self
    refine ⟨⟨_, rfl, ?_⟩, hb⟩
    rw [ExIn]
    exact ⟨none, 0, rfl, ⟨by simp, by simp⟩, by decide, by decide, by unfold maxLen; omega, .inl rfl⟩
  | none =>
    simp only
    by_cases hc : isCh op.data.toList = true
    · have hops := ch_ops hc
      obtain ⟨f, r, hl⟩ := fd_some hrule
      have h0 : 0 < l.length := by rw [hl]; simp
      have hf0 : l[0] = f := by simp [hl]
      by_cases hf : isV f = true
      · have hmN : chN op.data.toList (f.vn == 1) < l.length := by
          rcases hops with h | h | h
          · rw [h] at hrule
            obtain ⟨a, b, e, -⟩ := fd_rule2 hrule (.inl rfl)
            rw [h, e]; show _ < 2; cases (f.vn == 1) <;> decide
          · rw [h] at hrule
            obtain ⟨a, b, e, -⟩ := fd_rule2 hrule (.inr rfl)
            rw [h, e]; show _ < 2; cases (f.vn == 1) <;> decide
          · rw [h] at hrule
            obtain ⟨a, b, c, e, -⟩ := fd_rule3 hrule
            rw [h, e]; show _ < 3; cases (f.vn == 1) <;> decide
        have e : insQ (.node op nm vt vn vs pos l) op.data.toList l = l[chN op.data.toList (f.vn == 1)] := by
          conv => lhs; arg 3; rw [hl]
          rw [insQ, if_pos ⟨hc, hf⟩, ← hl, List.getElem?_eq_getElem hmN]
          rfl
        rw [e]
        refine (instead_ch op nm vt vn vs pos l lo p _ ca w hp rfl hl3 henv hval hR hc f h0 hf0 hf _ rfl hmN _ rfl).mono ?_
        rintro e w' ⟨⟨yp, yc, rfl, hy⟩, hb⟩
        exact ⟨⟨_, rfl, hy⟩, hb⟩
      · have e : insQ (.node op nm vt vn vs pos l) op.data.toList l = .node op nm vt vn vs pos l := by
          conv => lhs; arg 3; rw [hl]
          have hnn : op.data.toList ≠ [110, 111, 116] := by rcases hops with h | h | h <;> rw [h] <;> decide
          rw [insQ, if_neg (fun h => hf h.2), if_neg (fun h => hnn h.1)]
        rw [e]
        refine (instead_nov op nm vt vn vs pos l lo p _ ca w hp rfl hl3 henv hval hR hc f h0 hf0 (by simpa using hf)).mono ?_
        rintro e w' ⟨rfl, hb⟩
        exact ⟨⟨_, rfl, hxx.on hb⟩, hb⟩
    · have hcf : isCh op.data.toList = false := by simpa using hc
      by_cases hn : op.data.toList = [110, 111, 116]
      · obtain ⟨f, r, hl⟩ := fd_some hrule
        have h0 : 0 < l.length := by rw [hl]; simp
        have hf0 : l[0] = f := by simp [hl]
        by_cases hf : f.op.data.toList = [110, 111, 116]
        · have hfR := hpart f (by rw [hl]; exact List.mem_cons_self ..)
          have hg : 0 < f.args.length := by
            cases f with
            | node fo fn ft fk fs fp fl =>
              obtain ⟨-, gr⟩ := rg_parts hfR (by rw [show fo.data.toList = [110, 111, 116] from hf]; decide) (by rw [show fo.data.toList = [110, 111, 116] from hf]; decide)
              obtain ⟨z, r', e⟩ := fd_some gr
              show 0 < fl.length
              rw [e]; simp
          have e : insQ (.node op nm vt vn vs pos l) op.data.toList l = f.args[0] := by
            conv => lhs; arg 3; rw [hl]
            rw [insQ, if_neg (by rw [hcf]; simp), if_pos ⟨hn, hf⟩, List.getElem?_eq_getElem hg]
            rfl
          rw [e]
          refine (instead_nn op nm vt vn vs pos l lo p _ ca w hp rfl hl3 henv hval hR hn f h0 hf0 hf hg _ rfl).mono ?_
          rintro e w' ⟨⟨yp, yc, rfl, hy⟩, hb⟩
          exact ⟨⟨_, rfl, hy⟩, hb⟩
        · have e : insQ (.node op nm vt vn vs pos l) op.data.toList l = .node op nm vt vn vs pos l := by
            conv => lhs; arg 3; rw [hl]
            rw [insQ, if_neg (by rw [hcf]; simp), if_neg (fun h => hf h.2)]
          rw [e]
          refine (instead_not op nm vt vn vs pos l lo p _ ca w hp rfl hl3 henv hval hR hn f h0 hf0 hf).mono ?_
          rintro e w' ⟨rfl, hb⟩
          exact ⟨⟨_, rfl, hxx.on hb⟩, hb⟩
      · rw [insQ_none hcf hn]
        have q : ¬ (op.data.toList = [111, 114]) ∧ ¬ (op.data.toList = [97, 110, 100]) ∧ ¬ (op.data.toList = [105, 102]) := by
          refine ⟨fun h => ?_, fun h => ?_, fun h => ?_⟩ <;> (rw [h] at hcf; exact absurd hcf (by decide))
        refine (instead_oth op nm vt vn vs pos l lo p _ ca w hp rfl hl3 henv hval hR q.1 q.2.1 q.2.2 hn).mono ?_
        rintro e w' ⟨rfl, hb⟩
        exact ⟨⟨_, rfl, hxx.on hb⟩, hb⟩
end Go.Proofs.YtknibfhoecgjlaaGreatDoor
namespace Go.Proofs.YtknibfhoecgjlaaGreatDoor
open Go.RowKit Go.Maps
set_option linter.unusedVariables false

/-- How what stands at a name is read: it does not matter. -/
abbrev nmR : Value → Option (DataW Unit × List MemPlace) := fun _ => some (.nil, [])
theorem nmK : Keyed Tryz.prog 9 := string_keyed Tryz.underlying9
/-- A map that has just these names. -/
def NmAt (w : World) (mb n : Nat) (S : List (List UInt8)) : Prop := ∃ D, w.ownsMap Tryz.prog 9 nmR mb n D ∧ ∀ x, has D (.string x) = true ↔ x ∈ S
theorem NmAt.kept {w w' : World} {mb n : Nat} {S : List (List UInt8)} (h : NmAt w mb n S) (hk : w'.heap[mb]? = w.heap[mb]?) : NmAt w' mb n S := by
  obtain ⟨D, ⟨es, clock, hb, F, hs, hD⟩, h2⟩ := h
  exact ⟨D, ⟨es, clock, hk.trans hb, F, hs, hD⟩, h2⟩
theorem NmAt.lt {w : World} {mb n : Nat} {S : List (List UInt8)} (h : NmAt w mb n S) : mb < w.heap.size := by
  obtain ⟨D, h1, -⟩ := h
  exact h1.lt
theorem NmAt.on {w w' : World} {mb n : Nat} {S : List (List UInt8)} (h : NmAt w mb n S) (hb : Below w.heap.size w w') : NmAt w' mb n S := h.kept (hb.block mb h.lt)
theorem NmAt.mono {w : World} {mb n n' : Nat} {S : List (List UInt8)} (h : NmAt w mb n S) (hn : n ≤ n') : NmAt w mb n' S := by
  obtain ⟨D, h1, h2⟩ := h
  exact ⟨D, h1.mono hn, h2⟩
theorem keyB (s : ByteArray) (hs : s.size ≤ maxLen) : keyOf Tryz.prog 9 (.string s) = some (.string s.data.toList) := by
  simp [keyOf, Tryz.underlying9, mapKey]
  exact hs
theorem nm_put {w w' : World} {mb n : Nat} {S : List (List UInt8)} {D : DataW Unit} {x : List UInt8} (h1 : w.ownsMap Tryz.prog 9 nmR mb n D) (h2 : ∀ x, has D (.string x) = true ↔ x ∈ S) (h3 : w'.ownsMap Tryz.prog 9 nmR mb (n + 1) (D.put (.string x) .nil)) : NmAt w' mb (n + 1) (S ++ [x]) := by
  refine ⟨_, h3, fun y => ?_⟩
  by_cases hy : y = x
  · subst hy
    rw [has_put_same (k := .string y) h1.isMap trivial]
    simp
  · rw [has_put_other (fun e => hy (by injection e)), h2 y]
    simp [hy]
theorem but_grown {r : Nat} {w w' : World} (h : w.grownBy w' (some r)) (hr : r ≤ w.heap.size) : But r w w' :=
  ⟨(Below.refl _ w).grown h hr (fun j hj => by injection hj with hj; omega), h.size, fun k hk hkr => h.block k hk (fun e => by injection e with e; exact hkr e)⟩
mutual
/-- The names of the columns, as they come. -/
def colsP : Ex → List (List UInt8)
  | .node op nm _ _ _ _ l => (if op.data.toList = [99, 111, 108] then [nm.data.toList] else []) ++ colssP l
def colssP : List Ex → List (List UInt8)
  | [] => []
  | x :: xs => colsP x ++ colssP xs
end
theorem colss_take {l : List Ex} {k : Nat} (h : k < l.length) : colssP (l.take (k + 1)) = colssP (l.take k) ++ colsP l[k] := by
  induction l generalizing k with
  | nil => exact absurd h (Nat.not_lt_zero _)
  | cons x xs ih =>
    cases k with
    | zero => simp [colssP]
    | succ k =>
      rw [List.take_succ_cons, List.take_succ_cons, colssP, colssP, ih (by simpa using h), List.append_assoc]
      rfl
theorem fdSizes_take {l : List Ex} {k : Nat} (h : k < l.length) : Ex.sizes (l.take (k + 1)) = Ex.sizes (l.take k) + l[k].size := by
  induction l generalizing k with
  | nil => exact absurd h (Nat.not_lt_zero _)
  | cons x xs ih =>
    cases k with
    | zero => simp [Ex.sizes]
    | succ k =>
      rw [List.take_succ_cons, List.take_succ_cons, Ex.sizes, Ex.sizes, ih (by simpa using h)]
      simp only [List.getElem_cons_succ]
      omega
theorem fdSizes_take_le (l : List Ex) (k : Nat) : Ex.sizes (l.take k) ≤ Ex.sizes l := by
  induction l generalizing k with
  | nil => simp [Ex.sizes]
  | cons x xs ih =>
    cases k with
    | zero => simp [Ex.sizes]
    | succ k => rw [List.take_succ_cons, Ex.sizes, Ex.sizes]; have := ih k; omega
set_option maxHeartbeats 4000000 in
set_option maxRecDepth 20000 in
theorem gather_any (mb : Nat) : ∀ (x : Ex) (lo : Nat → Prop) (v : Value) (n : Nat) (S : List (List UInt8)) (w : World), AllN (fun q => q.nm.size ≤ 400) x → ExIn w lo v x → (∀ b, lo b → b ≠ mb) → NmAt w mb n S → n + x.size ≤ 1048576 →
    Calls Tryz.prog 28 #[v, .map (some mb)] w fun e w' => e = .returned (.tuple #[]) ∧ NmAt w' mb (n + x.size) (S ++ colsP x) ∧ But mb w w' := by
  refine Ex.ind fun op nm vt vn vs pos l ih lo v n S w hA hx hlo hN hsz => ?_
  rw [ExIn] at hx
  obtain ⟨p, ca, rfl, ⟨hm, hmc⟩, ho, hnm, hvs, hparts⟩ := hx
  rw [Ex.size] at hsz
  have HA : Aside (∀ y ∈ l, AllN (fun q => q.nm.size ≤ 400) y) := hA.part
  have hn4 : nm.size ≤ 400 := hA.self
  clear hA
  have HSZ : Hid (n + (1 + Ex.sizes l) ≤ 1048576) := hsz
  have hmb := hN.lt
  have HI : Aside (∀ y ∈ l, ∀ (lo : Nat → Prop) (v : Value) (n : Nat) (S : List (List UInt8)) (w : World), AllN (fun q => q.nm.size ≤ 400) y → ExIn w lo v y → (∀ b, lo b → b ≠ mb) → NmAt w mb n S → n + y.size ≤ 1048576 → Calls Tryz.prog 28 #[v, .map (some mb)] w fun e w' => e = .returned (.tuple #[]) ∧ NmAt w' mb (n + y.size) (S ++ colsP y) ∧ But mb w w') := ih
  have HPA : Aside (l.length = 0 ∨ ∃ b off, p = some ⟨b, off, none⟩ ∧ b < w.heap.size ∧ lo b ∧ ExsIn w lo b off l) := hparts
  have HLO : Aside (∀ b, lo b → b ≠ mb) := hlo
  have HLW : ∀ j (h : j < l.length), ∀ W, But mb w W → ∃ ba oa, p = some ⟨ba, oa, none⟩ ∧ ba < W.heap.size ∧ ∃ u0 u1 u2 u3 u4 u5 u6 u7 u8, W.cell? ⟨ba, oa + j * 7, none⟩ = some (.string u0) ∧ W.cell? ⟨ba, oa + j * 7 + 1, none⟩ = some (.string u1) ∧ W.cell? ⟨ba, oa + j * 7 + 2, none⟩ = some (.int .i64 u2) ∧ W.cell? ⟨ba, oa + j * 7 + 3, none⟩ = some (.int .i64 u3) ∧ W.cell? ⟨ba, oa + j * 7 + 4, none⟩ = some (.string u4) ∧ W.cell? ⟨ba, oa + j * 7 + 5, none⟩ = some (.slice u5 u6 u7) ∧ W.cell? ⟨ba, oa + j * 7 + 6, none⟩ = some (.int .i64 u8) ∧ ExIn W lo (.agg #[.string u0, .string u1, .int .i64 u2, .int .i64 u3, .string u4, .slice u5 u6 u7, .int .i64 u8]) l[j] := fun j h W hb => by
    rcases HPA.out with h0 | ⟨ba, oa, e, hbl, hloB, hE⟩
    · exact absurd h0 (by omega)
    · obtain ⟨v0, v1, v2, v3, v4, v5, v6, e0, e1, e2, e3, e4, e5, e6, hy⟩ := exsIn_at w lo ba l oa hE j h
      obtain ⟨u0, u1, u2, u3, u4, u5, u6, u7, u8, huu⟩ := hy.agg
      injection huu with huu
      simp only [Array.mk.injEq, List.cons.injEq, and_true] at huu
      obtain ⟨rfl, rfl, rfl, rfl, rfl, rfl, rfl⟩ := huu
      have kA : ∀ o, W.cell? ⟨ba, o, none⟩ = w.cell? ⟨ba, o, none⟩ := fun o => hb.cell o hbl (HLO.out _ hloB)
      have hs := hb.size
      exact ⟨ba, oa, e, by omega, u0, u1, u2, u3, u4, u5, u6, u7, u8, by rw [kA]; exact e0, by rw [kA]; exact e1, by rw [kA]; exact e2, by rw [kA]; exact e3, by rw [kA]; exact e4, by rw [kA]; exact e5, by rw [kA]; exact e6, hy.but hb HLO.out⟩
  have HL : Aside (∀ j (h : j < l.length), ∀ W, But mb w W → ∃ ba oa, p = some ⟨ba, oa, none⟩ ∧ ba < W.heap.size ∧ ∃ u0 u1 u2 u3 u4 u5 u6 u7 u8, W.cell? ⟨ba, oa + j * 7, none⟩ = some (.string u0) ∧ W.cell? ⟨ba, oa + j * 7 + 1, none⟩ = some (.string u1) ∧ W.cell? ⟨ba, oa + j * 7 + 2, none⟩ = some (.int .i64 u2) ∧ W.cell? ⟨ba, oa + j * 7 + 3, none⟩ = some (.int .i64 u3) ∧ W.cell? ⟨ba, oa + j * 7 + 4, none⟩ = some (.string u4) ∧ W.cell? ⟨ba, oa + j * 7 + 5, none⟩ = some (.slice u5 u6 u7) ∧ W.cell? ⟨ba, oa + j * 7 + 6, none⟩ = some (.int .i64 u8) ∧ ExIn W lo (.agg #[.string u0, .string u1, .int .i64 u2, .int .i64 u3, .string u4, .slice u5 u6 u7, .int .i64 u8]) l[j]) := HLW
  obtain ⟨N, hNl⟩ : ∃ N, l.length = N := ⟨_, rfl⟩
  have HNL : Hid (l.length = N) := hNl
  rw [hNl] at hm hmc
  simp only [hNl]
  have BX : Aside (Box7 (w.alloc (.cells #[.string op, .string nm, .int .i64 vt, .int .i64 vn, .string vs, .slice p N ca, .int .i64 pos] 26)) w.heap.size (.string op) (.string nm) (.int .i64 vt) (.int .i64 vn) (.string vs) (.slice p N ca) (.int .i64 pos)) := box7_alloc _ _ _ _ _ _ _ _ _
  have B0 : Aside (But mb w (w.alloc (.cells #[.string op, .string nm, .int .i64 vt, .int .i64 vn, .string vs, .slice p N ca, .int .i64 pos] 26))) := (But.refl mb w).alloc (by omega) _
  have N0 : Aside (NmAt (w.alloc (.cells #[.string op, .string nm, .int .i64 vt, .int .i64 vn, .string vs, .slice p N ca, .int .i64 pos] 26)) mb n S) := hN.on ((Below.refl _ w).alloc (Nat.le_refl _) _)
  have hmz : (N : Int) ≤ 9223372036854775807 := by unfold maxLen at hm; omega
  have HN0 := hN
  by_cases hop : op.data.toList = [99, 111, 108]
  · have q1 : (op.toList == [99, 111, 108]) = true := by rw [Lib.toList_data]; simpa using hop
    obtain ⟨S1, hS1⟩ : ∃ S1, S1 = S ++ (if op.data.toList = [99, 111, 108] then [nm.data.toList] else []) := ⟨_, rfl⟩
    have HS1 : Hid (S1 = S ++ (if op.data.toList = [99, 111, 108] then [nm.data.toList] else [])) := hS1
    have hS2 : S1 = S ++ [nm.data.toList] := by rw [hS1, if_pos hop]
    have HS2 : Hid (S1 = S ++ [nm.data.toList]) := hS2
    have cl := fun W => clone_any nm W (by omega)
    have HKY : Hid (nm.size ≤ maxLen) := hnm
    clear hop hS1 hS2 hparts hlo ih hsz hN HN0 HLW HPA hNl
    go_enter Tryz.func28, Tryz.ntmps28
    go_wp2_with fail
    refine (cl _).mono ?_
    rintro e w1 ⟨rfl, b1⟩
    have X1 : Box7 w1 w.heap.size (.string op) (.string nm) (.int .i64 vt) (.int .i64 vn) (.string vs) (.slice p N ca) (.int .i64 pos) := BX.out.on b1
    obtain ⟨D, oD, hD⟩ := N0.out.on b1
    have B1' : But mb w w1 := B0.out.trans (But.of_below' b1 (by simp; omega))
    have hs1 := B1'.size
    clear cl b1 N0 B0 BX
    go_wp2_with (first | (at_mapUpdate; refine wpList_mapUpdate_own _ rfl _ _ _ 65 rfl 9 71 nmK Tryz.underlying65 _ mb n D rfl oD (by have := HSZ.out; unfold maxLen; omega) _ _ _ rfl rfl (keyB nm HKY.out) .nil [] rfl ?_) | go_in)
    intro w2 o2 g2
    have N1 : Aside (NmAt w2 mb (n + 1) S1) := by rw [HS2.out]; exact nm_put oD hD o2
    have b2 := but_grown g2 (by omega)
    have B1 : Aside (But mb w w2) := B1'.trans b2
    have X2 := X1.but b2 (by omega)
    obtain ⟨a0, a1, a2, a3, a4, a5, a6, -, al2⟩ := X2
    clear oD hD o2 g2 b2 X1 B1'
    go_wp2
    go_loopg [5, 17] N (fun gg s5 s17 wr => ∃ (kk : Nat), s17 = .int .i64 kk ∧ kk ≤ N ∧ N - kk ≤ gg ∧ Aside (NmAt wr mb (n + 1 + Ex.sizes (l.take kk)) (S1 ++ colssP (l.take kk))) ∧ Aside (But mb w wr))
    case atStart => exact ⟨0, rfl, Nat.zero_le _, by omega, (show Aside _ by rw [List.take_zero, colssP, Ex.sizes, List.append_nil]; exact N1.out), B1⟩
    case round =>
      obtain ⟨kk, rfl, hkk, hg, NW, BW⟩ := hrel
      by_cases hlt : kk < N
      · have hltz : (kk : Int) < (N : Int) := by omega
        have h0z : (0 : Int) ≤ (kk : Int) := by omega
        have hk2 : kk < l.length := by rw [HNL.out]; exact hlt
        obtain ⟨ba, oa, rfl, hbl, u0, u1, u2, u3, u4, u5, u6, u7, u8, e0, e1, e2, e3, e4, e5, e6, hy⟩ := HL.out kk hk2 wr BW.out
        have b3 : Below wr.heap.size wr (wr.alloc (.cells #[.string u0, .string u1, .int .i64 u2, .int .i64 u3, .string u4, .slice u5 u6 u7, .int .i64 u8] 26)) := (Below.refl _ wr).alloc (Nat.le_refl _) _
        have hst := fdSizes_take hk2
        have hsl := fdSizes_take_le l (kk + 1)
        have cY := HI.out _ (List.getElem_mem hk2) lo _ (n + 1 + Ex.sizes (l.take kk)) (S1 ++ colssP (l.take kk)) (wr.alloc (.cells #[.string u0, .string u1, .int .i64 u2, .int .i64 u3, .string u4, .slice u5 u6 u7, .int .i64 u8] 26)) (HA.out _ (List.getElem_mem hk2)) (hy.on b3) HLO.out (NW.out.on b3) (by have := HSZ.out; omega)
        rw [List.append_assoc, ← colss_take hk2, Nat.add_assoc (n + 1), ← hst] at cY
        have HKL : Hid (kk < N) := hlt
        have hbw := (BW.out.alloc (by have := BW.out.size; omega) (.cells #[.string u0, .string u1, .int .i64 u2, .int .i64 u3, .string u4, .slice u5 u6 u7, .int .i64 u8] 26))
        clear hst hsl hk2 NW hy b3
        go_wp2_with fail
        refine cY.mono ?_
        rintro e w4 ⟨rfl, n4, b4⟩
        have NW4 : Aside (NmAt w4 mb (n + 1 + Ex.sizes (l.take (kk + 1))) (S1 ++ colssP (l.take (kk + 1)))) := n4
        have BW4 : Aside (But mb w w4) := hbw.trans b4
        clear cY n4 b4 hbw BW e0 e1 e2 e3 e4 e5 e6
        go_wp2
        go_roundg (N - (kk + 1))
        case measure => have := HKL.out; omega
        case rel => exact ⟨kk + 1, by go_num, by have := HKL.out; omega, by omega, NW4, BW4⟩
      · have hkz : ¬ (kk : Int) < (N : Int) := by omega
        obtain rfl : kk = N := by omega
        have NW1 := NW.out
        have BW1 := BW.out
        rw [show l.take kk = l by rw [← HNL.out]; exact List.take_length] at NW1
        have NF : Aside (NmAt wr mb (n + (1 + Ex.sizes l)) (S ++ colsP (.node op nm vt vn vs pos l))) := by
          rw [colsP, ← List.append_assoc, ← HS1.out, ← Nat.add_assoc]; exact NW1
        clear NW NW1
        go_wp2
        go_end0
        refine ⟨rfl, ?_, BW1⟩
        rw [Ex.size]
        exact NF.out
  · have q1 : (op.toList == [99, 111, 108]) = false := by rw [Lib.toList_data]; simpa using hop
    obtain ⟨S1, hS1⟩ : ∃ S1, S1 = S ++ (if op.data.toList = [99, 111, 108] then [nm.data.toList] else []) := ⟨_, rfl⟩
    have HS1 : Hid (S1 = S ++ (if op.data.toList = [99, 111, 108] then [nm.data.toList] else [])) := hS1
    have hS2 : S1 = S := by rw [hS1, if_neg hop, List.append_nil]
    have N1 : Aside (NmAt (w.alloc (.cells #[.string op, .string nm, .int .i64 vt, .int .i64 vn, .string vs, .slice p N ca, .int .i64 pos] 26)) mb (n + 1) S1) := by rw [hS2]; exact N0.out.mono (by omega)
    have B1 := B0
    clear hop hS1 hS2 hparts hlo ih hsz hN HN0 HLW HPA hNl N0 B0 BX
    go_enter Tryz.func28, Tryz.ntmps28
    go_wp2
    go_loopg [5, 17] N (fun gg s5 s17 wr => ∃ (kk : Nat), s17 = .int .i64 kk ∧ kk ≤ N ∧ N - kk ≤ gg ∧ Aside (NmAt wr mb (n + 1 + Ex.sizes (l.take kk)) (S1 ++ colssP (l.take kk))) ∧ Aside (But mb w wr))
    case atStart => exact ⟨0, rfl, Nat.zero_le _, by omega, (show Aside _ by rw [List.take_zero, colssP, Ex.sizes, List.append_nil]; exact N1.out), B1⟩
    case round =>
      obtain ⟨kk, rfl, hkk, hg, NW, BW⟩ := hrel
      by_cases hlt : kk < N
      · have hltz : (kk : Int) < (N : Int) := by omega
        have h0z : (0 : Int) ≤ (kk : Int) := by omega
        have hk2 : kk < l.length := by rw [HNL.out]; exact hlt
        obtain ⟨ba, oa, rfl, hbl, u0, u1, u2, u3, u4, u5, u6, u7, u8, e0, e1, e2, e3, e4, e5, e6, hy⟩ := HL.out kk hk2 wr BW.out
        have b3 : Below wr.heap.size wr (wr.alloc (.cells #[.string u0, .string u1, .int .i64 u2, .int .i64 u3, .string u4, .slice u5 u6 u7, .int .i64 u8] 26)) := (Below.refl _ wr).alloc (Nat.le_refl _) _
        have hst := fdSizes_take hk2
        have hsl := fdSizes_take_le l (kk + 1)
        have cY := HI.out _ (List.getElem_mem hk2) lo _ (n + 1 + Ex.sizes (l.take kk)) (S1 ++ colssP (l.take kk)) (wr.alloc (.cells #[.string u0, .string u1, .int .i64 u2, .int .i64 u3, .string u4, .slice u5 u6 u7, .int .i64 u8] 26)) (HA.out _ (List.getElem_mem hk2)) (hy.on b3) HLO.out (NW.out.on b3) (by have := HSZ.out; omega)
        rw [List.append_assoc, ← colss_take hk2, Nat.add_assoc (n + 1), ← hst] at cY
        have HKL : Hid (kk < N) := hlt
        have hbw := (BW.out.alloc (by have := BW.out.size; omega) (.cells #[.string u0, .string u1, .int .i64 u2, .int .i64 u3, .string u4, .slice u5 u6 u7, .int .i64 u8] 26))
        clear hst hsl hk2 NW hy b3
        go_wp2_with fail
        refine cY.mono ?_
        rintro e w4 ⟨rfl, n4, b4⟩
        have NW4 : Aside (NmAt w4 mb (n + 1 + Ex.sizes (l.take (kk + 1))) (S1 ++ colssP (l.take (kk + 1)))) := n4
        have BW4 : Aside (But mb w w4) := hbw.trans b4
        clear cY n4 b4 hbw BW e0 e1 e2 e3 e4 e5 e6
        go_wp2
        go_roundg (N - (kk + 1))
        case measure => have := HKL.out; omega
        case rel => exact ⟨kk + 1, by go_num, by have := HKL.out; omega, by omega, NW4, BW4⟩
      · have hkz : ¬ (kk : Int) < (N : Int) := by omega
        obtain rfl : kk = N := by omega
        have NW1 := NW.out
        have BW1 := BW.out
        rw [show l.take kk = l by rw [← HNL.out]; exact List.take_length] at NW1
        have NF : Aside (NmAt wr mb (n + (1 + Ex.sizes l)) (S ++ colsP (.node op nm vt vn vs pos l))) := by
          rw [colsP, ← List.append_assoc, ← HS1.out, ← Nat.add_assoc]; exact NW1
        clear NW NW1
        go_wp2
        go_end0
        refine ⟨rfl, ?_, BW1⟩
        rw [Ex.size]
        exact NF.out
end Go.Proofs.YtknibfhoecgjlaaGreatDoor
namespace Go.Proofs
open Go.RowKit Go.Maps Go.Sort Go.Shelf
def Tryz.keys30_ren : Go.Shelf.Ren := ⟨fun | 7 => 30 | 10 => 60 | n => n, fun | 23 => 65 | 26 => 9 | 3 => 71 | 28 => 69 | 0 => 0 | 27 => 68 | 33 => 79 | 4 => 4 | n => n, fun | n => n⟩
theorem Tryz.keys30 : Go.Proofs.SlLaysZ.n7 Tryz.prog Tryz.keys30_ren := {
  mixed := by kernel_rfl
  f7 := ⟨Tryz.f30.name, by decide, Tryz.func30.trans (congrArg some (by kernel_rfl))⟩
  f10 := ⟨Tryz.f60.name, by decide, Tryz.func60.trans (congrArg some (by kernel_rfl))⟩
  t0 := Tryz.underlying0
  a0 := Tryz.isAgg0
  z0 := Tryz.sizeOf0
  v0 := Tryz.zeroValue0
  t4 := Tryz.underlying4
  a4 := Tryz.isAgg4
  z4 := Tryz.sizeOf4
  v4 := Tryz.zeroValue4
  t23 := Tryz.underlying65
  a23 := Tryz.isAgg65
  z23 := Tryz.sizeOf65
  v23 := Tryz.zeroValue65
  t26 := Tryz.underlying9
  a26 := Tryz.isAgg9
  z26 := Tryz.sizeOf9
  v26 := Tryz.zeroValue9
  t27 := Tryz.underlying68
  a27 := Tryz.isAgg68
  z27 := Tryz.sizeOf68
  v27 := Tryz.zeroValue68
  t28 := Tryz.underlying69
  a28 := Tryz.isAgg69
  z28 := Tryz.sizeOf69
  v28 := Tryz.zeroValue69
  t33 := Tryz.underlying79
  a33 := Tryz.isAgg79
  z33 := Tryz.sizeOf79
  v33 := Tryz.zeroValue79 }
def Tryz.sorted29_ren : Go.Shelf.Ren := ⟨fun | 6 => 29 | 8 => 58 | 9 => 59 | 11 => 85 | 13 => 87 | 12 => 86 | 23 => 113 | 24 => 114 | 14 => 104 | 15 => 105 | 16 => 106 | 17 => 107 | 18 => 108 | 19 => 109 | 20 => 110 | 21 => 111 | 22 => 112 | 25 => 126 | 26 => 127 | 27 => 128 | 28 => 129 | 29 => 130 | 30 => 131 | 31 => 136 | n => n, fun | 26 => 9 | 28 => 69 | 24 => 38 | 0 => 0 | 3 => 3 | 37 => 127 | 48 => 170 | 50 => 102 | 4 => 4 | 40 => 163 | 39 => 162 | 45 => 96 | 5 => 5 | 9 => 9 | 51 => 183 | 55 => 187 | 57 => 194 | 58 => 82 | 33 => 79 | n => n, fun | n => n⟩
theorem Tryz.sorted29 : Go.Proofs.SlLaysZ.n6 Tryz.prog Tryz.sorted29_ren := {
  mixed := by kernel_rfl
  f6 := ⟨Tryz.f29.name, by decide, Tryz.func29.trans (congrArg some (by kernel_rfl))⟩
  f8 := ⟨Tryz.f58.name, by decide, Tryz.func58.trans (congrArg some (by kernel_rfl))⟩
  f11 := ⟨Tryz.f85.name, by decide, Tryz.func85.trans (congrArg some (by kernel_rfl))⟩
  t0 := Tryz.underlying0
  a0 := Tryz.isAgg0
  z0 := Tryz.sizeOf0
  v0 := Tryz.zeroValue0
  t24 := Tryz.underlying38
  a24 := Tryz.isAgg38
  z24 := Tryz.sizeOf38
  v24 := Tryz.zeroValue38
  t26 := Tryz.underlying9
  a26 := Tryz.isAgg9
  z26 := Tryz.sizeOf9
  v26 := Tryz.zeroValue9
  t28 := Tryz.underlying69
  a28 := Tryz.isAgg69
  z28 := Tryz.sizeOf69
  v28 := Tryz.zeroValue69
  i26 := by kernel_rfl }
def Tryz.sort59_ren : Go.Shelf.Ren := ⟨fun | 6 => 59 | 8 => 87 | 9 => 86 | 19 => 113 | 20 => 114 | 21 => 104 | 22 => 105 | 23 => 106 | 24 => 107 | 25 => 108 | 26 => 109 | 27 => 110 | 28 => 111 | 29 => 112 | 36 => 126 | 31 => 127 | 32 => 128 | 37 => 129 | 38 => 130 | 39 => 131 | 41 => 136 | n => n, fun | 27 => 38 | 29 => 9 | 3 => 3 | 32 => 127 | 26 => 38 | 0 => 0 | 44 => 170 | 46 => 102 | 4 => 4 | 36 => 163 | 35 => 162 | 41 => 96 | 5 => 5 | 9 => 9 | 53 => 183 | 57 => 187 | 63 => 194 | 64 => 82 | n => n, fun | n => n⟩
theorem Tryz.sort59 : Go.Proofs.SlLaysM.n6 Tryz.prog Tryz.sort59_ren := {
  mixed := by kernel_rfl
  f6 := ⟨Tryz.f59.name, by decide, Tryz.func59.trans (congrArg some (by kernel_rfl))⟩
  f8 := Tryz.func87.trans (congrArg some (by kernel_rfl))
  f9 := ⟨Tryz.f86.name, by decide, Tryz.func86.trans (congrArg some (by kernel_rfl))⟩
  f19 := Tryz.func113.trans (congrArg some (by kernel_rfl))
  f20 := Tryz.func114.trans (congrArg some (by kernel_rfl))
  f21 := ⟨Tryz.f104.name, by decide, Tryz.func104.trans (congrArg some (by kernel_rfl))⟩
  f22 := ⟨Tryz.f105.name, by decide, Tryz.func105.trans (congrArg some (by kernel_rfl))⟩
  f23 := ⟨Tryz.f106.name, by decide, Tryz.func106.trans (congrArg some (by kernel_rfl))⟩
  f24 := ⟨Tryz.f107.name, by decide, Tryz.func107.trans (congrArg some (by kernel_rfl))⟩
  f25 := ⟨Tryz.f108.name, by decide, Tryz.func108.trans (congrArg some (by kernel_rfl))⟩
  f26 := ⟨Tryz.f109.name, by decide, Tryz.func109.trans (congrArg some (by kernel_rfl))⟩
  f27 := ⟨Tryz.f110.name, by decide, Tryz.func110.trans (congrArg some (by kernel_rfl))⟩
  f28 := ⟨Tryz.f111.name, by decide, Tryz.func111.trans (congrArg some (by kernel_rfl))⟩
  f29 := ⟨Tryz.f112.name, by decide, Tryz.func112.trans (congrArg some (by kernel_rfl))⟩
  f31 := Tryz.func127.trans (congrArg some (by kernel_rfl))
  f32 := Tryz.func128.trans (congrArg some (by kernel_rfl))
  f36 := ⟨Tryz.f126.name, by decide, Tryz.func126.trans (congrArg some (by kernel_rfl))⟩
  f37 := ⟨Tryz.f129.name, by decide, Tryz.func129.trans (congrArg some (by kernel_rfl))⟩
  f38 := ⟨Tryz.f130.name, by decide, Tryz.func130.trans (congrArg some (by kernel_rfl))⟩
  f39 := ⟨Tryz.f131.name, by decide, Tryz.func131.trans (congrArg some (by kernel_rfl))⟩
  f41 := ⟨Tryz.f136.name, by decide, Tryz.func136.trans (congrArg some (by kernel_rfl))⟩
  t0 := Tryz.underlying0
  a0 := Tryz.isAgg0
  z0 := Tryz.sizeOf0
  v0 := Tryz.zeroValue0
  t3 := Tryz.underlying3
  a3 := Tryz.isAgg3
  z3 := Tryz.sizeOf3
  v3 := Tryz.zeroValue3
  t4 := Tryz.underlying4
  a4 := Tryz.isAgg4
  z4 := Tryz.sizeOf4
  v4 := Tryz.zeroValue4
  t5 := Tryz.underlying5
  a5 := Tryz.isAgg5
  z5 := Tryz.sizeOf5
  v5 := Tryz.zeroValue5
  t9 := Tryz.underlying9
  a9 := Tryz.isAgg9
  z9 := Tryz.sizeOf9
  v9 := Tryz.zeroValue9
  t26 := Tryz.underlying38
  a26 := Tryz.isAgg38
  z26 := Tryz.sizeOf38
  v26 := Tryz.zeroValue38
  t27 := Tryz.underlying38
  a27 := Tryz.isAgg38
  z27 := Tryz.sizeOf38
  v27 := Tryz.zeroValue38
  t29 := Tryz.underlying9
  a29 := Tryz.isAgg9
  z29 := Tryz.sizeOf9
  v29 := Tryz.zeroValue9
  t32 := Tryz.underlying127
  a32 := Tryz.isAgg127
  z32 := Tryz.sizeOf127
  v32 := Tryz.zeroValue127
  t35 := Tryz.underlying162
  a35 := Tryz.isAgg162
  z35 := Tryz.sizeOf162
  v35 := Tryz.zeroValue162
  t36 := Tryz.underlying163
  a36 := Tryz.isAgg163
  z36 := Tryz.sizeOf163
  v36 := Tryz.zeroValue163
  t41 := Tryz.underlying96
  a41 := Tryz.isAgg96
  z41 := Tryz.sizeOf96
  v41 := Tryz.zeroValue96
  t44 := Tryz.underlying170
  a44 := Tryz.isAgg170
  z44 := Tryz.sizeOf170
  v44 := Tryz.zeroValue170
  t46 := Tryz.underlying102
  a46 := Tryz.isAgg102
  z46 := Tryz.sizeOf102
  v46 := Tryz.zeroValue102
  t53 := Tryz.underlying183
  a53 := Tryz.isAgg183
  z53 := Tryz.sizeOf183
  v53 := Tryz.zeroValue183
  t57 := Tryz.underlying187
  a57 := Tryz.isAgg187
  z57 := Tryz.sizeOf187
  v57 := Tryz.zeroValue187
  t63 := Tryz.underlying194
  a63 := Tryz.isAgg194
  z63 := Tryz.sizeOf194
  v63 := Tryz.zeroValue194
  t64 := Tryz.underlying82
  a64 := Tryz.isAgg82
  z64 := Tryz.sizeOf82
  v64 := Tryz.zeroValue82 }

theorem Tryz.sorts29 (m : Nat) : AnyZ.SortsIn Tryz.prog Tryz.sorted29_ren Fence.wide m :=
  ⟨fun blk off cap ss W hH hblk hsz => callsIn_wide.2 (AnyM.slices_Sort_string Tryz.sort59 blk off cap ss W hH hblk hsz),
   fun p cap W => callsIn_wide.2 (AnyM.slices_Sort_string_none Tryz.sort59 p cap W)⟩
theorem Tryz.maps_Keys_30 (mb : Option Nat) (W : World) : CallsIn Fence.wide 5 Tryz.prog 30 #[.map mb] W fun e w' => e = .returned (.func (.func 60) #[] #[.pointer (some ⟨W.heap.size, 0, none⟩)]) ∧ w' = W.alloc (.cells #[.map mb] 65) :=
  AnyZ.keys_in Tryz.keys30 Fence.wide 5 trivial rfl mb W
set_option maxHeartbeats 1000000 in
theorem Tryz.slices_Sorted_keys_29_30 {H : Type} (b nn : Nat) (D0 : DataW H) (R : Value → Option (DataW H × List MemPlace)) (w : World) (hown : w.ownsMap Tryz.prog 9 R b nn D0) (hmax : Maps.size D0 ≤ maxLen) (hbytes : Maps.size D0 * 16 ≤ 140737488355328) :
    CallsIn Fence.wide 5 Tryz.prog 29 #[.func (.func 60) #[] #[.pointer (some ⟨w.heap.size, 0, none⟩)]] (w.alloc (.cells #[.map (some b)] 65)) fun e w' => ∃ (v : Value) (ss : List (List UInt8)), e = .returned v ∧ ss.Perm (strKeys D0) ∧
      w'.ownsRow (w.alloc (.cells #[.map (some b)] 65)).heap.size 9 1 v ss.length ((ss.mergeSort (fun x y => decide (x ≤ y))).map encStr) ∧ (v = .slice none 0 0 ↔ ss = []) ∧ Below (w.alloc (.cells #[.map (some b)] 65)).heap.size (w.alloc (.cells #[.map (some b)] 65)) w' := by
  have hbl := hown.lt
  have hseq : SeqGives Fence.wide 2 Tryz.prog 60 #[.pointer (some ⟨w.heap.size, 0, none⟩)] encStr (fun ss => ss.Perm (strKeys D0)) (Maps.size D0) (w.alloc (.cells #[.map (some b)] 65)) :=
    AnyZ.keys_gives (ρ := Tryz.keys30_ren) { Tryz.keys30 with } Fence.wide _ trivial rfl (by omega) w.heap.size b nn D0 _ (by simp) (by simp) (by
      obtain ⟨es, clock, hb, Ft, hs, hD⟩ := hown
      exact ⟨es, clock, (Below.heap_alloc _ _ b hbl).trans hb, Ft, hs, hD⟩)
  exact AnyZ.sorted_in Tryz.sorted29 Fence.wide 5 trivial trivial trivial trivial rfl (by omega) (Tryz.sorts29 _) (enters_of Tryz.func59 (by kernel_rfl) rfl) 60 #[.pointer (some ⟨w.heap.size, 0, none⟩)] trivial (enters_of Tryz.func60 (by kernel_rfl) rfl) _ _ hmax hbytes _ hseq
set_option maxHeartbeats 1000000 in
theorem Tryz.slices_Sorted_keys_nil_29_30 (w : World) :
    CallsIn Fence.wide 5 Tryz.prog 29 #[.func (.func 60) #[] #[.pointer (some ⟨w.heap.size, 0, none⟩)]] (w.alloc (.cells #[.map none] 65)) fun e w' => ∃ (v : Value) (ss : List (List UInt8)), e = .returned v ∧ ss = [] ∧
      w'.ownsRow (w.alloc (.cells #[.map none] 65)).heap.size 9 1 v ss.length ((ss.mergeSort (fun x y => decide (x ≤ y))).map encStr) ∧ (v = .slice none 0 0 ↔ ss = []) ∧ Below (w.alloc (.cells #[.map none] 65)).heap.size (w.alloc (.cells #[.map none] 65)) w' := by
  have hseq : SeqGives Fence.wide 2 Tryz.prog 60 #[.pointer (some ⟨w.heap.size, 0, none⟩)] encStr (fun ss : List (List UInt8) => ss = []) 0 (w.alloc (.cells #[.map none] 65)) :=
    AnyZ.keys_gives_nil (ρ := Tryz.keys30_ren) { Tryz.keys30 with } Fence.wide _ trivial rfl w.heap.size _ (by simp) (by simp)
  exact AnyZ.sorted_in Tryz.sorted29 Fence.wide 5 trivial trivial trivial trivial rfl (by omega) (Tryz.sorts29 _) (enters_of Tryz.func59 (by kernel_rfl) rfl) 60 #[.pointer (some ⟨w.heap.size, 0, none⟩)] trivial (enters_of Tryz.func60 (by kernel_rfl) rfl) _ 0 (Nat.zero_le _) (by omega) _ hseq
end Go.Proofs
namespace Go.Proofs.YtknibfhoecgjlaaGreatDoor
open Go.RowKit Go.Maps Go.Sort
set_option linter.unusedVariables false

theorem nm_keys {w : World} {mb n : Nat} {D : DataW Unit} (h : w.ownsMap Tryz.prog 9 nmR mb n D) : (strKeys D).Nodup ∧ ∀ x, x ∈ strKeys D ↔ has D (.string x) = true := by
  obtain ⟨es, rfl, hp, -⟩ := h.entries nmK
  obtain ⟨es', he, hk'⟩ := h.keysOf
  injection he with he
  subst he
  have hk : ∀ p ∈ es, ∃ x, p.1 = .string x := fun p hp => by
    obtain ⟨key, hkey⟩ := hk' p hp
    obtain ⟨x, -, e, -⟩ := Maps.keyOf_str Tryz.underlying9 hkey
    exact ⟨x, e⟩
  refine ⟨?_, fun x => ?_⟩
  · show (es.map fun p => strOf p.1).Nodup
    refine List.pairwise_map.2 (hp.imp_of_mem fun {p q} hp' hq' hne e => hne ?_)
    obtain ⟨a, ha⟩ := hk p hp'
    obtain ⟨b, hb⟩ := hk q hq'
    rw [ha, hb] at e ⊢
    exact congrArg _ e
  · rw [has_eq, List.any_eq_true]
    show x ∈ es.map (fun p => strOf p.1) ↔ _
    rw [List.mem_map]
    constructor
    · rintro ⟨p, hp, rfl⟩
      obtain ⟨a, ha⟩ := hk p hp
      refine ⟨p, hp, ?_⟩
      rw [ha]
      exact WideAt.sameKey_self trivial
    · rintro ⟨p, hp, hs⟩
      obtain ⟨a, ha⟩ := hk p hp
      rw [ha] at hs
      have := (WideAt.sameKey_iff (a := .string a) (b := .string x) trivial).1 hs
      injection this with this
      exact ⟨p, hp, by rw [ha]; exact this⟩
theorem ownsRow_low {W : World} {base base' : Nat} {e : TypeId} {size : Nat} {v : Value} {k : Nat} {xs : List Value} (h : W.ownsRow base e size v k xs) (hb : base' ≤ base) : W.ownsRow base' e size v k xs := by
  refine ⟨h.1, ?_⟩
  rcases h.2 with hn | ⟨g, cap, cur, e1, h1, rest⟩
  · exact .inl hn
  · exact .inr ⟨g, cap, cur, e1, Nat.le_trans hb h1, rest⟩
theorem nameT_size {s : ByteArray} (h : nameT s.data.toList = true) : s.size ≤ 400 := by
  rw [nameT, Bool.and_eq_true] at h
  have h1 := h.1
  unfold lettersB at h1
  simp only [Bool.and_eq_true, decide_eq_true_eq] at h1
  have : s.data.toList.length ≤ 8 := by omega
  show s.data.size ≤ 400
  rw [← Array.length_toList]
  omega
/-- The names of the columns, each once, by bytes. -/
def NmS (ss : List (List UInt8)) (x : Ex) : Prop := ss.Pairwise (fun a b => a ≤ b ∧ a ≠ b) ∧ ∀ y, y ∈ ss ↔ y ∈ colsP x
theorem nmS_of {ss ks : List (List UInt8)} {x : Ex} (hp : ss.Perm ks) (hn : ks.Nodup) (hm : ∀ y, y ∈ ks ↔ y ∈ colsP x) : NmS (ss.mergeSort leB) x := by
  have tr : ∀ a b c : List UInt8, leB a b = true → leB b c = true → leB a c = true := fun a b c h1 h2 => by simp only [leB, decide_eq_true_eq] at *; exact List.le_trans h1 h2
  have tot : ∀ a b : List UInt8, (leB a b || leB b a) = true := fun a b => by simp only [leB, Bool.or_eq_true, decide_eq_true_eq]; exact List.le_total a b
  have hP := (List.mergeSort_perm ss leB).trans hp
  refine ⟨?_, fun y => by rw [hP.mem_iff, hm]⟩
  have h1 := List.pairwise_mergeSort tr tot ss
  have h2 : (ss.mergeSort leB).Nodup := hP.nodup_iff.2 hn
  exact (h1.and h2).imp fun {a b} h => ⟨of_decide_eq_true h.1, h.2⟩
theorem node_nm {x : Ex} (h : nodeE x = 0) : x.nm.size ≤ 400 := by
  rw [nodeE, nodeB] at h
  by_cases hc : (x.op.toList == [99, 111, 108]) = true
  · split at h
    · exact absurd h (by decide)
    · rename_i h1
      have hnt : nameT x.nm.data.toList = true := by
        cases hh : nameT x.nm.data.toList with
        | true => rfl
        | false => rw [hc, hh] at h1; simp at h1
      exact nameT_size hnt
  · split at h
    · exact absurd h (by decide)
    · split at h
      · exact absurd h (by decide)
      · rename_i h2
        have hcf : (x.op.toList == [99, 111, 108]) = false := by simpa using hc
        have : x.nm.toList = [] := by
          rw [hcf] at h2
          simp at h2
          exact h2.2.1
        rw [Lib.toList_data] at this
        have hs : x.nm.data.size = 0 := by rw [← Array.length_toList, this]; rfl
        show x.nm.data.size ≤ 400
        omega
set_option maxHeartbeats 2000000 in
set_option maxRecDepth 20000 in
theorem uses_any (x : Ex) (lo : Nat → Prop) (v : Value) (w : World) (henv : TEnv w) (hx : ExIn w lo v x) (hsz : (x.pre 1).length ≤ 1048576) :
    Calls Tryz.prog 12 #[v] w fun e w' => (∃ u, e = .returned (.tuple #[u, errV (ckP x)]) ∧ Aside (ckP x = 0 → ∃ ss : List (List UInt8), NmS ss x ∧ w'.ownsRow w.heap.size 9 1 u ss.length (ss.map encStr)) ∧ Aside (ckP x ≠ 0 → u = .slice none 0 0)) ∧ Below w.heap.size w w' := by
  obtain ⟨o1, n1, t1, k1, s1, p1, m1, c1, a1, rfl⟩ := hx.agg
  have bE := (Below.refl _ w).alloc (Nat.le_refl _) (.cells #[.string o1, .string n1, .int .i64 t1, .int .i64 k1, .string s1, .slice p1 m1 c1, .int .i64 a1] 26)
  have cK := check_tree x lo _ _ (henv.on bE) (hx.on bE) hsz
  obtain ⟨K, hK⟩ : ∃ K, ckP x = K := ⟨_, rfl⟩
  rw [hK] at cK ⊢
  by_cases h0 : K = 0
  · subst h0
    rw [show errV 0 = .nilIface from rfl] at cK
    have HX : Aside (ExIn w lo (.agg #[.string o1, .string n1, .int .i64 t1, .int .i64 k1, .string s1, .slice p1 m1 c1, .int .i64 a1]) x) := hx
    have HA : Aside (AllN (fun q => q.nm.size ≤ 400) x) := (allN_pre x 1).1 fun q hq => node_nm ((ckP_zero hK).2 q hq)
    have HZ : Hid (x.size ≤ 1048576) := by show _ ≤ _; rw [← size_pre x 1]; exact hsz
    have hmm := @run_makeMap Tryz.prog
    clear hx henv hsz hK
    go_enter Tryz.func12, Tryz.ntmps12
    go_wp2_with fail
    refine cK.mono ?_
    rintro e w1 ⟨rfl, b1⟩
    have X1 := (box7_alloc w (.string o1) (.string n1) (.int .i64 t1) (.int .i64 k1) (.string s1) (.slice p1 m1 c1) (.int .i64 a1) 26).on b1
    have B1 : Below w.heap.size w w1 := bE.trans (b1.mono bE.size)
    have hs1 := B1.size
    obtain ⟨a0, a1', a2, a3, a4, a5, a6, -, al1⟩ := id X1
    have H1 : ExIn (w1.alloc (.map #[] 0)) (fun b => b ≠ w1.heap.size) (.agg #[.string o1, .string n1, .int .i64 t1, .int .i64 k1, .string s1, .slice p1 m1 c1, .int .i64 a1]) x :=
      (ExIn.low (fun b hb _ => by omega) _ _ (HX.out.on B1)).on ((Below.refl _ w1).alloc (Nat.le_refl _) _)
    have cG := gather_any w1.heap.size x (fun b => b ≠ w1.heap.size) _ 0 [] (w1.alloc (.map #[] 0)) HA.out H1 (fun b h => h) ⟨_, World.ownsMap_made w1 Tryz.prog 9 nmR, fun y => by simp [has]⟩ (by have := HZ.out; omega)
    clear cK b1 H1 HX
    go_wp2_with fail
    refine cG.mono ?_
    rintro e w2 ⟨rfl, ⟨D, oD, hD⟩, b2⟩
    have hs2 : w1.heap.size + 1 ≤ w2.heap.size := by have := b2.size; simpa using this
    have B2 : Below w.heap.size w w2 := (B1.alloc B1.size _).trans (b2.below.mono hs1)
    have hsD := oD.size_le
    have cE := callsIn_wide.1 (Tryz.maps_Keys_30 (some w1.heap.size) w2)
    have cS := callsIn_wide.1 (Tryz.slices_Sorted_keys_29_30 w1.heap.size _ D nmR w2 oD (by have := HZ.out; unfold maxLen; omega) (by have := HZ.out; omega))
    have HK : Aside ((strKeys D).Nodup ∧ ∀ y, y ∈ strKeys D ↔ y ∈ colsP x) := ⟨(nm_keys oD).1, fun y => by rw [(nm_keys oD).2, hD, List.nil_append]⟩
    clear cG oD hD b2 X1 HA
    go_wp2_with fail
    refine cE.mono ?_
    rintro e w3 ⟨rfl, rfl⟩
    go_wp2_with fail
    refine cS.mono ?_
    rintro e w4 ⟨u, ss, rfl, hP, hrow, -, b4⟩
    have B4 : Below w.heap.size w w4 := (B2.alloc B2.size _).trans (b4.mono (by simp; omega))
    go_wp2
    go_ret2
    refine ⟨⟨_, rfl, (show Aside _ from fun _ => ⟨_, nmS_of hP HK.out.1 HK.out.2, ?_⟩), (show Aside _ from fun h => absurd rfl h)⟩, B4⟩
    rw [List.length_mergeSort]
    exact ownsRow_low hrow (by simp; omega)
  · have hV : errV K = .iface 57 (.int .i64 K) := by rw [errV, if_neg h0]
    rw [hV] at cK ⊢
    have H0 : Hid (K ≠ 0) := h0
    clear hx henv hsz hK h0 hV
    go_enter Tryz.func12, Tryz.ntmps12
    go_wp2_with fail
    refine cK.mono ?_
    rintro e w1 ⟨rfl, b1⟩
    have B1 : Below w.heap.size w w1 := bE.trans (b1.mono bE.size)
    clear cK b1
    go_wp2
    go_ret2
    exact ⟨⟨_, rfl, (show Aside _ from fun h => absurd h H0.out), (show Aside _ from fun _ => rfl)⟩, B1⟩
end Go.Proofs.YtknibfhoecgjlaaGreatDoor
namespace Go.Proofs.YtknibfhoecgjlaaGreatDoor
open Go.RowKit
set_option linter.unusedVariables false

theorem rg_part {zs : List (ByteArray × Int)} {T : Int} {op nm vs : ByteArray} {vt vn pos : Int} {l : List Ex} (h : Rg zs T (.node op nm vt vn vs pos l)) (y : Ex) (hy : y ∈ l) : ∃ T, Rg zs T y := by
  by_cases hop : op.data.toList = [118, 97, 108] ∨ op.data.toList = [99, 111, 108]
  · have := leaf_args h.nd.self hop
    subst this
    simp at hy
  · obtain ⟨h1, h2⟩ := not_or.1 hop
    exact ⟨_, (rg_parts h h1 h2).1 y hy⟩
theorem rg_map {zs : List (ByteArray × Int)} {T : Int} {op nm vs : ByteArray} {vt vn pos : Int} {l : List Ex} (h : Rg zs T (.node op nm vt vn vs pos l)) : Rg zs T (.node op nm vt vn vs pos (l.map fdP)) := by
  by_cases hop : op.data.toList = [118, 97, 108] ∨ op.data.toList = [99, 111, 108]
  · have := leaf_args h.nd.self hop
    subst this
    exact h
  · obtain ⟨h1, h2⟩ := not_or.1 hop
    obtain ⟨hp, hr⟩ := rg_parts h h1 h2
    have hm : ∀ y ∈ l, Rg zs (tyP zs y).1 (fdP y) := fun y hy => (fd_right y _ (hp y hy)).1
    refine rg_make h1 h2 (by rw [← h.nd.self]; exact node_args (by simp)) h.bd.self (fun y hy => ?_) ?_
    · obtain ⟨z, hz, rfl⟩ := List.mem_map.1 hy
      have := hm z hz
      rw [this.ty]; exact this
    · rw [List.map_map, ← hr]
      congr 1
      exact List.map_congr_left fun y hy => by show (tyP zs (fdP y)).1 = _; rw [(hm y hy).ty]
theorem apF_len (x : List UInt8) : (apL x opsL).2 = true → x.length ≤ 3 := fun h => by
  have := apL_mem h
  have key : ∀ q ∈ opsL, q.1.length ≤ 3 := by decide
  exact key _ this
theorem op_small {q : Ex} (h : nodeE q = 0) : q.op.size ≤ 400 := by
  have := (node_ok h).1
  have h2 := apF_len _ this
  show q.op.data.size ≤ 400
  rw [← Array.length_toList]
  omega
end Go.Proofs.YtknibfhoecgjlaaGreatDoor
