/-
  ApR, TelP, TelQ, in one text.
-/
import Derived.Test.YtfonalmgdjboeaaDoorGrAa
import Derived.Laws.AppendOwnNone
import Derived.Test.YtfonalmgdjboeaaDoorQAnyP
import Derived.Test.YtfonalmgdjboeaaDoorQTtA
import Derived.Test.YtfonalmgdjboeaaDoorGrAh
namespace Go.Proofs.YtfonalmgdjboeaaDoor
open Go.RowKit
set_option linter.unusedVariables false

theorem info_vals : (Tryd.prog.info? 38).map (fun i => (i.zero, i.size, i.bytes)) = some (some (.slice none 0 0), 1, 24) := by kernel_rfl
/-- A row is appended to a list of one's own. -/
theorem wpList_append_row {w : World} {ops : Array Oper} {rest : List Oper} {o : Oper} {a : Act} {Q : Exit → Act → World → Prop} (hgd : o.guard = none) (s x : Operand)
    (ho : o.op = .call { callee := .builtin .append, args := #[s, x], argTypes := #[24, 24] })
    (base : Nat) (v : Value) (n : Nat) (cs : List Value) (hs : a.eval s = v) (hown : w.ownsRow base 38 1 v n cs)
    (g c : Nat) (q : Option Addr) (m k : Nat) (hx : a.eval x = .slice (some ⟨g, 0, none⟩) 1 c) (hc : ∀ j u, ([.slice q m k] : List Value)[j]? = some u → w.cell? ((⟨g, 0, none⟩ : Addr).add j) = some u)
    (hsm : n ≤ 1000000) (hbase : base ≤ w.heap.size)
    (h : ∀ q' c' w', w'.ownsRow base 38 1 (.slice q' (n + 1) c') (n + 1) (cs ++ [.slice q m k]) → w.grownBy w' v.ownBlock → wpList Tryd.prog ops Q rest (a.put o.dst (.slice q' (n + 1) c')) w') : wpList Tryd.prog ops Q (o :: rest) a w := by
  obtain ⟨i0, hi, hz0, hz1, hzz⟩ := info_parts info_vals
  refine wpList_append_own w hgd s x 24 ho base 38 i0 _ 1 24 Tryd.underlying24 hi hz0 hz1 hzz rfl (by decide) v n cs hs hown ⟨g, 0, none⟩ 1 c [.slice q m k] hx rfl hc (by intro u hu; simp at hu; subst hu; rfl) (by unfold maxLen; omega) (by omega) hbase (fun v' w' o1 o2 _ => ?_)
  obtain ⟨q', c', rfl⟩ : ∃ q' c', v' = .slice q' (n + 1) c' := by
    rcases o1.2 with ⟨_, h0⟩ | ⟨g', cap, cur, e, _⟩
    · omega
    · exact ⟨_, _, e⟩
  exact h q' c' w' o1 o2
end Go.Proofs.YtfonalmgdjboeaaDoor
namespace Go.Proofs.YtfonalmgdjboeaaDoor
open Go.RowKit
set_option linter.unusedVariables false

/-- A row that was handed in. -/
def RowV (w : World) (v : Value) (r : List V3) : Prop := ∃ q c, v = .slice q r.length c ∧ ValsAt w q r ∧ (r.length = 0 ∨ ∀ g o, q = some ⟨g, o, none⟩ → g < w.heap.size)
/-- The good rows, gathered. -/
structure GdSt (w : World) (B : Nat) (q : Option Addr) (n c : Nat) (gs : List (List V3)) (W : World) : Prop where
  len : gs.length = n
  own : ∃ cs : List Value, W.ownsRow B 38 1 (.slice q n c) n cs ∧ ∀ j (h : j < gs.length), ∃ v, cs[j]? = some v ∧ RowV w v gs[j]
theorem GdSt.nil (w : World) (B : Nat) (W : World) : GdSt w B none 0 0 [] W := ⟨rfl, [], World.ownsRow_nil _ _ _ _, fun j h => absurd h (by simp)⟩
theorem GdSt.on {w W W' : World} {B : Nat} {q : Option Addr} {n c : Nat} {gs : List (List V3)} (h : GdSt w B q n c gs W) (hb : Below W.heap.size W W') : GdSt w B q n c gs W' := by
  obtain ⟨cs, h1, h2⟩ := h.own
  exact ⟨h.len, cs, lown_below h1 hb, h2⟩
theorem GdSt.kp {w W W' : World} {B : Nat} {q : Option Addr} {n c : Nat} {gs : List (List V3)} {S : Nat → Prop} (h : GdSt w B q n c gs W) (hk : Kp S W W') (hS : ∀ k, S k → k < B) : GdSt w B q n c gs W' := by
  obtain ⟨cs, h1, h2⟩ := h.own
  refine ⟨h.len, cs, ⟨h1.1, ?_⟩, h2⟩
  rcases h1.2 with hn | ⟨g, cap, cur, e, h3, hgg, rest⟩
  · exact .inl hn
  · exact .inr ⟨g, cap, cur, e, h3, by rw [hk.kept g (Array.getElem?_eq_some_iff.1 hgg).1 (fun hs => by have := hS g hs; omega)]; exact hgg, rest⟩
theorem GdSt.rows {w W : World} {B : Nat} {q : Option Addr} {n c : Nat} {gs : List (List V3)} (h : GdSt w B q n c gs W) (hb : Below w.heap.size w W) : RowsAt W q gs := by
  by_cases h0 : gs.length = 0
  · exact .inl h0
  · obtain ⟨cs, h1, h2⟩ := h.own
    have hl := h.len
    rcases h1.2 with ⟨e1, hn⟩ | ⟨g, cap, cur, e1, hB, hg, hm, hx, hs, ht⟩
    · omega
    · injection e1 with e1 e2 e3
      subst e1
      refine .inr ⟨g, 0, rfl, (Array.getElem?_eq_some_iff.1 hg).1, fun j hj => ?_⟩
      obtain ⟨v, a0, q', c', rfl, a1, a2⟩ := h2 j hj
      have h3 := h1.cells (g := g) rfl _ _ a0
      rw [Go.WideShapes.add_plain] at h3
      refine ⟨q', c', by simpa using h3, a1.on hb, ?_⟩
      rcases a2 with a2 | a2
      · exact .inl a2
      · exact .inr fun g o e => by have := a2 g o e; have := hb.size; omega
theorem GdSt.push {w W W2 : World} {B : Nat} {q q' : Option Addr} {n c c' : Nat} {gs : List (List V3)} {r : List V3} {cs : List Value} {v : Value} (h : gs.length = n) (h1 : W.ownsRow B 38 1 (.slice q n c) n cs) (h2 : ∀ j (h : j < gs.length), ∃ v, cs[j]? = some v ∧ RowV w v gs[j]) (hv : RowV w v r) (ho : W2.ownsRow B 38 1 (.slice q' (n + 1) c') (n + 1) (cs ++ [v])) : GdSt w B q' (n + 1) c' (gs ++ [r]) W2 := by
  have hcl : cs.length = n := by have := h1.1; omega
  refine ⟨by simp [h], cs ++ [v], ho, fun j hj => ?_⟩
  by_cases hjn : j < gs.length
  · obtain ⟨u, u1, u2⟩ := h2 j hjn
    refine ⟨u, by rw [List.getElem?_append_left (by omega)]; exact u1, ?_⟩
    rw [List.getElem_append_left hjn]; exact u2
  · have hj' : j = gs.length := by simp at hj; omega
    subst hj'
    refine ⟨v, by rw [List.getElem?_append_right (by omega), hcl, h]; simp, ?_⟩
    rw [List.getElem_append_right (Nat.le_refl _)]
    simpa using hv
/-- Accs stay where a list of rows of one's own grows. -/
theorem Accs.grown {n : Nat} {w W W' : World} {ps0 : List Pt} {A : Nat → Nat} {V : Nat → Value} {R : Nat → List (List V3)} {B m : Nat} {v : Value} {cs : List Value} (h : Accs n w W ps0 A V R) (ho : W.ownsRow B 38 1 v m cs) (hg : W.grownBy W' v.ownBlock) (hB : ∀ j, j < n → ∀ k, accS (A j) (V j) k → k < B) (hw : w.heap.size ≤ B) (hBW : B ≤ W.heap.size) : Accs n w W' ps0 A V R := by
  have hbl : ∀ k, v.ownBlock = some k → B ≤ k := fun k hk => (ho.lt k hk).1
  have hk : Kp (fun k => v.ownBlock = some k) W W' := ⟨((Below.refl _ W).grown hg hBW hbl).mono (Nat.zero_le _), fun k hk hn => hg.block k hk (fun e => hn e.symm)⟩
  refine ⟨h.below.trans (((Below.refl _ W).grown hg hBW hbl).mono hw), fun j hj => ?_, h.dj, h.el⟩
  obtain ⟨ps, h1, h2⟩ := h.at_ j hj
  refine ⟨ps, h1.keep hk (fun k hk hs => by have := hB j hj k hk; have := hbl k hs; omega) (fun k cs' hs hc => ?_), h2⟩
  rcases ho.2 with ⟨e, _⟩ | ⟨g, cap, cur, e, _, hgg, _⟩
  · rw [e] at hs; simp [Value.ownBlock] at hs
  · rw [e] at hs
    have hkg : g = k := by simpa [Value.ownBlock] using hs
    subst hkg
    rw [hgg] at hc
    injection hc with hc
    injection hc with _ hc
    exact absurd hc (by decide)
/-- Behind so many rows: what both Accs know, what is gathered; pd: what is Added and not yet gathered. -/
structure TlSt (w : World) (rws : List (List V3)) (ps0 : List Pt) (A : Nat → Nat) (V : Nat → Value) (B : Nat) (cut : Int) (pd : List (List V3)) (q : Option Addr) (n c kk : Nat) (W : World) : Prop where
  ex : ∃ R gs, Accs 2 w W ps0 A V R ∧ GdSt w B q n c gs W ∧ R 0 ++ R 1 = gs ++ pd ∧ ((kk : Int) ≤ cut → R 1 = []) ∧ (∀ r ∈ gs ++ pd, adE ps0 r = 0 ∧ r ∈ rws) ∧ gs.length + pd.length ≤ kk
  sep : ∀ j, j < 2 → ∀ k, accS (A j) (V j) k → k < B
  lo : w.heap.size ≤ B
  hi : B ≤ W.heap.size
theorem TlSt.on {w W W' : World} {rws : List (List V3)} {ps0 : List Pt} {A : Nat → Nat} {V : Nat → Value} {B : Nat} {cut : Int} {pd : List (List V3)} {q : Option Addr} {n c kk : Nat} (h : TlSt w rws ps0 A V B cut pd q n c kk W) (hb : Below W.heap.size W W') : TlSt w rws ps0 A V B cut pd q n c kk W' := by
  obtain ⟨R, gs, h1, h2, h3⟩ := h.ex
  exact ⟨⟨R, gs, h1.on hb, h2.on hb, h3⟩, h.sep, h.lo, by have := h.hi; have := hb.size; omega⟩
theorem TlSt.below {w W : World} {rws : List (List V3)} {ps0 : List Pt} {A : Nat → Nat} {V : Nat → Value} {B : Nat} {cut : Int} {pd : List (List V3)} {q : Option Addr} {n c kk : Nat} (h : TlSt w rws ps0 A V B cut pd q n c kk W) : Below w.heap.size w W := by
  obtain ⟨R, gs, h1, _⟩ := h.ex
  exact h1.below
theorem tl_add {w W : World} {rws : List (List V3)} {ps0 : List Pt} {A : Nat → Nat} {V : Nat → Value} {B : Nat} {cut : Int} {q : Option Addr} {n c kk : Nat} (h : TlSt w rws ps0 A V B cut [] q n c kk W) (hk : kk < 60) (r : List V3) (hr : r ∈ rws) (rq : Option Addr) (rc : Nat) (hv : RowV w (.slice rq r.length rc) r) (hs : SizedV r) (hl : r.length ≤ maxLen) (i : Nat) (hi : ((kk : Int) < cut ∧ i = 0) ∨ (¬ (kk : Int) < cut ∧ i = 1)) :
    Calls Tryd.prog 9 #[.pointer (some ⟨A i, 0, none⟩), .slice rq r.length rc] W fun e w' => e = .returned (errV (adE ps0 r)) ∧ Aside (TlSt w rws ps0 A V B cut (if adE ps0 r = 0 then [r] else []) q n c (kk + 1) w') := by
  obtain ⟨R, gs, h1, h2, h3, h4, h5, h6⟩ := h.ex
  have hi2 : i < 2 := by omega
  have hRl : (R i).length ≤ 60 := by
    have := congrArg List.length h3
    simp at this h6
    rcases hi with ⟨_, rfl⟩ | ⟨_, rfl⟩ <;> omega
  obtain ⟨q0, c0, e0, v1, v2⟩ := hv
  injection e0 with e1 e2 e3
  subst e1 e3
  have hvd : r.length = 0 ∨ ∀ b o, rq = some ⟨b, o, none⟩ → ¬ accS (A i) (V i) b := by
    rcases v2 with v2 | v2
    · exact .inl v2
    · exact .inr fun g o e hs => by have := h1.el i hi2 g hs; have := v2 g o e; omega
  refine (add_c (A i) (V i) ps0 (R i) rq rc r W (h1.at_ i hi2) (by omega) (v1.on h1.below) hs hl hvd).mono fun e w' hh => ⟨hh.1, ?_⟩
  obtain ⟨_, ha, hkp⟩ := hh
  have hA := h1.upd hi2 ha hkp
  have hG := h2.kp hkp (fun k hk => h.sep i hi2 k hk)
  refine (show Aside _ from ⟨⟨_, gs, hA, hG, ?_, ?_, ?_, ?_⟩, h.sep, h.lo, by have := h.hi; have := (hkp.below (Nat.zero_le _) (fun k hk => absurd hk (Nat.not_lt_zero k))).size; omega⟩)
  · simp only [updR, gdR]
    simp only [List.append_nil] at h3
    rcases hi with ⟨hc, rfl⟩ | ⟨hc, rfl⟩
    · have h40 := h4 (by omega)
      rw [h40, List.append_nil] at h3
      by_cases hE : adE ps0 r = 0
      · simp [hE, h40, h3]
      · simp [hE, h40, h3]
    · by_cases hE : adE ps0 r = 0
      · simp [hE, ← h3]
      · simp [hE, ← h3]
  · intro hc
    simp only [updR]
    rcases hi with ⟨hc', rfl⟩ | ⟨hc', rfl⟩
    · simpa using h4 (by omega)
    · omega
  · intro x hx
    rcases List.mem_append.1 hx with hx | hx
    · exact h5 x (by simp [hx])
    · by_cases hE : adE ps0 r = 0
      · rw [if_pos hE] at hx
        obtain rfl : x = r := by simpa using hx
        exact ⟨hE, hr⟩
      · rw [if_neg hE] at hx; simp at hx
  · simp at h6
    by_cases hE : adE ps0 r = 0
    · rw [if_pos hE]; simp; omega
    · rw [if_neg hE]; simp; omega
end Go.Proofs.YtfonalmgdjboeaaDoor
namespace Go.Proofs.YtfonalmgdjboeaaDoor
open Go.RowKit
set_option linter.unusedVariables false

theorem tl_start {w W1 W2 W3 : World} {rws : List (List V3)} {ps0 : List Pt} {a b : Nat} {av bv : Value} (cut : Int) (h1 : AcAt W1 a av ps0 []) (h2 : ∀ k, accS a av k → w.heap.size ≤ k) (h3 : Below w.heap.size w W1) (h4 : Below W1.heap.size W1 W2) (h5 : AcAt W3 b bv ps0 []) (h6 : ∀ k, accS b bv k → W2.heap.size ≤ k) (h7 : Below W2.heap.size W2 W3) :
    ∃ (A : Nat → Nat) (V : Nat → Value), A 0 = a ∧ A 1 = b ∧ Aside (TlSt w rws ps0 A V W3.heap.size cut [] none 0 0 0 W3) := by
  have s1 := h3.size
  have s2 := h4.size
  have s3 := h7.size
  have hl := h1.lt
  have B13 : Below W1.heap.size W1 W3 := h4.trans (h7.mono s2)
  refine ⟨fun i => match i with | 0 => a | _ => b, fun i => match i with | 0 => av | _ => bv, rfl, rfl, (show Aside _ from ⟨⟨fun _ => [], [], ⟨h3.trans (B13.mono s1), fun j hj => ?_, fun i j hi hj hij k hk hk2 => ?_, fun j hj k hk => ?_⟩, GdSt.nil _ _ _, rfl, fun _ => rfl, fun r hr => absurd hr (by simp), Nat.le_refl _⟩, fun j hj k hk => ?_, by omega, Nat.le_refl _⟩)⟩
  · match j, hj with
    | 0, _ => exact h1.on B13
    | 1, _ => exact h5
  · match i, hi, j, hj with
    | 0, _, 0, _ => exact hij rfl
    | 0, _, 1, _ => have := hl k hk; have := h6 k hk2; omega
    | 1, _, 0, _ => have := hl k hk2; have := h6 k hk; omega
    | 1, _, 1, _ => exact hij rfl
  · match j, hj with
    | 0, _ => exact h2 k hk
    | 1, _ => have := h6 k hk; omega
  · match j, hj with
    | 0, _ => have := hl k hk; omega
    | 1, _ => exact h5.lt k hk
theorem tl_own {w W : World} {rws : List (List V3)} {ps0 : List Pt} {A : Nat → Nat} {V : Nat → Value} {B : Nat} {cut : Int} {r : List V3} {q : Option Addr} {n c kk : Nat} (h : TlSt w rws ps0 A V B cut [r] q n c kk W) : ∃ cs : List Value, W.ownsRow B 38 1 (.slice q n c) n cs ∧ n + 1 ≤ kk ∧ B ≤ W.heap.size ∧ ∀ v, RowV w v r → ∀ W1, Below W.heap.size W W1 → ∀ q' c' W2, W2.ownsRow B 38 1 (.slice q' (n + 1) c') (n + 1) (cs ++ [v]) → W1.grownBy W2 (Value.slice q n c).ownBlock → TlSt w rws ps0 A V B cut [] q' (n + 1) c' kk W2 := by
  obtain ⟨R, gs, h1, h2, h3, h4, h5, h6⟩ := h.ex
  obtain ⟨cs, o1, o2⟩ := h2.own
  have hl := h2.len
  have hbl : ∀ k, (Value.slice q n c).ownBlock = some k → B ≤ k := fun k hk => (o1.lt k hk).1
  refine ⟨cs, o1, by simp at h6; omega, h.hi, fun v hv W1 hb q' c' W2 ho hg => ⟨⟨R, gs ++ [r], (h1.on hb).grown (lown_below o1 hb) hg h.sep h.lo (by have := h.hi; have := hb.size; omega), GdSt.push hl (lown_below o1 hb) o2 hv ho, by simpa using h3, h4, by simpa using h5, by simpa using h6⟩, h.sep, h.lo, ?_⟩⟩
  have := ((Below.refl _ W1).grown hg (by have := h.hi; have := hb.size; omega) hbl).size
  have := h.hi
  have := hb.size
  omega
/-- What is known behind Join. -/
structure JnSt (w : World) (rws : List (List V3)) (ps0 : List Pt) (a : Nat) (v : Value) (q : Option Addr) (gs : List (List V3)) (W : World) : Prop where
  acc : AcAt W a v ps0 gs
  rows : RowsAt W q gs
  old : Below w.heap.size w W
  gd : ∀ r ∈ gs, adE ps0 r = 0 ∧ r ∈ rws
  len : gs.length ≤ 60
theorem JnSt.on {w W W' : World} {rws : List (List V3)} {ps0 : List Pt} {a : Nat} {v : Value} {q : Option Addr} {gs : List (List V3)} (h : JnSt w rws ps0 a v q gs W) (hb : Below W.heap.size W W') : JnSt w rws ps0 a v q gs W' :=
  ⟨h.acc.on hb, h.rows.on hb, h.old.trans (hb.mono h.old.size), h.gd, h.len⟩
theorem tl_join {w W : World} {rws : List (List V3)} {ps0 : List Pt} {A : Nat → Nat} {V : Nat → Value} {B : Nat} {cut : Int} {q : Option Addr} {n c kk : Nat} (h : TlSt w rws ps0 A V B cut [] q n c kk W) (hk : kk ≤ 60) : ∃ gs, gs.length = n ∧
    Calls Tryd.prog 10 #[.pointer (some ⟨A 0, 0, none⟩), .pointer (some ⟨A 1, 0, none⟩)] W fun e w' => e = .returned .nilIface ∧ Aside (JnSt w rws ps0 (A 0) (V 0) q gs w') := by
  obtain ⟨R, gs, h1, h2, h3, h4, h5, h6⟩ := h.ex
  rw [List.append_nil] at h3 h5
  have hgl : gs.length ≤ 60 := by simp at h6; omega
  have hRl := congrArg List.length h3
  rw [List.length_append] at hRl
  refine ⟨gs, h2.len, (join_c (A 0) (V 0) (A 1) (V 1) ps0 (R 0) (R 1) W (h1.at_ 0 (by decide)) (h1.at_ 1 (by decide)) (by omega) (h1.dj 1 0 (by decide) (by decide) (by decide))).mono fun e w' hh => ⟨hh.1, ?_⟩⟩
  obtain ⟨_, ha, hkp⟩ := hh
  rw [h3] at ha
  have hA := h1.upd (by decide) ha hkp
  exact (show Aside _ from ⟨ha, (h2.kp hkp (fun k hk => h.sep 0 (by decide) k hk)).rows hA.below, hA.below, h5, hgl⟩)
theorem tl_total {w W : World} {ap : Option Addr} {xs : List ByteArray} {tp : Option Addr} {ts : List Int} {rp : Option Addr} {rws : List (List V3)} (hA : AnyE w ap xs tp ts rp rws) (hE : nwE xs ts = 0) {a : Nat} {v : Value} {q : Option Addr} {gs : List (List V3)} (h : JnSt w rws (nwP xs ts) a v q gs W) (ac c : Nat) (PST : Ending → World → Prop)
    (hpg : totE xs gs = 0 → ∀ q c W', ValsAt W' q (totV xs gs) → Below W.heap.size W W' → PST (.returned (.tuple #[.slice q xs.length c, .int .i64 0])) W') (hpb : ∀ E, totE xs gs = E → E ≠ 0 → ∀ W', Below W.heap.size W W' → PST (.returned (.tuple #[.slice none 0 0, .int .i64 E])) W') :
    Calls Tryd.prog 11 #[.slice ap xs.length ac, .slice q gs.length c] W PST := by
  obtain ⟨hl, hnp⟩ := nw_at hE
  have hx6 : xs.length ≤ 6 := by
    unfold nwE at hE
    rw [if_neg (fun e => e hl)] at hE
    by_cases h6 : 6 < xs.length
    · rw [if_pos h6] at hE; omega
    · omega
  have hpl : (nwP xs ts).length = xs.length := by simp [nwP, hl]
  have hat : ∀ i (h1 : i < xs.length), (nwP xs ts)[i]'(by rw [hpl]; exact h1) = ⟨xs[i], if xs[i].data.toList = wCount then 0 else ts[i]'(by omega), [], noV⟩ := fun i h1 => by
    simp only [nwP, List.getElem_zipWith, npP]
    rw [if_neg (fun e => e (hnp i h1 (by omega)))]
  refine total_gen ap ac xs q c gs W (hA.ags.on h.old) h.rows hx6 h.len (fun r hr => ?_) (fun x hx => ?_) (fun r hr => (hA.sz r (h.gd r hr).2).1) (fun i hi hw => ?_) PST hpg hpb
  · rw [(adE_good (h.gd r hr).1).1, hpl]
  · obtain ⟨i, hi, rfl⟩ := List.getElem_of_mem hx
    have := hnp i hi (by omega)
    unfold npE at this
    by_cases ha : isAg xs[i].data.toList = true
    · exact ha
    · rw [if_pos (by simpa using ha)] at this; omega
  · refine ⟨((nwP xs ts)[i]'(by rw [hpl]; exact hi)).kind, fun u hu => ?_⟩
    obtain ⟨r, hr, rfl⟩ := List.mem_map.1 hu
    obtain ⟨g1, g2⟩ := adE_good (h.gd r hr).1
    have hir : i < r.length := by omega
    rw [List.getD_eq_getElem?_getD, List.getElem?_eq_getElem hir]
    exact ckPt_ok (g2 i (by rw [hpl]; exact hi) hir) (by rw [hat i hi]; exact hw)
theorem tl_result {w W : World} {xs : List ByteArray} {ts : List Int} {rws : List (List V3)} (hE : nwE xs ts = 0) {a : Nat} {v : Value} {q : Option Addr} {gs : List (List V3)} (h : JnSt w rws (nwP xs ts) a v q gs W) :
    (totE xs gs = 0 → Calls Tryd.prog 12 #[.pointer (some ⟨a, 0, none⟩)] W fun e w' => (∃ q c, e = .returned (.tuple #[.slice q xs.length c, .nilIface]) ∧ Aside (ValsAt w' q (totV xs gs))) ∧ Aside (Below W.heap.size W w')) ∧
    (∀ E, totE xs gs = E → E ≠ 0 → Calls Tryd.prog 12 #[.pointer (some ⟨a, 0, none⟩)] W fun e w' => e = .returned (.tuple #[.slice none 0 0, .iface 53 (.int .i64 E)]) ∧ Aside (Below W.heap.size W w')) := by
  obtain ⟨ps, hu, hc⟩ := result_c a v _ gs W h.acc
  obtain ⟨t1, t2⟩ := tells_tot hE hu
  rw [t1, t2] at hc
  have hVL : (totV xs gs).length = xs.length := by simp [totV, totL]
  rw [hVL] at hc
  refine ⟨fun h0 => ?_, fun E hE' h0 => ?_⟩
  · rcases hc with hc | hc
    · exact hc.2
    · exact absurd h0 hc.1
  · subst hE'
    rcases hc with hc | hc
    · exact absurd hc.1 h0
    · exact hc.2
end Go.Proofs.YtfonalmgdjboeaaDoor
