/-
  AgF, AgG, AgOp, in one text.
-/
import Derived.Test.YtfonalmgdjboeaaDoorGrAf
import Derived.Test.YtfonalmgdjboeaaDoorRows
import Derived.Deep.Strs
import Derived.Deep.Slices
import Derived.OpenShut
import Derived.Carry
import Derived.ProofKit
namespace Go.Proofs.YtfonalmgdjboeaaDoor
open Go.RowKit
set_option linter.unusedVariables false

/-- A value that is right, of a type. -/
def okT (t : Int) (v : V3) : Prop := v.1 = t ∧ chk v.1 v.2.1 v.2.2.data.toList = 0
theorem okT_type {t : Int} {v : V3} (h : okT t v) : t = 1 ∨ t = 2 ∨ t = 3 := by
  obtain ⟨h1, h2⟩ := h
  rw [h1] at h2
  rcases Decidable.em (t = 1 ∨ t = 2 ∨ t = 3) with h | h
  · exact h
  · unfold chk at h2; rw [if_pos (.inl h)] at h2; omega
theorem cmpX_eq {t : Int} {a b : V3} (ha : okT t a) (hb : okT t b) : cmpX a b = if t = 3 then cmpS a.2.2.data.toList b.2.2.data.toList else cmpI a.2.1 b.2.1 := by
  have he : cmpE a.1 a.2.1 a.2.2.data.toList b.1 b.2.1 b.2.2.data.toList = 0 := by
    rw [cmpE, if_neg (by rw [ha.2]; simp), if_neg (by rw [hb.2]; simp), if_neg (by rw [ha.1, hb.1]; simp)]
  rw [cmpX, cmpN, if_neg (by rw [he]; simp), ha.1]
theorem cmpI_lt0 {x y : Int} : cmpI x y < 0 ↔ x < y := by unfold cmpI; split <;> (try split) <;> omega
theorem cmpI_gt0 {x y : Int} : 0 < cmpI x y ↔ y < x := by unfold cmpI; split <;> (try split) <;> omega
theorem cmpS_lt0 {x y : List UInt8} : cmpS x y < 0 ↔ x < y := by
  unfold cmpS
  by_cases h : x < y
  · simp [h]
  · rw [if_neg h]; split <;> simp [h]
theorem cmpS_gt0 {x y : List UInt8} : 0 < cmpS x y ↔ y < x := by
  unfold cmpS
  by_cases h : x < y
  · rw [if_pos h]
    have : ¬ y < x := fun h2 => List.lt_irrefl _ (List.lt_trans h h2)
    simp [this]
  · rw [if_neg h]; split <;> simp [*]
/-- Is a value rather told than another one? -/
def ahV (w : List UInt8) (a b : V3) : Prop := if w = wLeast then cmpX a b < 0 else 0 < cmpX a b
theorem ahV_trans {w : List UInt8} {t : Int} {a b c : V3} (ha : okT t a) (hb : okT t b) (hc : okT t c) (h1 : ahV w a b) (h2 : ahV w b c) : ahV w a c := by
  unfold ahV at *
  rw [cmpX_eq ha hb] at h1
  rw [cmpX_eq hb hc] at h2
  rw [cmpX_eq ha hc]
  by_cases hw : w = wLeast
  · rw [if_pos hw] at *
    by_cases ht : t = 3
    · rw [if_pos ht] at *
      rw [cmpS_lt0] at *
      exact List.lt_trans h1 h2
    · rw [if_neg ht] at *
      rw [cmpI_lt0] at *
      omega
  · rw [if_neg hw] at *
    by_cases ht : t = 3
    · rw [if_pos ht] at *
      rw [cmpS_gt0] at *
      exact List.lt_trans h2 h1
    · rw [if_neg ht] at *
      rw [cmpI_gt0] at *
      omega
theorem byte_eq {a b : ByteArray} (h : a.data.toList = b.data.toList) : a = b := by
  cases a; cases b
  simp only [ByteArray.mk.injEq]
  exact Array.toList_inj.1 h
theorem ahV_same {w : List UInt8} {t : Int} {a b : V3} (ha : okT t a) (hb : okT t b) (h1 : ¬ ahV w a b) (h2 : ¬ ahV w b a) : a = b := by
  have key : (t = 3 → a.2.2.data.toList = b.2.2.data.toList) ∧ (t ≠ 3 → a.2.1 = b.2.1) := by
    unfold ahV at h1 h2
    rw [cmpX_eq ha hb] at h1
    rw [cmpX_eq hb ha] at h2
    refine ⟨fun ht => ?_, fun ht => ?_⟩
    · rw [if_pos ht] at h1 h2
      by_cases hw : w = wLeast
      · rw [if_pos hw, cmpS_lt0] at h1 h2
        exact List.le_antisymm (List.not_lt.1 h2) (List.not_lt.1 h1)
      · rw [if_neg hw, cmpS_gt0] at h1 h2
        exact List.le_antisymm (List.not_lt.1 h1) (List.not_lt.1 h2)
    · rw [if_neg ht] at h1 h2
      by_cases hw : w = wLeast
      · rw [if_pos hw, cmpI_lt0] at h1 h2; omega
      · rw [if_neg hw, cmpI_gt0] at h1 h2; omega
  obtain ⟨a1, a2, a3⟩ := a
  obtain ⟨b1, b2, b3⟩ := b
  obtain ⟨ha1, ha2⟩ := ha
  obtain ⟨hb1, hb2⟩ := hb
  simp only at *
  subst ha1 hb1
  by_cases ht : b1 = 3
  · subst ht
    rw [(chk_three ha2).2, (chk_three hb2).2, byte_eq (key.1 rfl)]
  · have hn := key.2 ht
    have hs : a3.data.toList = [] ∧ b3.data.toList = [] := by
      rcases okT_type (t := b1) (v := (b1, a2, a3)) ⟨rfl, ha2⟩ with h | h | h
      · subst h; exact ⟨chk_one ha2, chk_one hb2⟩
      · subst h; exact ⟨(chk_two ha2).2, (chk_two hb2).2⟩
      · exact absurd h ht
    rw [hn, byte_eq (hs.1.trans hs.2.symm)]
/-- The one of values that is told. -/
def IsBest (w : List UInt8) (vs : List V3) (b : V3) : Prop := (vs = [] ∧ b = noV) ∨ (b ∈ vs ∧ ∀ v ∈ vs, ¬ ahV w v b)
theorem IsBest.unique {w : List UInt8} {t : Int} {vs us : List V3} {a b : V3} (hv : ∀ v ∈ vs, okT t v) (hm : ∀ v, v ∈ vs ↔ v ∈ us) (h1 : IsBest w vs a) (h2 : IsBest w us b) : a = b := by
  rcases h1 with ⟨e1, r1⟩ | ⟨m1, k1⟩
  · rcases h2 with ⟨e2, r2⟩ | ⟨m2, k2⟩
    · rw [r1, r2]
    · have := (hm b).2 m2; rw [e1] at this; simp at this
  · rcases h2 with ⟨e2, r2⟩ | ⟨m2, k2⟩
    · have := (hm a).1 m1; rw [e2] at this; simp at this
    · exact ahV_same (hv a m1) (hv b ((hm b).2 m2)) (k2 a ((hm a).1 m1)) (k1 b ((hm b).2 m2))
/-- What a part knows of values. -/
structure Kn (p : Pt) (vs : List V3) : Prop where
  sum : p.wh = wSum → sv p.ws = (vs.map (·.2.1)).sum
  best : p.wh = wLeast ∨ p.wh = wMost → IsBest p.wh vs p.best
theorem Kn.nil {p : Pt} (h1 : p.ws = []) (h2 : p.best = noV) : Kn p [] := ⟨fun _ => by rw [h1]; rfl, fun _ => .inl ⟨rfl, h2⟩⟩
theorem aheadP_iff {p o : Pt} (h1 : p.best.1 ≠ 0) (h2 : o.best.1 ≠ 0) : aheadP p o = true ↔ ahV p.wh p.best o.best := by
  rw [aheadP, if_neg (by rintro (h | h); exact h1 h; exact h2 h), ahV]
  split <;> simp
theorem best_nz {w : List UInt8} {t : Int} {vs : List V3} {b : V3} (h : IsBest w vs b) (hv : ∀ v ∈ vs, okT t v) : b.1 = 0 ↔ vs = [] := by
  rcases h with ⟨e, r⟩ | ⟨m, _⟩
  · rw [r]; simp [noV, e]
  · have := hv b m
    have ht := okT_type this
    constructor
    · intro h0; rw [this.1] at h0; omega
    · intro h0; rw [h0] at m; simp at m
/-- What two know is what is known of both's values. -/
theorem Kn.join {p o : Pt} {vs us : List V3} (h : Kn p vs) (k : Kn o us) (hw : o.wh = p.wh) (hp : OkPt p) (ho : OkPt o) (hv : p.wh = wLeast ∨ p.wh = wMost → ∀ v ∈ vs, okT p.kind v) (hu : p.wh = wLeast ∨ p.wh = wMost → ∀ v ∈ us, okT p.kind v) : Kn (tkP p o) (vs ++ us) := by
  have hwh : (tkP p o).wh = p.wh := by unfold Pt.wh; rw [(tkP_what p o).1]
  refine ⟨fun hs => ?_, fun hb => ?_⟩
  · rw [hwh] at hs
    rw [tkP, if_pos hs]
    show sv (shW (sumW p.ws o.ws)) = _
    obtain ⟨s1, s2, s3⟩ := sumW_is p.ws o.ws hp.ws.1 ho.ws.1
    rw [(shW_is _ s2 (by intro e; rw [e] at s3; simp at s3)).1, s1, h.sum hs, k.sum (by rw [hw]; exact hs), List.map_append, List.sum_append]
  · rw [hwh] at hb ⊢
    have hns : p.wh ≠ wSum := by rcases hb with hb | hb <;> rw [hb] <;> decide
    have h1 := h.best hb
    have k1 := k.best (by rw [hw]; exact hb)
    rw [hw] at k1
    have z1 := best_nz h1 (hv hb)
    have z2 := best_nz k1 (hu hb)
    rw [tkP, if_neg hns, if_pos hb]
    by_cases e2 : us = []
    · have : aheadP o p = false := by rw [aheadP, if_pos (.inl (z2.2 e2))]; simp [z2.2 e2]
      rw [this, if_neg (by simp), e2, List.append_nil]
      exact h1
    · have n2 : o.best.1 ≠ 0 := fun h0 => e2 (z2.1 h0)
      have m2 := k1.resolve_left (fun h0 => e2 h0.1)
      by_cases e1 : vs = []
      · have : aheadP o p = true := by rw [aheadP, if_pos (.inr (z1.2 e1))]; simpa using n2
        rw [this, if_pos rfl, e1, List.nil_append]
        exact k1
      · have n1 : p.best.1 ≠ 0 := fun h0 => e1 (z1.1 h0)
        have m1 := h1.resolve_left (fun h0 => e1 h0.1)
        have hiff := aheadP_iff n2 n1
        rw [hw] at hiff
        by_cases ha : ahV p.wh o.best p.best
        · rw [hiff.2 ha, if_pos rfl]
          refine .inr ⟨List.mem_append.2 (.inr m2.1), fun v hv' => ?_⟩
          rcases List.mem_append.1 hv' with hv' | hv'
          · intro hlt
            exact m1.2 v hv' (ahV_trans (hv hb v hv') (hu hb _ m2.1) (hv hb _ m1.1) hlt ha)
          · exact m2.2 v hv'
        · have : aheadP o p = false := by
            cases hc : aheadP o p
            · rfl
            · exact absurd (hiff.1 hc) ha
          rw [this, if_neg (by simp)]
          refine .inr ⟨List.mem_append.2 (.inl m1.1), fun v hv' => ?_⟩
          rcases List.mem_append.1 hv' with hv' | hv'
          · exact m1.2 v hv'
          · intro hlt
            by_cases hq : ahV p.wh p.best o.best
            · exact m2.2 v hv' (ahV_trans (hu hb v hv') (hv hb _ m1.1) (hu hb _ m2.1) hlt hq)
            · have := ahV_same (hu hb _ m2.1) (hv hb _ m1.1) ha hq
              rw [← this] at hlt
              exact m2.2 v hv' hlt
theorem Kn.one {p : Pt} {v : V3} (hb : inB v.2.1) : Kn (oneP p v) [v] := by
  have hwh : (oneP p v).wh = p.wh := by unfold Pt.wh; rw [(oneP_what p v).1]
  refine ⟨fun hs => ?_, fun hx => ?_⟩
  · rw [hwh] at hs
    rw [oneP, if_pos hs]
    show sv [v.2.1 % 18446744073709551616] = _
    rw [sv_one _ hb]; simp
  · rw [hwh] at hx ⊢
    have hns : p.wh ≠ wSum := by rcases hx with hx | hx <;> rw [hx] <;> decide
    rw [oneP, if_neg hns, if_pos hx]
    refine .inr ⟨by simp, fun u hu => ?_⟩
    have : u = v := by simpa using hu
    subst this
    unfold ahV cmpX cmpN
    split
    · split
      · omega
      · split
        · rw [cmpS_lt0]; exact List.lt_irrefl _
        · rw [cmpI_lt0]; exact Int.lt_irrefl _
    · split
      · omega
      · split
        · rw [cmpS_gt0]; exact List.lt_irrefl _
        · rw [cmpI_gt0]; exact Int.lt_irrefl _
/-- A column of rows. -/
def colV (i : Nat) (rs : List (List V3)) : List V3 := rs.map fun r => r.getD i noV
theorem colV_app (i : Nat) (a b : List (List V3)) : colV i (a ++ b) = colV i a ++ colV i b := by simp [colV]
theorem AlikeL.refl (ps : List Pt) : AlikeL ps ps := ⟨rfl, fun i _ _ => ⟨rfl, rfl⟩⟩
theorem AlikeL.symm {ps os : List Pt} (h : AlikeL ps os) : AlikeL os ps := ⟨h.1.symm, fun i h1 h2 => ⟨(h.2 i h2 h1).1.symm, (h.2 i h2 h1).2.symm⟩⟩
theorem AlikeL.trans {ps os qs : List Pt} (h : AlikeL ps os) (k : AlikeL os qs) : AlikeL ps qs :=
  ⟨h.1.trans k.1, fun i h1 h2 => by
    have h3 : i < os.length := by have := h.1; omega
    exact ⟨(h.2 i h1 h3).1.trans (k.2 i h3 h2).1, (h.2 i h1 h3).2.trans (k.2 i h3 h2).2⟩⟩
theorem ckPt_alike {p o : Pt} (h1 : p.what = o.what) (h2 : p.kind = o.kind) (v : V3) : ckPt p v = ckPt o v := by unfold ckPt Pt.wh; rw [h1, h2]
theorem zip_alike : ∀ {ps os : List Pt} (vs : List V3), AlikeL ps os → List.zipWith ckPt ps vs = List.zipWith ckPt os vs
  | [], [], vs, _ => rfl
  | p :: ps, [], vs, h => by have := h.1; simp at this
  | [], o :: os, vs, h => by have := h.1; simp at this
  | p :: ps, o :: os, [], _ => by simp
  | p :: ps, o :: os, v :: vs, h => by
    have h0 : p.what = o.what ∧ p.kind = o.kind := h.2 0 (by simp) (by simp)
    rw [List.zipWith_cons_cons, List.zipWith_cons_cons, ckPt_alike h0.1 h0.2, zip_alike vs ⟨by have := h.1; simpa using this, fun i h1 h2 => h.2 (i + 1) (by simpa using h1) (by simpa using h2)⟩]
theorem adE_alike {ps os : List Pt} (h : AlikeL ps os) (vs : List V3) : adE ps vs = adE os vs := by
  unfold adE
  rw [zip_alike vs h, h.1]
theorem adE_good {ps : List Pt} {vs : List V3} (h : adE ps vs = 0) : vs.length = ps.length ∧ ∀ i (h1 : i < ps.length) (h2 : i < vs.length), ckPt ps[i] vs[i] = 0 := by
  unfold adE at h
  by_cases hl : vs.length = ps.length
  · rw [if_neg (fun k => k hl)] at h
    refine ⟨hl, fun i h1 h2 => ?_⟩
    have hz : i < (List.zipWith ckPt ps vs).length := by simp; omega
    rw [← zip_at h1 h2 hz]
    exact fstE_zero h _ (List.getElem_mem _)
  · rw [if_pos hl] at h; omega
theorem ckPt_ok {p : Pt} {v : V3} (h : ckPt p v = 0) (hx : p.wh = wLeast ∨ p.wh = wMost) : okT p.kind v := by
  unfold ckPt at h
  rw [if_neg (by rcases hx with hx | hx <;> rw [hx] <;> decide)] at h
  by_cases h1 : chk v.1 v.2.1 v.2.2.data.toList = 0
  · rw [if_neg (fun k => k h1)] at h
    by_cases h2 : v.1 = p.kind
    · exact ⟨h2, h1⟩
    · rw [if_pos h2] at h; omega
  · rw [if_pos h1] at h; exact absurd h h1
theorem adP_len (ps : List Pt) (vs : List V3) : (adP ps vs).length = ps.length := tkN_len _ _ _
theorem adP_at {ps : List Pt} {vs : List V3} {i : Nat} (h1 : i < ps.length) (h2 : i < vs.length) : (adP ps vs)[i]'(by rw [adP_len]; exact h1) = tkP ps[i] (oneP ps[i] vs[i]) := by
  unfold adP
  rw [tkN_at _ _ _ _ h1, if_pos h1, adO h1 h2]
theorem jnP_len (ps os : List Pt) : (jnP ps os).length = ps.length := tkN_len _ _ _
theorem jnP_at {ps os : List Pt} {i : Nat} (h1 : i < ps.length) (h2 : i < os.length) : (jnP ps os)[i]'(by rw [jnP_len]; exact h1) = tkP ps[i] os[i] := by
  unfold jnP
  rw [tkN_at _ _ _ _ h1, if_pos h1, jnO h2]
/-- Parts that know just these rows. -/
structure Acu (ps0 : List Pt) (rs : List (List V3)) (ps : List Pt) : Prop where
  al : AlikeL ps ps0
  ok : AccOk (rs.length : Int) ps
  kn : ∀ i (h : i < ps.length), Kn ps[i] (colV i rs)
  gd : ∀ r ∈ rs, adE ps0 r = 0
theorem Acu.col {ps0 ps : List Pt} {rs : List (List V3)} (h : Acu ps0 rs ps) {i : Nat} (hi : i < ps.length) : ps[i].wh = wLeast ∨ ps[i].wh = wMost → ∀ v ∈ colV i rs, okT ps[i].kind v := by
  intro hx v hv
  unfold colV at hv
  obtain ⟨r, hr, rfl⟩ := List.mem_map.1 hv
  have hg := h.gd r hr
  rw [← adE_alike h.al] at hg
  obtain ⟨h1, h2⟩ := adE_good hg
  have hi2 : i < r.length := by omega
  rw [List.getD_eq_getElem?_getD, List.getElem?_eq_getElem hi2]
  exact ckPt_ok (h2 i hi hi2) hx
theorem Acu.new {xs : List ByteArray} {ts : List Int} (h : nwE xs ts = 0) : Acu (nwP xs ts) [] (nwP xs ts) := by
  obtain ⟨h1, h2, h3⟩ := nwP_ok h
  exact ⟨AlikeL.refl _, h1, fun i hi => Kn.nil (h2 _ (List.getElem_mem hi)).1 (h2 _ (List.getElem_mem hi)).2, fun r hr => by simp at hr⟩
theorem Acu.add {ps0 ps : List Pt} {rs : List (List V3)} {vs : List V3} (h : Acu ps0 rs ps) (hE : adE ps0 vs = 0) (hs : SizedV vs) (hl : rs.length + 1 ≤ 10000) : Acu ps0 (rs ++ [vs]) (adP ps vs) := by
  have hE' := hE
  rw [← adE_alike h.al] at hE'
  obtain ⟨e1, e2⟩ := adE_good hE'
  have hlen : ((rs ++ [vs]).length : Int) = (rs.length : Int) + 1 := by simp
  have part : ∀ i (hi : i < (adP ps vs).length), OkA ((rs.length : Int) + 1) (adP ps vs)[i] ∧ Kn (adP ps vs)[i] (colV i (rs ++ [vs])) := fun i hi => by
    have h1 : i < ps.length := by rw [adP_len] at hi; exact hi
    have h2 : i < vs.length := by omega
    have hp := h.ok.ok _ (List.getElem_mem h1)
    have ho := oneP_ok hp.ok (e2 i h1 h2) (hs _ (List.getElem_mem h2)).2
    have hw : (oneP ps[i] vs[i]).wh = ps[i].wh := by unfold Pt.wh; rw [(oneP_what _ _).1]
    rw [adP_at h1 h2]
    refine ⟨tkP_ok hp ho (oneP_what _ _).2 (by omega) (by omega) (by omega), ?_⟩
    have hc : colV i (rs ++ [vs]) = colV i rs ++ [vs[i]] := by
      rw [colV_app]
      simp [colV, h2]
    rw [hc]
    exact (h.kn i h1).join (Kn.one (hs _ (List.getElem_mem h2)).2) hw hp.ok ho.ok (h.col h1) (fun hx v hv => by
      have : v = vs[i] := by simpa using hv
      rw [this]
      exact ckPt_ok (e2 i h1 h2) hx)
  refine ⟨⟨by rw [adP_len]; exact h.al.1, fun i h1 h2 => ?_⟩, ⟨by rw [adP_len]; exact h.ok.len, by omega, by omega, fun p hp => ?_⟩, fun i hi => (part i hi).2, fun r hr => ?_⟩
  · have hi : i < ps.length := by rw [adP_len] at h1; exact h1
    rw [adP_at hi (by omega)]
    have := tkP_what ps[i] (oneP ps[i] vs[i])
    exact ⟨this.1.trans (h.al.2 i hi h2).1, this.2.trans (h.al.2 i hi h2).2⟩
  · obtain ⟨i, hi, rfl⟩ := List.getElem_of_mem hp
    rw [hlen]
    exact (part i hi).1
  · rcases List.mem_append.1 hr with hr | hr
    · exact h.gd r hr
    · have : r = vs := by simpa using hr
      rw [this]; exact hE
theorem Acu.join {ps0 ps os : List Pt} {rs us : List (List V3)} (h : Acu ps0 rs ps) (k : Acu ps0 us os) (hl : rs.length + us.length ≤ 10000) : Acu ps0 (rs ++ us) (jnP ps os) := by
  have hal : AlikeL ps os := h.al.trans k.al.symm
  have hlen : ((rs ++ us).length : Int) = (rs.length : Int) + (us.length : Int) := by simp
  have part : ∀ i (hi : i < (jnP ps os).length), OkA ((rs.length : Int) + (us.length : Int)) (jnP ps os)[i] ∧ Kn (jnP ps os)[i] (colV i (rs ++ us)) := fun i hi => by
    have h1 : i < ps.length := by rw [jnP_len] at hi; exact hi
    have h2 : i < os.length := by have := hal.1; omega
    have hp := h.ok.ok _ (List.getElem_mem h1)
    have ho := k.ok.ok _ (List.getElem_mem h2)
    obtain ⟨a1, a2⟩ := hal.2 i h1 h2
    have hw : os[i].wh = ps[i].wh := by unfold Pt.wh; rw [a1]
    rw [jnP_at h1 h2]
    refine ⟨tkP_ok hp ho a2.symm (by omega) (by omega) (by omega), ?_⟩
    rw [colV_app]
    exact (h.kn i h1).join (k.kn i h2) hw hp.ok ho.ok (h.col h1) (fun hx v hv => by
      have := k.col h2 (by rw [hw]; exact hx) v hv
      rw [← a2] at this
      exact this)
  refine ⟨⟨by rw [jnP_len]; exact h.al.1, fun i h1 h2 => ?_⟩, ⟨by rw [jnP_len]; exact h.ok.len, by omega, by rw [hlen]; omega, fun p hp => ?_⟩, fun i hi => (part i hi).2, fun r hr => ?_⟩
  · have hi : i < ps.length := by rw [jnP_len] at h1; exact h1
    rw [jnP_at hi (by have := hal.1; omega)]
    have := tkP_what ps[i] (os[i]'(by have := hal.1; omega))
    exact ⟨this.1.trans (h.al.2 i hi h2).1, this.2.trans (h.al.2 i hi h2).2⟩
  · obtain ⟨i, hi, rfl⟩ := List.getElem_of_mem hp
    rw [hlen]
    exact (part i hi).1
  · rcases List.mem_append.1 hr with hr | hr
    · exact h.gd r hr
    · exact k.gd r hr
theorem perm_sum {a b : List Int} (h : a.Perm b) : a.sum = b.sum := by
  induction h with
  | nil => rfl
  | cons x _ ih => simp [ih]
  | swap x y l => simp; omega
  | trans _ _ ih1 ih2 => rw [ih1, ih2]
theorem resP_c {p : Pt} {n : Int} (h : p.wh = wCount) : resP p n = ((1, n, ⟨#[]⟩), 0) := by rw [resP, if_pos h]
theorem resP_s {p : Pt} {n : Int} (h : p.wh = wSum) : resP p n = if -9223372036854775808 ≤ sv p.ws ∧ sv p.ws ≤ 9223372036854775807 then ((1, sv p.ws, ⟨#[]⟩), 0) else ((1, 0, ⟨#[]⟩), 9) := by
  rw [resP, if_neg (by rw [h]; decide), if_pos h]
theorem resP_b {p : Pt} {n : Int} (h : p.wh = wLeast ∨ p.wh = wMost) : resP p n = if p.best.1 = 0 then (noV, 5) else (p.best, 0) := by
  rw [resP, if_neg (by rcases h with h | h <;> rw [h] <;> decide), if_neg (by rcases h with h | h <;> rw [h] <;> decide)]
/-- What is told hangs on the rows alone, in whatever order. -/
theorem Acu.same {ps0 ps os : List Pt} {rs us : List (List V3)} (h : Acu ps0 rs ps) (k : Acu ps0 us os) (hp : rs.Perm us) (n : Int) : ps.map (fun p => resP p n) = os.map (fun p => resP p n) := by
  have hal : AlikeL ps os := h.al.trans k.al.symm
  apply List.ext_getElem
  · simp; exact hal.1
  · intro i h1 h2
    have hi1 : i < ps.length := by simpa using h1
    have hi2 : i < os.length := by simpa using h2
    rw [List.getElem_map, List.getElem_map]
    obtain ⟨a1, a2⟩ := hal.2 i hi1 hi2
    have hw : os[i].wh = ps[i].wh := by unfold Pt.wh; rw [a1]
    have hc : (colV i rs).Perm (colV i us) := hp.map _
    have kn1 := h.kn i hi1
    have kn2 := k.kn i hi2
    have hag := (h.ok.ok _ (List.getElem_mem hi1)).ok.ag
    have hcol := h.col hi1
    rcases isAg_or hag with hx | hx | hx | hx
    · rw [resP_c hx, resP_c (by rw [hw]; exact hx)]
    · rw [resP_s hx, resP_s (by rw [hw]; exact hx), kn1.sum hx, kn2.sum (by rw [hw]; exact hx), perm_sum (hc.map (·.2.1))]
    · have b2 := kn2.best (.inl (by rw [hw]; exact hx))
      rw [hw] at b2
      rw [resP_b (.inl hx), resP_b (.inl (by rw [hw]; exact hx)), (kn1.best (.inl hx)).unique (hcol (.inl hx)) (fun v => hc.mem_iff) b2]
    · have b2 := kn2.best (.inr (by rw [hw]; exact hx))
      rw [hw] at b2
      rw [resP_b (.inr hx), resP_b (.inr (by rw [hw]; exact hx)), (kn1.best (.inr hx)).unique (hcol (.inr hx)) (fun v => hc.mem_iff) b2]
end Go.Proofs.YtfonalmgdjboeaaDoor
namespace Go.Proofs.YtfonalmgdjboeaaDoor
open Go.RowKit
set_option linter.unusedVariables false

/-- An Acc that knows just these rows. -/
def AcAt (W : World) (a : Nat) (v : Value) (ps0 : List Pt) (rs : List (List V3)) : Prop := ∃ ps, AccAt W a v (rs.length : Int) ps ∧ Acu ps0 rs ps
theorem AcAt.on {W W' : World} {a : Nat} {v : Value} {ps0 : List Pt} {rs : List (List V3)} (h : AcAt W a v ps0 rs) (hb : Below W.heap.size W W') : AcAt W' a v ps0 rs := by
  obtain ⟨ps, h1, h2⟩ := h
  exact ⟨ps, h1.on hb, h2⟩
theorem AcAt.lt {W : World} {a : Nat} {v : Value} {ps0 : List Pt} {rs : List (List V3)} (h : AcAt W a v ps0 rs) : ∀ k, accS a v k → k < W.heap.size := by
  obtain ⟨ps, h1, h2⟩ := h
  exact h1.ownlt
theorem AcAt.keep {W W' : World} {a b : Nat} {v u : Value} {ps0 qs0 : List Pt} {rs us : List (List V3)} (h : AcAt W a v ps0 rs) (hb : AcAt W b u qs0 us) (hk : Kp (accS b u) W W') (hd : ∀ k, accS a v k → ¬ accS b u k) : AcAt W' a v ps0 rs := by
  obtain ⟨ps, h1, h2⟩ := h
  obtain ⟨qs, k1, k2⟩ := hb
  exact ⟨ps, h1.keep hk hd k1.nou, h2⟩
/-- The rows behind a row more. -/
def gdR (ps0 : List Pt) (rs : List (List V3)) (vs : List V3) : List (List V3) := if adE ps0 vs = 0 then rs ++ [vs] else rs
theorem add_c (a : Nat) (v : Value) (ps0 : List Pt) (rs : List (List V3)) (vq : Option Addr) (vc : Nat) (vs : List V3) (W : World) (h : AcAt W a v ps0 rs) (hl : rs.length + 1 ≤ 10000) (hv : ValsAt W vq vs) (hsz : SizedV vs) (hvl : vs.length ≤ maxLen) (hvd : vs.length = 0 ∨ ∀ b o, vq = some ⟨b, o, none⟩ → ¬ accS a v b) :
    Calls Tryd.prog 9 #[.pointer (some ⟨a, 0, none⟩), .slice vq vs.length vc] W fun e w' => e = .returned (errV (adE ps0 vs)) ∧ AcAt w' a v ps0 (gdR ps0 rs vs) ∧ Kp (accS a v) W w' := by
  obtain ⟨ps, h1, h2⟩ := h
  have := add_any a v (rs.length : Int) ps vq vc vs W h1 h2.ok (by omega) hv hsz hvl hvd (adE ps0 vs) (adE_alike h2.al vs)
  refine this.mono fun e w' hh => ⟨hh.1, ?_, hh.2.2.out⟩
  have hA := hh.2.1.out
  unfold gdR
  by_cases hE : adE ps0 vs = 0
  · rw [if_pos hE] at hA ⊢
    exact ⟨_, by simpa using hA, h2.add hE hsz hl⟩
  · rw [if_neg hE] at hA ⊢
    exact ⟨_, hA, h2⟩
theorem join_c (a : Nat) (v : Value) (b : Nat) (u : Value) (ps0 : List Pt) (rs us : List (List V3)) (W : World) (h : AcAt W a v ps0 rs) (k : AcAt W b u ps0 us) (hl : rs.length + us.length ≤ 10000) (hd : ∀ k, accS b u k → ¬ accS a v k) :
    Calls Tryd.prog 10 #[.pointer (some ⟨a, 0, none⟩), .pointer (some ⟨b, 0, none⟩)] W fun e w' => e = .returned .nilIface ∧ AcAt w' a v ps0 (rs ++ us) ∧ Kp (accS a v) W w' := by
  obtain ⟨ps, h1, h2⟩ := h
  obtain ⟨qs, k1, k2⟩ := k
  refine (join_any a v (rs.length : Int) ps b u (us.length : Int) qs W h1 h2.ok k1 k2.ok (h2.al.trans k2.al.symm) hd).mono fun e w' hh => ⟨hh.1, ⟨jnQ (us.length : Int) ps qs, ?_, ?_⟩, hh.2.2.out⟩
  · have hA := hh.2.1.out
    rw [show ((rs ++ us).length : Int) = (rs.length : Int) + (us.length : Int) by simp]
    exact hA
  · by_cases hu : (us.length : Int) = 0
    · have e0 : us = [] := List.length_eq_zero_iff.1 (by omega)
      subst e0
      rw [jnQ, if_pos hu, List.append_nil]
      exact h2
    · rw [jnQ, if_neg hu]
      exact h2.join k2 hl
/-- What is told of rows: an error, or values. -/
def tellE (ps : List Pt) (rs : List (List V3)) : Int := reE ps (rs.length : Int)
theorem result_c (a : Nat) (v : Value) (ps0 : List Pt) (rs : List (List V3)) (W : World) (h : AcAt W a v ps0 rs) : ∃ ps, Acu ps0 rs ps ∧
    ((reE ps (rs.length : Int) = 0 ∧ Calls Tryd.prog 12 #[.pointer (some ⟨a, 0, none⟩)] W fun e w' => (∃ q c, e = .returned (.tuple #[.slice q (reV ps (rs.length : Int)).length c, .nilIface]) ∧ ValsAt w' q (reV ps (rs.length : Int))) ∧ Below W.heap.size W w') ∨
     (reE ps (rs.length : Int) ≠ 0 ∧ Calls Tryd.prog 12 #[.pointer (some ⟨a, 0, none⟩)] W fun e w' => e = .returned (.tuple #[.slice none 0 0, .iface 53 (.int .i64 (reE ps (rs.length : Int)))]) ∧ Below W.heap.size W w')) := by
  obtain ⟨ps, h1, h2⟩ := h
  refine ⟨ps, h2, ?_⟩
  by_cases hE : reE ps (rs.length : Int) = 0
  · refine .inl ⟨hE, (result_ok a v _ ps W h1 h2.ok hE).mono fun e w' hh => ?_⟩
    obtain ⟨⟨q, c, e1, e2, _⟩, e3⟩ := hh
    exact ⟨⟨q, c, e1, e2.out⟩, e3.out⟩
  · exact .inr ⟨hE, (result_bad a v _ ps W h1 h2.ok _ rfl hE).mono fun e w' hh => ⟨hh.1, hh.2.out⟩⟩
theorem new_c (ap : Option Addr) (ac : Nat) (xs : List ByteArray) (tp : Option Addr) (tc : Nat) (ts : List Int) (W : World) (henv : AEnv W) (ha : AgsW W ap xs) (ht : IntW W tp ts) (hx : xs.length ≤ maxLen) (htl : ts.length ≤ maxLen) (hE : nwE xs ts = 0) :
    Calls Tryd.prog 6 #[.slice ap xs.length ac, .slice tp ts.length tc] W fun e w' => ∃ a v, e = .returned (.tuple #[.pointer (some ⟨a, 0, none⟩), .nilIface]) ∧ AcAt w' a v (nwP xs ts) [] ∧ (∀ k, accS a v k → W.heap.size ≤ k) ∧ Below W.heap.size W w' :=
  (new_ok ap ac xs tp tc ts W henv ha ht hx htl hE).mono fun e w' hh => by
    obtain ⟨v, e1, e2, e3, e4⟩ := hh
    exact ⟨_, v, e1, ⟨_, by simpa using e2.out, Acu.new hE⟩, e3.out, e4.out⟩
/-- Two that know the same rows tell the same. -/
theorem tell_same {ps0 ps os : List Pt} {rs us : List (List V3)} (h : Acu ps0 rs ps) (k : Acu ps0 us os) (hp : rs.Perm us) : reE ps (rs.length : Int) = reE os (us.length : Int) ∧ reV ps (rs.length : Int) = reV os (us.length : Int) := by
  have := h.same k hp (rs.length : Int)
  have hl : us.length = rs.length := hp.length_eq.symm
  rw [hl]
  refine ⟨?_, ?_⟩
  · unfold reE
    have := congrArg (List.map Prod.snd) this
    simpa [List.map_map, Function.comp_def] using congrArg fstE this
  · unfold reV
    have := congrArg (List.map Prod.fst) this
    simpa [List.map_map, Function.comp_def] using this
/-- Accs side by side, none of which lies in another one's blocks. -/
structure Accs (n : Nat) (w W : World) (ps0 : List Pt) (A : Nat → Nat) (V : Nat → Value) (R : Nat → List (List V3)) : Prop where
  below : Below w.heap.size w W
  at_ : ∀ j, j < n → AcAt W (A j) (V j) ps0 (R j)
  dj : ∀ i j, i < n → j < n → i ≠ j → ∀ k, accS (A i) (V i) k → ¬ accS (A j) (V j) k
  el : ∀ j, j < n → ∀ k, accS (A j) (V j) k → w.heap.size ≤ k
def updR (R : Nat → List (List V3)) (j : Nat) (rs : List (List V3)) (i : Nat) : List (List V3) := if i = j then rs else R i
theorem Accs.on {n : Nat} {w W W' : World} {ps0 : List Pt} {A : Nat → Nat} {V : Nat → Value} {R : Nat → List (List V3)} (h : Accs n w W ps0 A V R) (hb : Below W.heap.size W W') : Accs n w W' ps0 A V R :=
  ⟨h.below.trans (hb.mono h.below.size), fun j hj => (h.at_ j hj).on hb, h.dj, h.el⟩
theorem Accs.upd {n : Nat} {w W W' : World} {ps0 : List Pt} {A : Nat → Nat} {V : Nat → Value} {R : Nat → List (List V3)} (h : Accs n w W ps0 A V R) {j : Nat} (hj : j < n) {rs : List (List V3)} (ha : AcAt W' (A j) (V j) ps0 rs) (hk : Kp (accS (A j) (V j)) W W') : Accs n w W' ps0 A V (updR R j rs) := by
  refine ⟨h.below.trans (hk.below h.below.size (fun k hk' hs => by have := h.el j hj k hs; omega)), fun i hi => ?_, h.dj, h.el⟩
  unfold updR
  by_cases hij : i = j
  · subst hij; rw [if_pos rfl]; exact ha
  · rw [if_neg hij]
    exact (h.at_ i hi).keep (h.at_ j hj) hk (h.dj i j hi hj hij)
theorem accs_add {n : Nat} {w W : World} {ps0 : List Pt} {A : Nat → Nat} {V : Nat → Value} {R : Nat → List (List V3)} (h : Accs n w W ps0 A V R) (j : Nat) (hj : j < n) (vq : Option Addr) (vc : Nat) (vs : List V3) (hl : (R j).length + 1 ≤ 10000) (hv : ValsAt W vq vs) (hsz : SizedV vs) (hvl : vs.length ≤ maxLen) (hvd : vs.length = 0 ∨ ∀ b o, vq = some ⟨b, o, none⟩ → ¬ accS (A j) (V j) b) :
    Calls Tryd.prog 9 #[.pointer (some ⟨A j, 0, none⟩), .slice vq vs.length vc] W fun e w' => e = .returned (errV (adE ps0 vs)) ∧ Aside (Accs n w w' ps0 A V (updR R j (gdR ps0 (R j) vs))) :=
  (add_c (A j) (V j) ps0 (R j) vq vc vs W (h.at_ j hj) hl hv hsz hvl hvd).mono fun e w' hh => ⟨hh.1, h.upd hj hh.2.1 hh.2.2⟩
theorem accs_join {n : Nat} {w W : World} {ps0 : List Pt} {A : Nat → Nat} {V : Nat → Value} {R : Nat → List (List V3)} (h : Accs n w W ps0 A V R) (i j : Nat) (hi : i < n) (hj : j < n) (hij : i ≠ j) (hl : (R i).length + (R j).length ≤ 10000) :
    Calls Tryd.prog 10 #[.pointer (some ⟨A i, 0, none⟩), .pointer (some ⟨A j, 0, none⟩)] W fun e w' => e = .returned .nilIface ∧ Aside (Accs n w w' ps0 A V (updR R i (R i ++ R j))) :=
  (join_c (A i) (V i) (A j) (V j) ps0 (R i) (R j) W (h.at_ i hi) (h.at_ j hj) hl (h.dj j i hj hi (fun e => hij e.symm))).mono fun e w' hh => ⟨hh.1, h.upd hi hh.2.1 hh.2.2⟩
/-- Rows one behind the other, of values one behind the other. -/
def RowsAt (w : World) (p : Option Addr) (rws : List (List V3)) : Prop := rws.length = 0 ∨ ∃ b off, p = some ⟨b, off, none⟩ ∧ b < w.heap.size ∧ ∀ j (h : j < rws.length), ∃ q c, w.cell? ⟨b, off + j, none⟩ = some (.slice q rws[j].length c) ∧ ValsAt w q rws[j] ∧ (rws[j].length = 0 ∨ ∀ g o, q = some ⟨g, o, none⟩ → g < w.heap.size)
theorem Accs.rows {n : Nat} {w W : World} {ps0 : List Pt} {A : Nat → Nat} {V : Nat → Value} {R : Nat → List (List V3)} (h : Accs n w W ps0 A V R) {p : Option Addr} {rws : List (List V3)} (hr : RowsAt w p rws) {j : Nat} (hj : j < rws.length) : ∃ b off q c, p = some ⟨b, off, none⟩ ∧ W.cell? ⟨b, off + j, none⟩ = some (.slice q rws[j].length c) ∧ ∀ i, i < n → ValsAt W q rws[j] ∧ (rws[j].length = 0 ∨ ∀ g o, q = some ⟨g, o, none⟩ → ¬ accS (A i) (V i) g) := by
  rcases hr with h0 | ⟨b, off, e, hl, hr⟩
  · omega
  obtain ⟨q, c, h1, h2, h3⟩ := hr j hj
  refine ⟨b, off, q, c, e, by rw [h.below.cell (p := ⟨b, _, none⟩) hl]; exact h1, fun i hi => ⟨h2.on h.below, ?_⟩⟩
  rcases h3 with h3 | h3
  · exact .inl h3
  · refine .inr fun g o hq hs => ?_
    have := h.el i hi g hs
    have := h3 g o hq
    omega
set_option maxHeartbeats 4000000 in
/-- sluicesame.Vals of two lists that are the same. -/
theorem valsEq_c (q1 q2 : Option Addr) (c1 c2 : Nat) (vs : List V3) (w : World) (hn : vs.length ≤ 1000000) (h1 : ValsAt w q1 vs) (h2 : ValsAt w q2 vs) :
    Calls Tryd.prog 13 #[.slice q1 vs.length c1, .slice q2 vs.length c2] w fun e w' => e = .returned (.bool true) ∧ Aside (Below w.heap.size w w') := by
  have H1 : Aside (ValsAt w q1 vs) := h1
  have H2 : Aside (ValsAt w q2 vs) := h2
  obtain ⟨N, hN⟩ : ∃ N, vs.length = N := ⟨_, rfl⟩
  have HN : Hid (vs.length = N) := hN
  rw [hN] at hn ⊢
  have qn : ((N : Int) != (N : Int)) = false := by simp
  clear h1 h2 hN
  go_enter Tryd.func13, Tryd.ntmps13
  go_wp2
  go_loopg [5] N (fun gg s5 wr => ∃ kk : Nat, kk ≤ N ∧ N - kk ≤ gg ∧ s5 = .int .i64 kk ∧ Aside (Below w.heap.size w wr))
  case atStart => exact ⟨0, Nat.zero_le _, by omega, rfl, Below.refl _ w⟩
  case round =>
    obtain ⟨kk, hkk, hg, rfl, BW⟩ := hrel
    by_cases hlt : kk < N
    · have hltz : (kk : Int) < (N : Int) := by omega
      have k0 : (0 : Int) ≤ (kk : Int) := by omega
      have hki : kk < vs.length := by rw [HN.out]; exact hlt
      obtain ⟨b1, o1, rfl, l1, r1⟩ := (H1.out.on BW.out).resolve_left (by omega)
      obtain ⟨b2, o2, rfl, l2, r2⟩ := (H2.out.on BW.out).resolve_left (by omega)
      obtain ⟨c0, c1, c2⟩ := r1 kk hki
      obtain ⟨d0, d1, d2⟩ := r2 kk hki
      clear r1 r2
      generalize vs[kk] = y at c0 c1 c2 d0 d1 d2
      obtain ⟨yt, yn, ys⟩ := y
      simp only at c0 c1 c2 d0 d1 d2
      go_wp2
      go_quiet (fail)
      go_wp2
      go_roundg (N - (kk + 1))
      case measure => omega
      case rel => exact ⟨kk + 1, by omega, by omega, by go_num, by repeat (first | exact BW.out | apply below_drewN | refine Below.drew ?_)⟩
    · have hltz : ¬ (kk : Int) < (N : Int) := by omega
      go_wp2
      go_ret
      exact ⟨rfl, BW⟩
end Go.Proofs.YtfonalmgdjboeaaDoor
namespace Go.Proofs.YtfonalmgdjboeaaDoor
open Go.ChangeShapes Go.WideShapes Go.ChangeAt Go.RowKit Go.Deep
set_option linter.unusedVariables false

namespace agOp
theorem cellsI : Tryd.prog.cellsOf 3 = 1 := by kernel_rfl
theorem cellsS : Tryd.prog.cellsOf 9 = 1 := by kernel_rfl
theorem cellsV : Tryd.prog.cellsOf 26 = 3 := by kernel_rfl
theorem cellsE : Tryd.prog.cellsOf 29 = 7 := by kernel_rfl
theorem cellsG : Tryd.prog.cellsOf 31 = 9 := by kernel_rfl
theorem cellsSV : Tryd.prog.cellsOf 38 = 1 := by kernel_rfl
theorem cellsSE : Tryd.prog.cellsOf 27 = 1 := by kernel_rfl
theorem int_in {x : Int} (h : (Lit.int .i64 x).wf = true) : inB x := by
  simpa [inB, Lit.wf, IntKind.min, IntKind.max, IntKind.signed, IntKind.bits] using h
theorem lt_of_cell {w : World} {b o : Nat} {v : Value} (h : w.cell? ⟨b, o, none⟩ = some v) : b < w.heap.size := by
  rcases Nat.lt_or_ge b w.heap.size with h' | h'
  · exact h'
  · simp [World.cell?, Array.getElem?_eq_none h'] at h
set_option maxRecDepth 100000 in
/-- Numbers. -/
theorem ints {H : Type} {enc : TypeId × Value → H} {W : World} {fuel : Nat} {cs : List Value} {x : DataW H × List MemPlace} (hf : DataW.trod enc Tryd.prog W 0 (fun _ => true) true fuel 23 cs = some x) :
    ∃ q ts c, cs = [.slice q ts.length c] ∧ ts.length ≤ maxLen ∧ IntW W q ts ∧ ∀ t ∈ ts, inB t := by
  rcases open_slice Tryd.underlying23 hf with ⟨rfl, hx⟩ | ⟨a, len, cap, m, n, D, Pl, rfl, _, hl, hm, hmeq, hx, hall⟩
  · exact ⟨none, [], 0, rfl, Nat.zero_le _, .inl rfl, fun t ht => by cases ht⟩
  · simp only [if_true] at hmeq
    subst hmeq
    have each : ∀ i, i < len → ∃ t : Int, W.cell? (a.add (i * 1)) = some (.int .i64 t) ∧ inB t := by
      intro i hi
      obtain ⟨cs', h1, h2⟩ := hall i (by omega)
      rw [cellsI] at h1
      obtain ⟨_, hlen, hcell⟩ := World.cells?_some h1
      match cs', hlen with
      | [v0], _ =>
        obtain ⟨x0, e0, _, w0⟩ := DataW.trod_int Tryd.underlying3 h2
        simp at e0
        subst e0
        have g0 := hcell 0 (by omega)
        rw [add_add] at g0
        exact ⟨x0, by simpa using g0, int_in w0⟩
    obtain ⟨f, hF⟩ := choose_lt (α := Int) each
    have hlen : ((List.range len).map f).length = len := by simp
    refine ⟨some a, (List.range len).map f, _, by rw [hlen], by omega, ?_, fun t ht => ?_⟩
    · by_cases h0 : len = 0
      · exact .inl (by omega)
      · obtain ⟨sb, so, spot⟩ := a
        have hspot : spot = none := by simpa [Addr.add] using World.cell?_spot (hF 0 (by omega)).1
        subst hspot
        refine .inr ⟨sb, so, rfl, ?_, fun j hj => ?_⟩
        · have := (hF 0 (by omega)).1
          exact lt_of_cell (o := so + 0 * 1) (by simpa [add_plain] using this)
        · have := (hF j (by simpa using hj)).1
          simp only [List.getElem_map, List.getElem_range]
          simpa [add_plain] using this
    · obtain ⟨i, hi, rfl⟩ := List.mem_map.1 ht
      exact (hF i (List.mem_range.1 hi)).2
set_option maxRecDepth 100000 in
/-- Values. -/
theorem vals {H : Type} {enc : TypeId × Value → H} {W : World} {fuel : Nat} {cs : List Value} {x : DataW H × List MemPlace} (hf : DataW.trod enc Tryd.prog W 0 (fun _ => true) true fuel 38 cs = some x) :
    ∃ q vs c, cs = [.slice q vs.length c] ∧ vs.length ≤ maxLen ∧ ValsAt W q vs ∧ SizedV vs ∧ (vs.length = 0 ∨ ∀ g o, q = some ⟨g, o, none⟩ → g < W.heap.size) := by
  rcases open_slice Tryd.underlying38 hf with ⟨rfl, hx⟩ | ⟨a, len, cap, m, n, D, Pl, rfl, _, hl, hm, hmeq, hx, hall⟩
  · exact ⟨none, [], 0, rfl, Nat.zero_le _, .inl rfl, fun r hr => by simp at hr, .inl rfl⟩
  · simp only [if_true] at hmeq
    subst hmeq
    have each : ∀ i, i < len → ∃ r : Int × Int × ByteArray, W.cell? (a.add (i * 3)) = some (.int .i64 r.1) ∧ W.cell? (a.add (i * 3 + 1)) = some (.int .i64 r.2.1) ∧ W.cell? (a.add (i * 3 + 2)) = some (.string r.2.2) ∧ r.2.2.size ≤ maxLen ∧ inB r.2.1 := by
      intro i hi
      obtain ⟨cs', h1, h2⟩ := hall i (by omega)
      rw [cellsV] at h1
      obtain ⟨_, hlen, hcell⟩ := World.cells?_some h1
      obtain ⟨y0, y1, y2, k, _, _, t0, t1, t2⟩ := trod_struct3 Tryd.underlying26 h2
      match cs', hlen with
      | [v0, v1, v2], _ =>
        simp [cellsI, cellsS] at t0 t1 t2
        obtain ⟨x0, e0, _, _⟩ := DataW.trod_int Tryd.underlying3 t0
        obtain ⟨x1, e1, _, w1⟩ := DataW.trod_int Tryd.underlying3 t1
        obtain ⟨x2, e2, _, hs⟩ := DataW.trod_string Tryd.underlying9 t2
        simp at e0 e1 e2
        subst e0 e1 e2
        have g0 := hcell 0 (by omega)
        have g1 := hcell 1 (by omega)
        have g2 := hcell 2 (by omega)
        rw [add_add] at g0 g1 g2
        exact ⟨(x0, x1, x2), by simpa using g0, by simpa using g1, by simpa using g2, hs, int_in w1⟩
    obtain ⟨f, hF⟩ := choose_lt (α := Int × Int × ByteArray) each
    have hlen : ((List.range len).map f).length = len := by simp
    have hsz : SizedV ((List.range len).map f) := fun r hr => by
      obtain ⟨i, hi, rfl⟩ := List.mem_map.1 hr
      obtain ⟨_, _, _, h4, h5⟩ := hF i (List.mem_range.1 hi)
      exact ⟨h4, h5⟩
    by_cases h0 : len = 0
    · exact ⟨some a, (List.range len).map f, _, by rw [hlen], by omega, .inl (by omega), hsz, .inl (by omega)⟩
    · obtain ⟨sb, so, spot⟩ := a
      have hspot : spot = none := by simpa [Addr.add] using World.cell?_spot (hF 0 (by omega)).1
      subst hspot
      have hlt : sb < W.heap.size := by
        have := (hF 0 (by omega)).1
        exact lt_of_cell (o := so + 0 * 3) (by simpa [add_plain] using this)
      refine ⟨_, (List.range len).map f, _, by rw [hlen], by omega, .inr ⟨sb, so, rfl, hlt, fun j hj => ?_⟩, hsz, .inr fun g o e => ?_⟩
      · obtain ⟨c0, c1, c2, _, _⟩ := hF j (by omega)
        simp only [List.getElem_map, List.getElem_range]
        rw [add_plain] at c0 c1 c2
        exact ⟨c0, by rw [Nat.add_assoc]; exact c1, by rw [Nat.add_assoc]; exact c2⟩
      · injection e with e
        injection e with e
        omega
instance : Inhabited (List V3) := ⟨[]⟩
set_option maxRecDepth 100000 in
/-- Rows of values. -/
theorem rows {H : Type} {enc : TypeId × Value → H} {W : World} {fuel : Nat} {cs : List Value} {x : DataW H × List MemPlace} (hf : DataW.trod enc Tryd.prog W 0 (fun _ => true) true fuel 24 cs = some x) :
    ∃ q rws c, cs = [.slice q rws.length c] ∧ rws.length ≤ maxLen ∧ RowsAt W q rws ∧ ∀ r ∈ rws, SizedV r ∧ r.length ≤ maxLen := by
  rcases open_slice Tryd.underlying24 hf with ⟨rfl, hx⟩ | ⟨a, len, cap, m, n, D, Pl, rfl, _, hl, hm, hmeq, hx, hall⟩
  · exact ⟨none, [], 0, rfl, Nat.zero_le _, .inl rfl, fun t ht => by cases ht⟩
  · simp only [if_true] at hmeq
    subst hmeq
    have each : ∀ i, i < len → ∃ r : List V3, (∃ q c, W.cell? (a.add (i * 1)) = some (.slice q r.length c) ∧ ValsAt W q r ∧ (r.length = 0 ∨ ∀ g o, q = some ⟨g, o, none⟩ → g < W.heap.size)) ∧ SizedV r ∧ r.length ≤ maxLen := by
      intro i hi
      obtain ⟨cs', h1, h2⟩ := hall i (by omega)
      rw [cellsSV] at h1
      obtain ⟨_, hlen, hcell⟩ := World.cells?_some h1
      obtain ⟨q, vs, c, rfl, k1, k2, k3, k4⟩ := vals h2
      have g0 := hcell 0 (by omega)
      rw [add_add] at g0
      exact ⟨vs, ⟨q, c, by simpa using g0, k2, k4⟩, k3, k1⟩
    obtain ⟨f, hF⟩ := choose_lt (α := List V3) each
    have hlen : ((List.range len).map f).length = len := by simp
    refine ⟨some a, (List.range len).map f, _, by rw [hlen], by omega, ?_, fun t ht => ?_⟩
    · by_cases h0 : len = 0
      · exact .inl (by omega)
      · obtain ⟨sb, so, spot⟩ := a
        obtain ⟨⟨_, _, z0, _⟩, _⟩ := hF 0 (by omega)
        have hspot : spot = none := by simpa [Addr.add] using World.cell?_spot z0
        subst hspot
        refine .inr ⟨sb, so, rfl, ?_, fun j hj => ?_⟩
        · exact lt_of_cell (o := so + 0 * 1) (by simpa [add_plain] using z0)
        · obtain ⟨⟨q, c, z1, z2, z3⟩, _⟩ := hF j (by simpa using hj)
          refine ⟨q, c, ?_, ?_, ?_⟩
          · simp only [List.getElem_map, List.getElem_range]
            simpa [add_plain] using z1
          · simp only [List.getElem_map, List.getElem_range]
            exact z2
          · simp only [List.getElem_map, List.getElem_range]
            exact z3
    · obtain ⟨i, hi, rfl⟩ := List.mem_map.1 ht
      exact (hF i (List.mem_range.1 hi)).2
set_option maxRecDepth 100000 in
/-- An expression's cells: of which kind each is. -/
theorem expr {H : Type} {enc : TypeId × Value → H} {W : World} {fuel : Nat} {cs : List Value} {x : DataW H × List MemPlace} (h : DataW.trod enc Tryd.prog W 0 (fun _ => true) true fuel 29 cs = some x) :
    ∃ (op nm : ByteArray) (vt vn : Int) (vs : ByteArray) (ap : Option Addr) (an ac : Nat) (pos : Int), cs = [.string op, .string nm, .int .i64 vt, .int .i64 vn, .string vs, .slice ap an ac, .int .i64 pos] := by
  obtain ⟨xs, n, hfu, hx, hl, hlen, hf⟩ := DataW.trod_struct Tryd.underlying29 h
  rw [cellsE] at hl
  match cs, hl, xs, hlen with
  | [c0, c1, c2, c3, c4, c5, c6], _, [y0, y1, y2, y3, y4], _ =>
    have t0 := hf 0 _ rfl
    have t1 := hf 1 _ rfl
    have t2 := hf 2 _ rfl
    have t3 := hf 3 _ rfl
    have t4 := hf 4 _ rfl
    simp [cellsS, cellsI, cellsV, cellsSE] at t0 t1 t2 t3 t4
    obtain ⟨s0, e0, _, _⟩ := DataW.trod_string Tryd.underlying9 t0
    obtain ⟨s1, e1, _, _⟩ := DataW.trod_string Tryd.underlying9 t1
    obtain ⟨k4, e4, _, _⟩ := DataW.trod_int Tryd.underlying3 t4
    obtain ⟨z0, z1, z2, k, _, _, u0, u1, u2⟩ := trod_struct3 Tryd.underlying26 t2
    simp [cellsI, cellsS] at u0 u1 u2
    obtain ⟨x0, f0, _, _⟩ := DataW.trod_int Tryd.underlying3 u0
    obtain ⟨x1, f1, _, _⟩ := DataW.trod_int Tryd.underlying3 u1
    obtain ⟨x2, f2, _, _⟩ := DataW.trod_string Tryd.underlying9 u2
    simp at e0 e1 e4 f0 f1 f2
    subst e0 e1 e4 f0 f1 f2
    rcases open_slice Tryd.underlying27 t3 with ⟨h5, _⟩ | ⟨a, len, cap, m, n, D, Pl, h5, _⟩
    · simp at h5
      subst h5
      exact ⟨_, _, _, _, _, _, _, _, _, rfl⟩
    · simp at h5
      subst h5
      exact ⟨_, _, _, _, _, _, _, _, _, rfl⟩
instance : Inhabited ByteArray := ⟨⟨#[]⟩⟩
set_option maxRecDepth 100000 in
/-- Aggregates. -/
theorem aggs {H : Type} {enc : TypeId × Value → H} {W : World} {fuel : Nat} {cs : List Value} {x : DataW H × List MemPlace} (hf : DataW.trod enc Tryd.prog W 0 (fun _ => true) true fuel 22 cs = some x) :
    ∃ q xs c, cs = [.slice q xs.length c] ∧ xs.length ≤ maxLen ∧ AgsW W q xs ∧ ∀ b ∈ xs, b.size ≤ maxLen := by
  rcases open_slice Tryd.underlying22 hf with ⟨rfl, hx⟩ | ⟨a, len, cap, m, n, D, Pl, rfl, _, hl, hm, hmeq, hx, hall⟩
  · exact ⟨none, [], 0, rfl, Nat.zero_le _, .inl rfl, fun t ht => by cases ht⟩
  · simp only [if_true] at hmeq
    subst hmeq
    have each : ∀ i, i < len → ∃ w : ByteArray, (∃ (op nm : ByteArray) (vt vn : Int) (vs : ByteArray) (ap : Option Addr) (an ac : Nat) (pos : Int) (name : ByteArray), W.cells? 0 (a.add (i * 9)) 9 = some [.string w, .string op, .string nm, .int .i64 vt, .int .i64 vn, .string vs, .slice ap an ac, .int .i64 pos, .string name]) ∧ w.size ≤ maxLen := by
      intro i hi
      obtain ⟨cs', h1, h2⟩ := hall i (by omega)
      rw [cellsG] at h1
      obtain ⟨y0, y1, y2, k, _, hl9, t0, t1, t2⟩ := trod_struct3 Tryd.underlying31 h2
      rw [cellsG] at hl9
      match cs', hl9 with
      | [c0, c1, c2, c3, c4, c5, c6, c7, c8], _ =>
        simp [cellsS, cellsE] at t0 t1 t2
        obtain ⟨s0, e0, _, z0⟩ := DataW.trod_string Tryd.underlying9 t0
        obtain ⟨s2, e2, _, _⟩ := DataW.trod_string Tryd.underlying9 t2
        obtain ⟨op, nm, vt, vn, vs, ap, an, ac, pos, e1⟩ := expr t1
        simp at e0 e1 e2
        obtain ⟨rfl, rfl, rfl, rfl, rfl, rfl, rfl⟩ := e1
        subst e0 e2
        exact ⟨s0, ⟨op, nm, vt, vn, vs, ap, an, ac, pos, s2, h1⟩, z0⟩
    obtain ⟨f, hF⟩ := choose_lt (α := ByteArray) each
    have hlen : ((List.range len).map f).length = len := by simp
    refine ⟨some a, (List.range len).map f, _, by rw [hlen], by omega, ?_, fun t ht => ?_⟩
    · by_cases h0 : len = 0
      · exact .inl (by omega)
      · obtain ⟨sb, so, spot⟩ := a
        obtain ⟨⟨_, _, _, _, _, _, _, _, _, _, hc0⟩, _⟩ := hF 0 (by omega)
        have he := (World.cells?_some hc0).2.2 0 (by simp)
        simp only [List.getElem?_cons_zero] at he
        have hspot : spot = none := by simpa [Addr.add] using World.cell?_spot he
        subst hspot
        refine .inr ⟨sb, so, rfl, lt_of_cell (o := so) (by simpa [Addr.add] using he), fun j hj => ?_⟩
        obtain ⟨⟨op, nm, vt, vn, vs, ap, an, ac, pos, name, hcj⟩, _⟩ := hF j (by simpa using hj)
        refine ⟨op, nm, vt, vn, vs, ap, an, ac, pos, name, fun k v hv => ?_⟩
        simp only [List.getElem_map, List.getElem_range] at hv
        have hk : k < 9 := by have := (List.getElem?_eq_some_iff.1 hv).1; simpa using this
        have := (World.cells?_some hcj).2.2 k hk
        rw [hv] at this
        simpa [add_plain, Nat.add_assoc] using this
    · obtain ⟨i, hi, rfl⟩ := List.mem_map.1 ht
      exact (hF i (List.mem_range.1 hi)).2
end agOp
end Go.Proofs.YtfonalmgdjboeaaDoor
