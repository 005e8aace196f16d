/-
  A region that draws its order, by what each of its operations yields: an order is not walked; each operation is shown once, in any world that has grown.
-/
import Derived.RegionTactic
namespace Go.Proofs.YticdcnbeemkapaaGreatDoor
open Go
set_option linter.unusedVariables false

section
variable {P : Program} {ops : Array Oper} {Q : Exit → Act → World → Prop} {md : Region.Mode}
theorem countP_lt {p q : Nat → Bool} : ∀ (l : List Nat), (∀ j ∈ l, q j = true → p j = true) → (∃ i ∈ l, p i = true ∧ q i = false) → l.countP q < l.countP p
  | [], _, h => by obtain ⟨_, h, _⟩ := h; cases h
  | x :: l, h1, h2 => by
    have hle : l.countP q ≤ l.countP p := List.countP_mono_left (fun j hj h => h1 j (List.mem_cons_of_mem _ hj) h)
    rw [List.countP_cons, List.countP_cons]
    obtain ⟨i, hi, hp, hq⟩ := h2
    rcases List.mem_cons.1 hi with rfl | hi
    · rw [if_pos hp, if_neg (by rw [hq]; decide)]; omega
    · have hlt := countP_lt l (fun j hj h => h1 j (List.mem_cons_of_mem _ hj) h) ⟨i, hi, hp, hq⟩
      by_cases hx : q x = true
      · rw [if_pos hx, if_pos (h1 x (List.mem_cons_self ..) hx)]; omega
      · rw [if_neg hx]; split <;> omega
/-- How many operations are not listed. -/
def left (n : Nat) (listed : Array Bool) : Nat := (List.range n).countP fun i => !listed.getD i true
theorem left_lt {n i : Nat} {listed : Array Bool} (hi : i < n) (h : listed.getD i true = false) : left n (listed.setIfInBounds i true) < left n listed := by
  have hsz : i < listed.size := by
    rcases Nat.lt_or_ge i listed.size with h' | h'
    · exact h'
    · simp [Array.getElem?_eq_none h'] at h
  refine countP_lt _ (fun j _ hj => ?_) ⟨i, List.mem_range.2 hi, by rw [h]; rfl, by simp [hsz]⟩
  by_cases hij : i = j
  · subst hij; rw [h]; rfl
  · rwa [getD_set_ne true hij] at hj
/-- An invariant of what is listed serves every order. -/
theorem wpAny_inv (J : Array Bool → Act → World → Prop)
    (hstep : ∀ listed a w, listed.size = ops.size → J listed a w → ∀ i ∈ Region.ready md ops listed, wpOp P ops Q i (J (listed.setIfInBounds i true)) a w)
    (hdone : ∀ listed a w, listed.size = ops.size → J listed a w → Region.ready md ops listed = [] → Q .normal a w) :
    ∀ (fuel : Nat) (listed : Array Bool) (a : Act) (w : World), listed.size = ops.size → left ops.size listed ≤ fuel → J listed a w → wpAny P md ops Q fuel listed a w
  | 0, listed, a, w, hs, hl, hJ => by
    have hr : Region.ready md ops listed = [] := by
      cases h : Region.ready md ops listed with
      | nil => rfl
      | cons x xs =>
        have hx : x ∈ Region.ready md ops listed := by rw [h]; exact List.mem_cons_self ..
        obtain ⟨h0, o, ho, _⟩ := mem_ready.1 hx
        have hlt : x < ops.size := (Array.getElem?_eq_some_iff.1 ho).1
        have := left_lt hlt h0
        omega
    exact ⟨hr, hdone _ _ _ hs hJ hr⟩
  | fuel + 1, listed, a, w, hs, hl, hJ => by
    refine ⟨hdone _ _ _ hs hJ, fun i hi => ?_⟩
    obtain ⟨h0, o, ho, _⟩ := mem_ready.1 hi
    have hlt : i < ops.size := (Array.getElem?_eq_some_iff.1 ho).1
    have := left_lt hlt h0
    exact wpOp_mono (fun a' w' h => wpAny_inv J hstep hdone fuel _ a' w' (by simpa using hs) (by omega) h) (hstep listed a w hs hJ i hi)
/-- What operations yielded, laid one behind the other. -/
def putL (vs : Nat → Value) : List Oper → Nat → Act → Act
  | [], _, a => a
  | o :: l, k, a => putL vs l (k + 1) (a.put o.dst (vs k))
theorem put_size (a : Act) (d : Option Tmp) (v : Value) : (a.put d v).tmps.size = a.tmps.size := by
  cases d <;> simp [Act.put]
theorem put_defers (a : Act) (d : Option Tmp) (v : Value) : (a.put d v).defers = a.defers := by
  cases d <;> simp [Act.put]
theorem put_ne (a : Act) {d : Option Tmp} {e : Tmp} (v : Value) (h : d ≠ some e) : (a.put d v).tmps.getD e undef = a.tmps.getD e undef := by
  cases d with
  | none => rfl
  | some d =>
    have : d ≠ e := fun hh => h (by rw [hh])
    simp [Act.put, Array.getElem?_setIfInBounds_ne this]
theorem put_eq (a : Act) {e : Tmp} (v : Value) (h : e < a.tmps.size) : (a.put (some e) v).tmps.getD e undef = v := by
  simp [Act.put, h]
theorem putL_size (vs : Nat → Value) : ∀ (l : List Oper) (k : Nat) (a : Act), (putL vs l k a).tmps.size = a.tmps.size
  | [], _, _ => rfl
  | o :: l, k, a => by rw [putL, putL_size vs l, put_size]
theorem putL_defers (vs : Nat → Value) : ∀ (l : List Oper) (k : Nat) (a : Act), (putL vs l k a).defers = a.defers
  | [], _, _ => rfl
  | o :: l, k, a => by rw [putL, putL_defers vs l, put_defers]
theorem putL_ne (vs : Nat → Value) {e : Tmp} : ∀ (l : List Oper) (k : Nat) (a : Act), (∀ o ∈ l, o.dst ≠ some e) → (putL vs l k a).tmps.getD e undef = a.tmps.getD e undef
  | [], _, _, _ => rfl
  | o :: l, k, a, h => by rw [putL, putL_ne vs l _ _ (fun o ho => h o (List.mem_cons_of_mem _ ho)), put_ne _ _ (h o (List.mem_cons_self ..))]
theorem putL_at (vs : Nat → Value) {e : Tmp} : ∀ (l : List Oper) (k : Nat) (a : Act) (j : Nat) (o : Oper), l[j]? = some o → o.dst = some e → (∀ j' o', l[j']? = some o' → o'.dst = some e → j' = j) → e < a.tmps.size → (putL vs l k a).tmps.getD e undef = vs (k + j)
  | [], _, _, _, _, h, _, _, _ => by cases h
  | o :: l, k, a, 0, o', h, hd, hu, hl => by
    injection h with h
    subst h
    rw [putL, putL_ne vs l _ _ (fun o' ho' hd' => ?_), hd, put_eq _ _ hl]
    · rfl
    · obtain ⟨j', hj', rfl⟩ := List.getElem_of_mem ho'
      exact absurd (hu (j' + 1) l[j'] (by simp [hj']) hd') (by omega)
  | o :: l, k, a, j + 1, o', h, hd, hu, hl => by
    rw [putL, putL_at vs l (k + 1) _ j o' (by simpa using h) hd (fun j' o'' h1 h2 => by have := hu (j' + 1) o'' (by simpa using h1) h2; omega) (by rw [put_size]; exact hl)]
    congr 1
    omega
/-- What is known when some operations are listed. -/
structure RgJ (ops : Array Oper) (Le : World → World → Prop) (R : Nat → Value → World → Prop) (S : Nat → (Tmp → Value) → World → Prop) (a0 : Act) (w0 : World) (listed : Array Bool) (a : Act) (w : World) : Prop where
  le : Le w0 w
  sz : a.tmps.size = a0.tmps.size
  df : a.defers = a0.defers
  done : ∀ i o d, listed.getD i false = true → ops[i]? = some o → o.dst = some d → R i (a.tmps.getD d undef) w
  old : ∀ d, (∀ o ∈ ops.toList, o.dst ≠ some d) → a.tmps.getD d undef = a0.tmps.getD d undef
  eff : ∀ (i : Nat) (o : Oper), listed.getD i false = true → ops[i]? = some o → o.dst = none → S i (fun d => a.tmps.getD d undef) w
  deps : ∀ (i : Nat) (o : Oper), listed.getD i false = true → ops[i]? = some o → ∀ e ∈ o.after, Region.binds .any e = true → listed.getD e.on false = true
/-- A region whose operations have no guards, by what each yields. -/
theorem wp_region_inv {id : Nat} {a0 : Act} {w : World} (hm : P.follows .mixedOrders = true) (Le : World → World → Prop) (hrefl : ∀ w, Le w w) (htrans : ∀ a b c, Le a b → Le b c → Le a c)
    (R : Nat → Value → World → Prop) (hR : ∀ i v w1 w2, Le w1 w2 → R i v w1 → R i v w2) (S : Nat → (Tmp → Value) → World → Prop) (hS : ∀ i f w1 w2, Le w1 w2 → S i f w1 → S i f w2)
    (hSf : ∀ (i : Nat) (o : Oper) f f' w, ops[i]? = some o → (∀ e ∈ o.after, Region.binds .any e = true → ∀ (oj : Oper) (d : Tmp), ops[e.on]? = some oj → oj.dst = some d → f d = f' d) → S i f w → S i f' w)
    (hg : ∀ o ∈ ops.toList, o.guard = none)
    (hu : ∀ (i j : Nat) (oi oj : Oper) (d : Tmp), ops[i]? = some oi → ops[j]? = some oj → oi.dst = some d → oj.dst = some d → i = j)
    (hlt : ∀ o ∈ ops.toList, ∀ d, o.dst = some d → d < a0.tmps.size)
    (hac : ∀ (i : Nat) (o : Oper), ops[i]? = some o → ∀ e ∈ o.after, Region.binds .any e = true → e.on < i)
    (hstep : ∀ (i : Nat) (o : Oper), ops[i]? = some o → ∀ a w', Le { w with drawn := w.drawn + 1 } w' →
      (∀ e ∈ o.after, Region.binds .any e = true → ∀ (oj : Oper) (d : Tmp), ops[e.on]? = some oj → oj.dst = some d → R e.on (a.tmps.getD d undef) w') →
      (∀ d, (∀ oj ∈ ops.toList, oj.dst ≠ some d) → a.tmps.getD d undef = a0.tmps.getD d undef) →
      ∀ K : Act → World → Prop, (∀ v w'', (∀ d, o.dst = some d → R i v w'') → (o.dst = none → S i (fun d => a.tmps.getD d undef) w'') → Le w' w'' → K (a.put o.dst v) w'') → Oper.wp P o a w' K Q)
    (hdone : ∀ (vs : Nat → Value) w', Le { w with drawn := w.drawn + 1 } w' → (∀ (i : Nat) (o : Oper) (d : Tmp), ops[i]? = some o → o.dst = some d → R i (vs i) w') → (∀ (i : Nat) (o : Oper), ops[i]? = some o → o.dst = none → S i (fun d => (putL vs ops.toList 0 a0).tmps.getD d undef) w') → Q .normal (putL vs ops.toList 0 a0) w') :
    (Code.region id ops true).wp P Q a0 w := by
  refine wp_region_any hm ?_
  refine wpAny_inv (RgJ ops Le R S a0 { w with drawn := w.drawn + 1 }) ?_ ?_ ops.size _ a0 _ (by simp) ?_ ?_
  · intro listed a w' hs hJ i hi
    obtain ⟨h0, o, ho, hall⟩ := mem_ready.1 hi
    have hio : i < ops.size := (Array.getElem?_eq_some_iff.1 ho).1
    have hmem : o ∈ ops.toList := by
      have := Array.mem_of_getElem? ho
      simpa using this
    refine wpOp_step ho fun K' hK => ?_
    rw [if_pos (by simp [Region.wanted, hg o hmem])]
    refine hstep i o ho a w' hJ.le (fun e he hb oj d hoj hd => hJ.done _ _ _ (hall e he hb) hoj hd) hJ.old K' (fun v w'' hv hs2 hle => hK _ _ ?_)
    refine ⟨htrans _ _ _ hJ.le hle, by rw [put_size]; exact hJ.sz, by rw [put_defers]; exact hJ.df, fun j oj d hj hoj hd => ?_, fun d hd => ?_, fun j oj hj hoj hd => ?_, fun j oj hj hoj e he hb => ?_⟩
    · by_cases hji : i = j
      · subst hji
        obtain rfl : o = oj := Option.some.inj (ho.symm.trans hoj)
        rw [hd, put_eq _ _ (by rw [hJ.sz]; exact hlt o hmem d hd)]
        exact hv d hd
      · rw [getD_set_ne false hji] at hj
        rw [put_ne _ _ (fun h => hji (hu i j o oj d ho hoj h hd))]
        exact hR _ _ _ _ hle (hJ.done j oj d hj hoj hd)
    · rw [put_ne _ _ (hd o hmem)]
      exact hJ.old d hd
    · by_cases hji : i = j
      · subst hji
        obtain rfl : o = oj := Option.some.inj (ho.symm.trans hoj)
        rw [hd]
        exact hs2 hd
      · rw [getD_set_ne false hji] at hj
        refine hSf j oj _ _ _ hoj (fun e he hb ok d hok hdk => ?_) (hS _ _ _ _ hle (hJ.eff j oj hj hoj hd))
        have hle2 := hJ.deps j oj hj hoj e he hb
        have hne : i ≠ e.on := fun h => by
          subst h
          have hsz : e.on < listed.size := by
            rcases Nat.lt_or_ge e.on listed.size with h' | h'
            · exact h'
            · simp [Array.getElem?_eq_none h'] at h0
          simp [hsz] at h0 hle2
          rw [h0] at hle2
          cases hle2
        exact (put_ne _ _ (fun h => hne (hu i e.on o ok d ho hok h hdk))).symm
    · by_cases hji : i = j
      · subst hji
        obtain rfl : o = oj := Option.some.inj (ho.symm.trans hoj)
        exact getD_set_true (hall e he hb)
      · rw [getD_set_ne false hji] at hj
        exact getD_set_true (hJ.deps j oj hj hoj e he hb)
  · intro listed a w' hs hJ hr
    have hall : ∀ i, i < ops.size → listed.getD i false = true := by
      intro i
      induction i using Nat.strongRecOn with
      | ind i ih =>
        intro hi
        by_cases hl : listed.getD i false = true
        · exact hl
        · have hl2 : listed.getD i true = false := by
            have hi2 : i < listed.size := by omega
            simp [hi2] at hl ⊢
            exact hl
          have hin : i ∈ Region.ready .any ops listed := mem_ready.2 ⟨hl2, ops[i], by simp [hi], fun e he hb => ih e.on (hac i ops[i] (by simp [hi]) e he hb) (by have := hac i ops[i] (by simp [hi]) e he hb; omega)⟩
          rw [hr] at hin
          cases hin
    have hat : ∀ (t : Array Value) (d : Nat) (h : d < t.size), t.getD d undef = t[d] := fun t d h => by simp [h]
    obtain ⟨vs, hvs⟩ : ∃ vs : Nat → Value, ∀ i o d, ops[i]? = some o → o.dst = some d → vs i = a.tmps.getD d undef := ⟨fun i => a.tmps.getD (((ops[i]?).bind (·.dst)).getD 0) undef, fun i o d ho hd => by simp [ho, hd]⟩
    have hpt : ∀ d, d < a0.tmps.size → (putL vs ops.toList 0 a0).tmps.getD d undef = a.tmps.getD d undef := fun d hd => by
      by_cases hex : ∃ (i : Nat) (o : Oper), ops[i]? = some o ∧ o.dst = some d
      · obtain ⟨i, o, ho, hod⟩ := hex
        rw [putL_at vs ops.toList 0 a0 i o (by simpa using ho) hod (fun j' o' h1 h2 => hu j' i o' o d (by simpa using h1) ho h2 hod) hd, Nat.zero_add]
        exact hvs i o d ho hod
      · have hno : ∀ o ∈ ops.toList, o.dst ≠ some d := fun o ho h => by
          obtain ⟨i, hi, rfl⟩ := List.getElem_of_mem ho
          exact hex ⟨i, _, by simp at hi; simp [hi], h⟩
        rw [putL_ne vs ops.toList 0 a0 hno]
        exact (hJ.old d hno).symm
    have heq : a = putL vs ops.toList 0 a0 := by
      have h1 : a.tmps = (putL vs ops.toList 0 a0).tmps := by
        refine Array.ext (by rw [putL_size]; exact hJ.sz) fun d h1 h2 => ?_
        rw [← hat _ _ h1, ← hat _ _ h2]
        exact (hpt d (by rw [← hJ.sz]; exact h1)).symm
      have h2 : a.defers = (putL vs ops.toList 0 a0).defers := by rw [putL_defers]; exact hJ.df
      cases a
      cases h : putL vs ops.toList 0 a0
      rw [h] at h1 h2
      simp only at h1 h2
      rw [h1, h2]
    rw [heq]
    exact hdone vs w' hJ.le (fun i o d ho hd => by
      rw [hvs i o d ho hd]
      exact hJ.done i o d (hall i (Array.getElem?_eq_some_iff.1 ho).1) ho hd) (fun i o ho hd => by rw [← heq]; exact hJ.eff i o (hall i (Array.getElem?_eq_some_iff.1 ho).1) ho hd)
  · unfold left
    exact Nat.le_trans (List.countP_le_length) (by simp)
  · have hf : ∀ i, (Array.replicate ops.size false).getD i false = false := fun i => by
      rcases Nat.lt_or_ge i ops.size with h' | h'
      · simp [h']
      · simp [h']
    refine ⟨hrefl _, rfl, rfl, fun i o d h => ?_, fun d _ => rfl, fun i o h => ?_, fun i o h => ?_⟩
    all_goals (rw [hf] at h; cases h)
theorem uniq_list : ∀ (l : List Oper), (l.filterMap (·.dst)).Nodup → ∀ (i j : Nat) (oi oj : Oper) (d : Tmp), l[i]? = some oi → l[j]? = some oj → oi.dst = some d → oj.dst = some d → i = j
  | [], _, i, _, _, _, _, h, _, _, _ => by simp at h
  | o :: l, hn, i, j, oi, oj, d, hi, hj, h1, h2 => by
    have hin : ∀ {k : Nat} {ok : Oper}, l[k]? = some ok → ok.dst = some d → d ∈ l.filterMap (·.dst) := fun {k ok} hk hd => List.mem_filterMap.2 ⟨ok, List.mem_of_getElem? hk, hd⟩
    cases i with
    | zero =>
      cases j with
      | zero => rfl
      | succ j =>
        exfalso
        have e : o = oi := by simpa using hi
        subst e
        rw [List.filterMap_cons_some h1] at hn
        exact (List.nodup_cons.1 hn).1 (hin (by simpa using hj) h2)
    | succ i =>
      cases j with
      | zero =>
        exfalso
        have e : o = oj := by simpa using hj
        subst e
        rw [List.filterMap_cons_some h2] at hn
        exact (List.nodup_cons.1 hn).1 (hin (by simpa using hi) h1)
      | succ j =>
        have hn' : (l.filterMap (·.dst)).Nodup := by
          cases ho : o.dst with
          | none => rwa [List.filterMap_cons_none ho] at hn
          | some e => rw [List.filterMap_cons_some ho] at hn; exact (List.nodup_cons.1 hn).2
        rw [uniq_list l hn' i j oi oj d (by simpa using hi) (by simpa using hj) h1 h2]
/-- What is asked of a region's text. -/
def rgOk (ops : Array Oper) (n : Nat) : Bool :=
  ops.toList.all (fun o => o.guard.isNone) && (decide ((ops.toList.filterMap (·.dst)).Nodup) && ((ops.toList.filterMap (·.dst)).all (fun d => decide (d < n)) &&
    (List.range ops.size).all fun i => match ops[i]? with
      | some o => o.after.toList.all fun e => !Region.binds .any e || decide (e.on < i)
      | none => true))
/-- The same, the text's own conditions asked by the kernel. -/
theorem wp_region_of2 {id : Nat} {a0 : Act} {w : World} (n : Nat) (hok : rgOk ops n = true) (hn : a0.tmps.size = n) (hm : P.follows .mixedOrders = true) (Le : World → World → Prop) (hrefl : ∀ w, Le w w) (htrans : ∀ a b c, Le a b → Le b c → Le a c)
    (R : Nat → Value → World → Prop) (hR : ∀ i v w1 w2, Le w1 w2 → R i v w1 → R i v w2) (S : Nat → (Tmp → Value) → World → Prop) (hS : ∀ i f w1 w2, Le w1 w2 → S i f w1 → S i f w2)
    (hSf : ∀ (i : Nat) (o : Oper) f f' w, ops[i]? = some o → (∀ e ∈ o.after, Region.binds .any e = true → ∀ (oj : Oper) (d : Tmp), ops[e.on]? = some oj → oj.dst = some d → f d = f' d) → S i f w → S i f' w)
    (hstep : ∀ (i : Nat) (o : Oper), ops[i]? = some o → ∀ a w', Le { w with drawn := w.drawn + 1 } w' →
      (∀ e ∈ o.after, Region.binds .any e = true → ∀ (oj : Oper) (d : Tmp), ops[e.on]? = some oj → oj.dst = some d → R e.on (a.tmps.getD d undef) w') →
      (∀ d, (∀ oj ∈ ops.toList, oj.dst ≠ some d) → a.tmps.getD d undef = a0.tmps.getD d undef) →
      ∀ K : Act → World → Prop, (∀ v w'', (∀ d, o.dst = some d → R i v w'') → (o.dst = none → S i (fun d => a.tmps.getD d undef) w'') → Le w' w'' → K (a.put o.dst v) w'') → Oper.wp P o a w' K Q)
    (hdone : ∀ (vs : Nat → Value) w', Le { w with drawn := w.drawn + 1 } w' → (∀ (i : Nat) (o : Oper) (d : Tmp), ops[i]? = some o → o.dst = some d → R i (vs i) w') → (∀ (i : Nat) (o : Oper), ops[i]? = some o → o.dst = none → S i (fun d => (putL vs ops.toList 0 a0).tmps.getD d undef) w') → Q .normal (putL vs ops.toList 0 a0) w') :
    (Code.region id ops true).wp P Q a0 w := by
  rw [rgOk, Bool.and_eq_true, Bool.and_eq_true, Bool.and_eq_true] at hok
  obtain ⟨c1, c2, c3, c4⟩ := hok
  refine wp_region_inv hm Le hrefl htrans R hR S hS hSf (fun o ho => ?_) (fun i j oi oj d hi hj => ?_) (fun o ho d hd => ?_) (fun i o hi e he hb => ?_) hstep hdone
  · have := List.all_eq_true.1 c1 o ho
    simpa using this
  · exact uniq_list ops.toList (of_decide_eq_true c2) i j oi oj d (by simpa using hi) (by simpa using hj)
  · rw [hn]
    exact of_decide_eq_true (List.all_eq_true.1 c3 d (List.mem_filterMap.2 ⟨o, ho, hd⟩))
  · have h := List.all_eq_true.1 c4 i (List.mem_range.2 (Array.getElem?_eq_some_iff.1 hi).1)
    rw [hi] at h
    have h2 := List.all_eq_true.1 h e (by simpa using he)
    rw [hb] at h2
    simpa using h2
/-- The same, the text's own conditions asked by the kernel. -/
theorem wp_region_of {id : Nat} {a0 : Act} {w : World} (n : Nat) (hok : rgOk ops n = true) (hn : a0.tmps.size = n) (hm : P.follows .mixedOrders = true) (Le : World → World → Prop) (hrefl : ∀ w, Le w w) (htrans : ∀ a b c, Le a b → Le b c → Le a c)
    (R : Nat → Value → World → Prop) (hR : ∀ i v w1 w2, Le w1 w2 → R i v w1 → R i v w2)
    (hstep : ∀ (i : Nat) (o : Oper), ops[i]? = some o → ∀ a w', Le { w with drawn := w.drawn + 1 } w' →
      (∀ e ∈ o.after, Region.binds .any e = true → ∀ (oj : Oper) (d : Tmp), ops[e.on]? = some oj → oj.dst = some d → R e.on (a.tmps.getD d undef) w') →
      (∀ d, (∀ oj ∈ ops.toList, oj.dst ≠ some d) → a.tmps.getD d undef = a0.tmps.getD d undef) →
      ∀ K : Act → World → Prop, (∀ v w'', (∀ d, o.dst = some d → R i v w'') → Le w' w'' → K (a.put o.dst v) w'') → Oper.wp P o a w' K Q)
    (hdone : ∀ (vs : Nat → Value) w', Le { w with drawn := w.drawn + 1 } w' → (∀ (i : Nat) (o : Oper) (d : Tmp), ops[i]? = some o → o.dst = some d → R i (vs i) w') → Q .normal (putL vs ops.toList 0 a0) w') :
    (Code.region id ops true).wp P Q a0 w := by
  exact wp_region_of2 n hok hn hm Le hrefl htrans R hR (fun _ _ _ => True) (fun _ _ _ _ _ _ => trivial) (fun _ _ _ _ _ _ _ _ => trivial) (fun i o hi a w' h1 h2 h3 K hK => hstep i o hi a w' h1 h2 h3 K fun v w'' hv hle => hK v w'' hv (fun _ => trivial) hle) (fun vs w' h1 h2 _ => hdone vs w' h1 h2)
end
end Go.Proofs.YticdcnbeemkapaaGreatDoor
