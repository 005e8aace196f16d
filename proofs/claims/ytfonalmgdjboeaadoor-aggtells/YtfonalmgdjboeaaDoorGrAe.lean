/-
  AgR, AgS, AgY, AgJ, OwnS, in one text.
-/
import Derived.Test.YtfonalmgdjboeaaDoorGrAd
import Derived.Test.YtfonalmgdjboeaaDoorGrAa
import Derived.OwnWalk
namespace Go.Proofs.YtfonalmgdjboeaaDoor
open Go.RowKit
set_option linter.unusedVariables false

/-- An Acc lies in block a, its parts where v says. -/
structure AccAt (w : World) (a : Nat) (v : Value) (rows : Int) (ps : List Pt) : Prop where
  blk : Blk w a #[.int .i64 rows, v] 56
  pts : (ps = [] ∧ v = .slice none 0 0) ∨ ∃ g c cur, v = .slice (some ⟨g, 0, none⟩) ps.length c ∧ PtsAt w g cur ps
/-- Its own blocks. -/
def accS (a : Nat) (v : Value) (k : Nat) : Prop := k = a ∨ v.ownBlock = some k
theorem AccAt.on {w w' : World} {a : Nat} {v : Value} {rows : Int} {ps : List Pt} (h : AccAt w a v rows ps) (hb : Below w.heap.size w w') : AccAt w' a v rows ps := by
  refine ⟨h.blk.on hb, ?_⟩
  rcases h.pts with h | ⟨g, c, cur, e, h⟩
  · exact .inl h
  · exact .inr ⟨g, c, cur, e, h.on hb⟩
theorem AccAt.cell1 {w : World} {a : Nat} {v : Value} {rows : Int} {ps : List Pt} (h : AccAt w a v rows ps) : w.cell? ⟨a, 1, none⟩ = some v := h.blk.cell 1
theorem AccAt.cell0 {w : World} {a : Nat} {v : Value} {rows : Int} {ps : List Pt} (h : AccAt w a v rows ps) : w.cell? ⟨a, 0, none⟩ = some (.int .i64 rows) := h.blk.cell 0
theorem AccAt.form {w : World} {a : Nat} {v : Value} {rows : Int} {ps : List Pt} (h : AccAt w a v rows ps) : ∃ q c, v = .slice q ps.length c := by
  rcases h.pts with ⟨rfl, e⟩ | ⟨g, c, cur, e, _⟩
  · exact ⟨_, _, e⟩
  · exact ⟨_, _, e⟩
theorem AccAt.at {w : World} {a : Nat} {v : Value} {rows : Int} {ps : List Pt} (h : AccAt w a v rows ps) {i : Nat} (hi : i < ps.length) : ∃ g c cur, v = .slice (some ⟨g, 0, none⟩) ps.length c ∧ PtsAt w g cur ps := by
  rcases h.pts with ⟨rfl, e⟩ | h
  · simp at hi
  · exact h
theorem blk_ne {w : World} {a b : Nat} {cs ds : Array Value} {t u : TypeId} (h : Blk w a cs t) (k : Blk w b ds u) (hn : t ≠ u) : a ≠ b := fun e => by
  subst e
  unfold Blk at h k
  rw [h] at k
  injection k with k
  injection k with _ k _
  exact hn k
/-- What leaves its blocks, and rows of words, keeps it. -/
theorem AccAt.keep {w w' : World} {a : Nat} {v : Value} {rows : Int} {ps : List Pt} {S : Nat → Prop} (h : AccAt w a v rows ps) (hk : Kp S w w') (hS : ∀ k, accS a v k → ¬ S k) (hu : ∀ (k : Nat) (cs : Array Value), S k → w.heap[k]? = some (Obj.cells cs 84 (0, 0)) → False) : AccAt w' a v rows ps := by
  refine ⟨h.blk.kp hk (hS a (.inl rfl)), ?_⟩
  rcases h.pts with h | ⟨g, c, cur, e, h⟩
  · exact .inl h
  · exact .inr ⟨g, c, cur, e, h.keep hk (hS g (.inr (by rw [e]; rfl))) hu⟩
/-- An Acc's own blocks are no rows of words. -/
theorem AccAt.nou {w : World} {a : Nat} {v : Value} {rows : Int} {ps : List Pt} (h : AccAt w a v rows ps) : ∀ (k : Nat) (cs : Array Value), accS a v k → w.heap[k]? = some (Obj.cells cs 84 (0, 0)) → False := by
  intro k cs hk hc
  have hc' : Blk w k cs 84 := hc
  rcases hk with rfl | hk
  · exact blk_ne h.blk hc' (by decide) rfl
  · rcases h.pts with ⟨_, e⟩ | ⟨g, c, cur, e, h⟩
    · rw [e] at hk; simp [Value.ownBlock] at hk
    · rw [e] at hk
      have : g = k := by simpa [Value.ownBlock] using hk
      subst this
      exact blk_ne h.blk hc' (by decide) rfl
/-- The first number that is not 0. -/
def fstE : List Int → Int
  | [] => 0
  | e :: r => if e ≠ 0 then e else fstE r
theorem fstE_at {L : List Int} {k : Nat} (h : k < L.length) : fstE (L.drop k) = if L[k] ≠ 0 then L[k] else fstE (L.drop (k + 1)) := by
  rw [List.drop_eq_getElem_cons h, fstE]
set_option maxHeartbeats 2000000 in
/-- Any function that is asked of each part, up to the first that has an error. -/
theorem each_any (f : FuncId) (hent : ∀ (args : Array Value) (W : World), Sem.run Tryd.prog (callFunc f args) W = .ok (.enter f args) W) (caps : Array Value) (a : Nat) (q : Option Addr) (n c : Nat) (L : List Int) (hL : L.length = n) (hn : n ≤ 6) (St : Nat → World → Prop) (Fin : World → Prop) (w : World) (h0 : St 0 w)
    (hcell : ∀ i W, St i W → W.cell? ⟨a, 1, none⟩ = some (.slice q n c)) (hq : 0 < n → ∃ g, q = some ⟨g, 0, none⟩)
    (step : ∀ (g i : Nat) (W : World) (hi : i < L.length), q = some ⟨g, 0, none⟩ → St i W → Calls Tryd.prog f (#[.int .i64 (i : Int), .pointer (some ⟨g, i * 6, none⟩)] ++ caps) W fun e w' => e = .returned (errV L[i]) ∧ Aside (if L[i] = 0 then St (i + 1) w' else Fin w'))
    (hfin : ∀ W, St n W → Fin W) (E : Int) (hE : fstE L = E) :
    Calls Tryd.prog 20 #[.pointer (some ⟨a, 0, none⟩), .func (.func f) #[] caps] w fun e w' => e = .returned (errV E) ∧ Aside (if E = 0 then St n w' else Fin w') := by
  have HC : Aside (∀ i W, St i W → W.cell? ⟨a, 1, none⟩ = some (.slice q n c)) := hcell
  have HQ : Aside (0 < n → ∃ g, q = some ⟨g, 0, none⟩) := hq
  have HS : Aside _ := step
  have HF : Aside _ := hfin
  have HL : Hid (L.length = n) := hL
  have HE : Hid (fstE (L.drop 0) = E) := hE
  have H0 : Aside (St 0 w) := h0
  have hc0 := hcell 0 w h0
  obtain ⟨PST, hPST⟩ : ∃ PST : Ending → World → Prop, (fun (e : Ending) (w' : World) => e = .returned (errV E) ∧ Aside (if E = 0 then St n w' else Fin w')) = PST := ⟨_, rfl⟩
  have HPE : Hid (∀ e w', (e = .returned (errV E) ∧ Aside (if E = 0 then St n w' else Fin w')) → PST e w') := by
    intro e w' h
    rw [← hPST]
    exact h
  rw [hPST]
  clear hPST hcell hq step hfin hL hE h0
  go_enter Tryd.func20, Tryd.ntmps20
  go_wp2
  go_loopg [5, 6, 12] n (fun gg _ _ s12 wr => ∃ kk : Nat, kk ≤ n ∧ n - kk ≤ gg ∧ s12 = .int .i64 kk ∧ Aside (St kk wr) ∧ Hid (fstE (L.drop kk) = E))
  case atStart => exact ⟨0, Nat.zero_le _, by omega, rfl, H0, HE⟩
  case round =>
    obtain ⟨kk, hkk, hg, rfl, SR, HER⟩ := hrel
    clear H0 HE hc0
    by_cases hlt : kk < n
    · have hltz : (kk : Int) < (n : Int) := by omega
      have h0z : (0 : Int) ≤ (kk : Int) := by omega
      have hkl : kk < L.length := by rw [HL.out]; exact hlt
      obtain ⟨g, rfl⟩ := HQ.out (by omega)
      have hcr := HC.out kk wr SR.out
      have cS := HS.out g kk wr hkl rfl SR.out
      have hfe := HER.out
      rw [fstE_at hkl] at hfe
      by_cases hz : L[kk] = 0
      · rw [if_neg (fun h => h hz)] at hfe
        have cS : Calls Tryd.prog f (#[.int .i64 (kk : Int), .pointer (some ⟨g, kk * 6, none⟩)] ++ caps) wr fun e w' => e = .returned .nilIface ∧ Aside (St (kk + 1) w') := cS.mono fun e w' hh => ⟨by rw [hh.1, hz]; rfl, by have := hh.2.out; rw [if_pos hz] at this; exact this⟩
        have HFE : Hid (fstE (L.drop (kk + 1)) = E) := hfe
        clear hfe hz HER
        go_wp2_with fail
        refine cS.mono ?_
        rintro e w2 ⟨rfl, S2⟩
        clear cS
        go_wp2
        go_roundg (n - (kk + 1))
        case measure => omega
        case rel => exact ⟨kk + 1, by omega, by omega, by go_num, S2, HFE⟩
      · rw [if_pos hz] at hfe
        have hE0 : ¬ E = 0 := by rw [← hfe]; exact hz
        have hV : errV E = .iface 53 (.int .i64 E) := by rw [errV, if_neg hE0]
        have cS : Calls Tryd.prog f (#[.int .i64 (kk : Int), .pointer (some ⟨g, kk * 6, none⟩)] ++ caps) wr fun e w' => e = .returned (.iface 53 (.int .i64 E)) ∧ Aside (Fin w') := cS.mono fun e w' hh => ⟨by rw [hh.1, hfe, hV], by have := hh.2.out; rw [if_neg hz] at this; exact this⟩
        have HV : Hid _ := hV
        have HE0 : Hid _ := hE0
        clear hfe hz HER hV hE0
        go_wp2_with fail
        refine cS.mono ?_
        rintro e w2 ⟨rfl, S2⟩
        clear cS
        go_wp2
        exact HPE.out _ _ ⟨by rw [HV.out]; rfl, by rw [if_neg HE0.out]; exact S2⟩
    · have hltz : ¬ (kk : Int) < (n : Int) := by omega
      obtain rfl : kk = n := by omega
      have hE0 : E = 0 := by rw [← HER.out, List.drop_eq_nil_of_le (by rw [HL.out]; exact Nat.le_refl _)]; rfl
      have HE0 : Hid _ := hE0
      clear hE0
      go_wp2
      exact HPE.out _ _ ⟨by rw [HE0.out]; rfl, by rw [if_pos HE0.out]; exact SR⟩
set_option maxHeartbeats 2000000 in
/-- Of no rows nothing is taken. -/
theorem accTake_none (f : Value) (a : Nat) (w : World) :
    Calls Tryd.prog 23 #[.pointer (some ⟨a, 0, none⟩), .int .i64 0, f] w fun e w' => e = .returned (.tuple #[]) ∧ w' = w := by
  go_enter Tryd.func23, Tryd.ntmps23
  go_wp2
  exact bodyPost_ret (results_none rfl _ _ _) rfl ⟨rfl, rfl⟩
theorem together_any (x y : Int) (w : World) (hx : 0 ≤ x ∧ x ≤ 1000000) (hy : 0 ≤ y ∧ y ≤ 1000000) :
    Calls Tryd.prog 42 #[.int .i64 x, .int .i64 y] w fun e w' => e = .returned (.int .i64 (x + y)) ∧ w' = w := by
  have c := rk_add x y w (by omega) (by omega) (by omega)
  go_enter Tryd.func42, Tryd.ntmps42
  go_wp2_with fail
  refine c.mono ?_
  rintro e w1 ⟨rfl, rfl⟩
  clear c
  go_wp2
  go_ret
  exact ⟨rfl, rfl⟩
/-- The parts, of which the first k have taken. -/
def tkN (ps : List Pt) (o : Nat → Pt) (k : Nat) : List Pt := ps.mapIdx fun i p => if i < k then tkP p (o i) else p
theorem tkN_len (ps : List Pt) (o : Nat → Pt) (k : Nat) : (tkN ps o k).length = ps.length := by simp [tkN]
theorem tkN_zero (ps : List Pt) (o : Nat → Pt) : tkN ps o 0 = ps := by
  apply List.ext_getElem
  · simp [tkN]
  · intro i h1 h2
    simp [tkN]
theorem tkN_at (ps : List Pt) (o : Nat → Pt) (k i : Nat) (h : i < ps.length) : (tkN ps o k)[i]'(by rw [tkN_len]; exact h) = if i < k then tkP ps[i] (o i) else ps[i] := by simp [tkN]
theorem tkN_set (ps : List Pt) (o : Nat → Pt) (k : Nat) (h : k < ps.length) : (tkN ps o k).set k (tkP ps[k] (o k)) = tkN ps o (k + 1) := by
  apply List.ext_getElem
  · simp [tkN]
  · intro i h1 h2
    have hi : i < ps.length := by rw [tkN_len] at h2; exact h2
    rw [List.getElem_set, tkN_at ps o (k + 1) i hi]
    by_cases hki : k = i
    · subst hki; rw [if_pos rfl, if_pos (by omega)]
    · rw [if_neg hki, tkN_at ps o k i hi]
      by_cases h3 : i < k
      · rw [if_pos h3, if_pos (by omega)]
      · rw [if_neg h3, if_neg (by omega)]
theorem Kp.mono_set {S : Nat → Prop} {w w1 : World} {g : Nat} (h : Kp (· = g) w w1) (hs : S g) : Kp S w w1 := h.mono fun k _ e => by subst e; exact hs
theorem AccAt.setPts {w w' : World} {a g : Nat} {v : Value} {rows : Int} {ps ps' : List Pt} {cur' : Array Value} {c : Nat} (h : AccAt w a v rows ps) (hv : v = .slice (some ⟨g, 0, none⟩) ps.length c) (hl : ps'.length = ps.length) (hp : PtsAt w' g cur' ps') (hk : Kp (· = g) w w') (hag : a ≠ g) : AccAt w' a v rows ps' :=
  ⟨h.blk.kp hk hag, .inr ⟨g, c, cur', by rw [hl]; exact hv, hp⟩⟩
theorem AccAt.ne {w : World} {a g : Nat} {cur : Array Value} {v : Value} {rows : Int} {ps ps' : List Pt} (h : AccAt w a v rows ps) (hp : PtsAt w g cur ps') : a ≠ g := blk_ne h.blk hp.blk (by decide)
theorem AccAt.setRows {w : World} {a : Nat} {v : Value} {rows : Int} {ps : List Pt} (h : AccAt w a v rows ps) (r : Int) : AccAt (w.setCell ⟨a, 0, none⟩ (.int .i64 r)) a v r ps := by
  refine ⟨by simpa using h.blk.set 0 (.int .i64 r), ?_⟩
  rcases h.pts with h' | ⟨g, c, cur, e, h'⟩
  · exact .inl h'
  · refine .inr ⟨g, c, cur, e, h'.keep (S := (· = a)) ((Kp.refl _ _).set _ _ (fun _ => rfl)) (fun e => (h.ne h') e.symm) (fun k cs hk hc => ?_)⟩
    subst hk
    exact blk_ne h.blk (show Blk w k cs 84 from hc) (by decide) rfl
set_option maxHeartbeats 4000000 in
set_option maxRecDepth 20000 in
/-- Any function that says what each part takes. -/
theorem accTake_any (f : FuncId) (hent : ∀ (args : Array Value) (W : World), Sem.run Tryd.prog (callFunc f args) W = .ok (.enter f args) W) (caps : Array Value) (a : Nat) (v : Value) (rows m : Int) (ps : List Pt) (o : Nat → Pt) (w : World) (hA : AccAt w a v rows ps) (hn : ps.length ≤ 6) (hr : 0 ≤ rows ∧ rows ≤ 1000000) (hm : 1 ≤ m ∧ m ≤ 1000000)
    (kp : ∀ p ∈ ps, OkPt p) (ko : ∀ i, i < ps.length → OkPt (o i)) (hkk : ∀ i (h : i < ps.length), (o i).kind = ps[i].kind)
    (hof : ∀ (i : Nat) (W : World) (R : Int), i < ps.length → AccAt W a v R (tkN ps o i) → Kp (accS a v) w W → Calls Tryd.prog f (#[.int .i64 (i : Int)] ++ caps) W fun e w' => (∃ q c, e = .returned (.agg #[.string (o i).what, .int .i64 (o i).kind, .slice q (o i).ws.length c, .int .i64 (o i).best.1, .int .i64 (o i).best.2.1, .string (o i).best.2.2]) ∧ Aside (TotA w' (.slice q (o i).ws.length c) (o i).ws)) ∧ Below W.heap.size W w') :
    Calls Tryd.prog 23 #[.pointer (some ⟨a, 0, none⟩), .int .i64 m, .func (.func f) #[] caps] w fun e w' => e = .returned (.tuple #[]) ∧ Aside (AccAt w' a v (rows + m) (tkN ps o ps.length)) ∧ Aside (Kp (accS a v) w w') := by
  have hc0 := hA.cell0
  have hfz := hA.blk.frozen 0
  have hal := hA.blk.lt
  have c0 := together_any rows m w hr ⟨by omega, hm.2⟩
  have hmz : ¬ m = 0 := by omega
  have hmb : (m == 0) = false := by simpa using hmz
  obtain ⟨q, c, rfl⟩ := hA.form
  have hA1 : Aside (AccAt (w.setCell ⟨a, 0, none⟩ (.int .i64 (rows + m))) a (.slice q ps.length c) (rows + m) ps) := hA.setRows (rows + m)
  have hK1 : Aside (Kp (accS a (.slice q ps.length c)) w (w.setCell ⟨a, 0, none⟩ (.int .i64 (rows + m)))) := (Kp.refl _ _).set _ _ (fun _ => .inl rfl)
  have hc1 : (w.setCell ⟨a, 0, none⟩ (.int .i64 (rows + m))).cell? ⟨a, 1, none⟩ = some (.slice q ps.length c) := hA1.out.cell1
  have HF : Aside _ := hof
  have HKP : Aside (∀ p ∈ ps, OkPt p) := kp
  have HKO : Aside _ := ko
  have HKK : Aside _ := hkk
  obtain ⟨n, hnn⟩ : ∃ n, ps.length = n := ⟨_, rfl⟩
  have HN : Hid (ps.length = n) := hnn
  rw [hnn] at hc1 hn ⊢
  rw [hnn] at hA1 hK1 HF
  have HA0 : Aside _ := hA
  clear hA hof kp ko hkk hnn hr hm
  go_enter Tryd.func23, Tryd.ntmps23
  go_wp2_with fail
  refine c0.mono ?_
  rintro e w1 ⟨rfl, rfl⟩
  clear c0
  go_wp2
  go_loopg [6, 23] n (fun gg _ s21 wr => ∃ kk : Nat, kk ≤ n ∧ n - kk ≤ gg ∧ s21 = .int .i64 kk ∧ Aside (AccAt wr a (.slice q n c) (rows + m) (tkN ps o kk)) ∧ Aside (Kp (accS a (.slice q n c)) w1 wr))
  case atStart => exact ⟨0, Nat.zero_le _, by omega, rfl, by rw [tkN_zero]; exact hA1, hK1⟩
  case round =>
    obtain ⟨kk, hkk, hg, rfl, AR, KR⟩ := hrel
    clear hA1 hK1 hc1 HA0 hc0 hfz
    by_cases hlt : kk < n
    · have hltz : (kk : Int) < (n : Int) := by omega
      have h0z : (0 : Int) ≤ (kk : Int) := by omega
      have hki : kk < ps.length := by rw [HN.out]; exact hlt
      have hkt : kk < (tkN ps o kk).length := by rw [tkN_len]; exact hki
      obtain ⟨g, c', cur, hve, PT⟩ := AR.out.at hkt
      rw [tkN_len, HN.out] at hve
      injection hve with hq1 hq2 hq3
      subst hq1 hq3
      have hag := AR.out.ne PT
      have hcr := AR.out.cell1
      have cF := HF.out kk wr.drew (rows + m) hlt (AR.out.on (Below.drew (Below.refl _ _))) KR.out.drew
      obtain ⟨p, hpe⟩ : ∃ p, ps[kk] = p := ⟨_, rfl⟩
      have hpt : (tkN ps o kk)[kk]'hkt = p := by rw [tkN_at ps o kk kk hki, if_neg (by omega), hpe]
      have hokp : OkPt p := HKP.out p (by rw [← hpe]; exact List.getElem_mem _)
      have hoko := HKO.out kk hki
      have hkko := HKK.out kk hki
      rw [hpe] at hkko
      have hset := tkN_set ps o kk hki
      rw [hpe] at hset
      generalize o kk = ok at cF hoko hkko hset
      have cT := fun (w2 : World) (q2 : Option Addr) (c2 : Nat) (T2 : TotA w2 (.slice q2 ok.ws.length c2) ok.ws) (P2 : PtsAt w2 g cur (tkN ps o kk)) => ptTake_any g cur (tkN ps o kk) kk hkt p hpt ok q2 c2 w2 P2 hokp hoko T2 hkko
      rw [hset] at cT
      have HPT : Aside _ := PT
      have HAG : Hid (a ≠ g) := hag
      clear hset hkko hoko hokp hpt hpe hq2 PT hag
      go_wp2
      go_region_with (first
        | (go_at_call 43; refine (cT _ _ _ T2.out P2.out).mono ?_; rintro e w3 ⟨rfl, ⟨cur', P3⟩, K3⟩)
        | (refine cF.mono ?_; rintro e w2 ⟨⟨q2, c2, rfl, T2⟩, B2⟩; have A2 : Aside (AccAt w2 a (.slice (some ⟨g, 0, none⟩) n c) (rows + m) (tkN ps o kk)) := (AR.out.on (Below.drew (Below.refl _ _))).on B2; have P2 : Aside (PtsAt w2 g cur (tkN ps o kk)) := (HPT.out.on (Below.drew (Below.refl _ _))).on B2; have K2 : Aside (Kp (accS a (.slice (some ⟨g, 0, none⟩) n c)) w1 w2) := (KR.out.drew).on B2; have hc2 := A2.out.cell1))
      all_goals
        have A3 : Aside (AccAt w3 a (.slice (some ⟨g, 0, none⟩) n c) (rows + m) (tkN ps o (kk + 1))) := A2.out.setPts (by rw [tkN_len, HN.out]) (by rw [tkN_len, tkN_len]) P3.out K3.out HAG.out
        have K4 : Aside (Kp (accS a (.slice (some ⟨g, 0, none⟩) n c)) w1 w3) := K2.out.trans (K3.out.mono_set (.inr rfl))
        clear A2 P2 K2 P3 K3 B2 T2
        go_wp2
        go_roundg (n - (kk + 1))
        case measure => omega
        case rel => exact ⟨kk + 1, by omega, by omega, by go_num, A3, K4⟩
    · have hltz : ¬ (kk : Int) < (n : Int) := by omega
      obtain rfl : kk = n := by omega
      go_wp2
      go_end0
      exact ⟨rfl, by first | exact AR | (rw [HN.out]; exact AR), KR⟩
end Go.Proofs.YtfonalmgdjboeaaDoor
namespace Go.Proofs.YtfonalmgdjboeaaDoor
open Go.RowKit
set_option linter.unusedVariables false

theorem ent_add1 : ∀ (args : Array Value) (W : World), Sem.run Tryd.prog (callFunc 21 args) W = .ok (.enter 21 args) W := fun args W => by kernel_rfl
theorem ent_add2 : ∀ (args : Array Value) (W : World), Sem.run Tryd.prog (callFunc 24 args) W = .ok (.enter 24 args) W := fun args W => by kernel_rfl
/-- A part that is right, of so many rows. -/
structure OkA (rows : Int) (p : Pt) : Prop where
  ok : OkPt p
  lo : -(rows * 9223372036854775808) ≤ sv p.ws
  hi : sv p.ws ≤ rows * 9223372036854775808
theorem OkA.two {rows : Int} {p : Pt} (h : OkA rows p) (hr : rows ≤ 100000) : p.ws.length ≤ 2 :=
  short_two p.ws h.ok.ws.1 h.ok.ws.2.1 (by have := h.lo; have := h.hi; omega)
theorem short_nil : Short [] := fun a t e _ => by simp at e
theorem short_sing (x : Int) : Short [x] := fun a t e hn => by
  have h1 := congrArg List.length e
  rw [List.length_append, List.length_singleton, List.length_singleton] at h1
  have h2 : a.length = 0 := by omega
  exact absurd (List.length_eq_zero_iff.1 h2) hn
/-- What one value makes is right. -/
theorem oneP_ok {p : Pt} {v : V3} (h : OkPt p) (hc : ckPt p v = 0) (hb : inB v.2.1) : OkA 1 (oneP p v) := by
  obtain ⟨e1, e2⟩ := oneP_what p v
  have hw : (oneP p v).wh = p.wh := by unfold Pt.wh; rw [e1]
  have base : ∀ (ws : List Int) (best : V3), wdR ws ∧ Short ws ∧ ws.length ≤ 900 → (best.1 = 0 ∧ best = noV ∨ best.1 = p.kind ∧ chk best.1 best.2.1 best.2.2.data.toList = 0 ∧ inB best.2.1) → OkPt ⟨p.what, p.kind, ws, best⟩ := fun ws best h1 h2 => ⟨h.ag, h.kn, h.ks, h1, h2⟩
  have hnil : wdR [] ∧ Short [] ∧ ([] : List Int).length ≤ 900 := ⟨fun x hx => absurd hx (by simp), short_nil, by simp⟩
  have hno : noV.1 = 0 ∧ noV = noV ∨ noV.1 = p.kind ∧ chk noV.1 noV.2.1 noV.2.2.data.toList = 0 ∧ inB noV.2.1 := .inl ⟨rfl, rfl⟩
  unfold oneP
  split
  · have hs := sv_one v.2.1 hb
    unfold inB at hb
    refine ⟨base _ _ ⟨fun x hx => ?_, short_sing _, by simp⟩ hno, by rw [hs]; omega, by rw [hs]; omega⟩
    have : x = v.2.1 % 18446744073709551616 := by simpa using hx
    omega
  · split
    · rename_i hx
      refine ⟨base _ _ hnil (.inr ?_), by show _ ≤ (0 : Int); omega, by show (0 : Int) ≤ _; omega⟩
      unfold ckPt at hc
      rw [if_neg (by rcases hx with hx | hx <;> rw [hx] <;> decide)] at hc
      by_cases h1 : chk v.1 v.2.1 v.2.2.data.toList = 0
      · rw [if_neg (fun h => h h1)] at hc
        by_cases h2 : v.1 = p.kind
        · exact ⟨h2, h1, hb⟩
        · rw [if_pos h2] at hc; omega
      · rw [if_pos h1] at hc; exact absurd hc h1
    · exact ⟨base _ _ hnil hno, by show _ ≤ (0 : Int); omega, by show (0 : Int) ≤ _; omega⟩
/-- What two know is right. -/
theorem tkP_ok {r s : Int} {p o : Pt} (h : OkA r p) (k : OkA s o) (hk : o.kind = p.kind) (hr : 0 ≤ r) (hs : 0 ≤ s) (hrs : r + s ≤ 100000) : OkA (r + s) (tkP p o) := by
  have hlo := h.lo
  have hhi := h.hi
  have klo := k.lo
  have khi := k.hi
  have same : OkA (r + s) p := ⟨h.ok, by omega, by omega⟩
  unfold tkP
  split
  · obtain ⟨s1, s2, s3⟩ := sumW_is p.ws o.ws h.ok.ws.1 k.ok.ws.1
    obtain ⟨t1, t2, t3, t4⟩ := shW_is (sumW p.ws o.ws) s2 (by intro e; rw [e] at s3; simp at s3)
    have hsv : sv (shW (sumW p.ws o.ws)) = sv p.ws + sv o.ws := by rw [t1, s1]
    refine ⟨⟨h.ok.ag, h.ok.kn, h.ok.ks, ⟨t3, t2, ?_⟩, h.ok.best⟩, by show _ ≤ sv (shW _); rw [hsv]; omega, by show sv (shW _) ≤ _; rw [hsv]; omega⟩
    have := short_two _ t3 t2 (by rw [hsv]; omega)
    show (shW _).length ≤ 900
    omega
  · split
    · split
      · exact ⟨⟨h.ok.ag, h.ok.kn, h.ok.ks, h.ok.ws, by have := k.ok.best; rw [hk] at this; exact this⟩, same.lo, same.hi⟩
      · exact same
    · exact same
/-- What is wrong with a row; what is known behind it. -/
def adE (ps : List Pt) (vs : List V3) : Int := if vs.length ≠ ps.length then 3 else fstE (List.zipWith ckPt ps vs)
def adP (ps : List Pt) (vs : List V3) : List Pt := tkN ps (fun i => oneP (ps.getD i ⟨⟨#[]⟩, 0, [], noV⟩) (vs.getD i noV)) ps.length
theorem fstE_zero : ∀ {L : List Int}, fstE L = 0 → ∀ e ∈ L, e = 0
  | [], _ => by simp
  | e :: r, h => by
    rw [fstE] at h
    by_cases h0 : e = 0
    · rw [if_neg (fun k => k h0)] at h
      intro x hx
      rcases List.mem_cons.1 hx with rfl | hx
      · exact h0
      · exact fstE_zero h x hx
    · rw [if_pos h0] at h; exact absurd h h0
set_option maxHeartbeats 2000000 in
theorem add1_any (g i : Nat) (p : Pt) (q : Option Addr) (c : Nat) (L : Nat) (vq : Option Addr) (vc : Nat) (vs : List V3) (w : World) (hp : PartIs w g (i * 6) p q c) (hL : w.cell? ⟨L, 0, none⟩ = some (.slice vq vs.length vc)) (hv : ValsAt w vq vs) (hi : i < vs.length) (hn : vs.length ≤ 6) (hsz : SizedV vs) (E : Int) (hE : ckPt p vs[i] = E) :
    Calls Tryd.prog 21 #[.int .i64 (i : Int), .pointer (some ⟨g, i * 6, none⟩), .pointer (some ⟨L, 0, none⟩)] w fun e w' => e = .returned (errV E) ∧ Below w.heap.size w w' := by
  rcases hv with h0 | ⟨vb, vo, rfl, hvl, hv⟩
  · omega
  obtain ⟨v0, v1, v2⟩ := hv i hi
  have hs := (hsz vs[i] (List.getElem_mem _)).1
  have cC := ptCheck_any g (i * 6) p.what p.kind vs[i].1 vs[i].2.1 vs[i].2.2 w hp.c0 hp.c1 hp.lt hs E hE
  have hlt : (i : Int) < (vs.length : Int) := by omega
  have h0z : (0 : Int) ≤ (i : Int) := by omega
  clear hv hp hE hsz
  generalize vs[i] = V at *
  generalize vs.length = n at *
  obtain ⟨t, k, s⟩ := V
  go_enter Tryd.func21, Tryd.ntmps21
  go_wp2_with fail
  refine cC.mono ?_
  rintro e w1 ⟨rfl, B1⟩
  clear cC
  go_wp2
  go_ret
  exact ⟨rfl, B1⟩
theorem part_res (w : World) {w2 : World} (hb : Below (w.alloc (.cells #[.string ⟨#[]⟩, .int .i64 0, .slice none 0 0, .int .i64 0, .int .i64 0, .string ⟨#[]⟩] 60)).heap.size (w.alloc (.cells #[.string ⟨#[]⟩, .int .i64 0, .slice none 0 0, .int .i64 0, .int .i64 0, .string ⟨#[]⟩] 60)) w2) : Blk w2 w.heap.size #[.string ⟨#[]⟩, .int .i64 0, .slice none 0 0, .int .i64 0, .int .i64 0, .string ⟨#[]⟩] 60 := (blk_alloc w _ _).on hb
set_option maxHeartbeats 4000000 in
set_option maxRecDepth 20000 in
theorem add2_any (a g i n : Nat) (c : Nat) (p : Pt) (q : Option Addr) (pc : Nat) (LA LV : Nat) (vq : Option Addr) (vc : Nat) (vs : List V3) (w : World) (hp : PartIs w g (i * 6) p q pc) (hag : isAg p.wh = true) (hLA : w.cell? ⟨LA, 0, none⟩ = some (.pointer (some ⟨a, 0, none⟩))) (ha : w.cell? ⟨a, 1, none⟩ = some (.slice (some ⟨g, 0, none⟩) n c)) (hLV : w.cell? ⟨LV, 0, none⟩ = some (.slice vq vs.length vc)) (hv : ValsAt w vq vs) (hi : i < vs.length) (hin : i < n) (hn : vs.length ≤ 6) (hl1 : LA < w.heap.size) (hl2 : LV < w.heap.size) (hl3 : a < w.heap.size) (hs : p.wh = wLeast ∨ p.wh = wMost → vs[i].2.2.size ≤ 281474976710656) :
    Calls Tryd.prog 24 #[.int .i64 (i : Int), .pointer (some ⟨LA, 0, none⟩), .pointer (some ⟨LV, 0, none⟩)] w fun e w' => (∃ q c, e = .returned (.agg #[.string (oneP p vs[i]).what, .int .i64 (oneP p vs[i]).kind, .slice q (oneP p vs[i]).ws.length c, .int .i64 (oneP p vs[i]).best.1, .int .i64 (oneP p vs[i]).best.2.1, .string (oneP p vs[i]).best.2.2]) ∧ Aside (TotA w' (.slice q (oneP p vs[i]).ws.length c) (oneP p vs[i]).ws)) ∧ Below w.heap.size w w' := by
  rcases hv with h0 | ⟨vb, vo, rfl, hvl, hv⟩
  · omega
  obtain ⟨v0, v1, v2⟩ := hv i hi
  have b1 := alB w (.cells #[.string ⟨#[]⟩, .int .i64 0, .slice none 0 0, .int .i64 0, .int .i64 0, .string ⟨#[]⟩] 60)
  have p1 := hp.on b1
  have cO := ofOne_any g (i * 6) p vs[i] (World.drew _) (p1.on (Below.drew (Below.refl _ _))).c0 (p1.on (Below.drew (Below.refl _ _))).c1 (p1.on (Below.drew (Below.refl _ _))).lt hag hs
  simp only [partW] at cO
  have hlt : (i : Int) < (vs.length : Int) := by omega
  have hlt2 : (i : Int) < (n : Int) := by omega
  have h0z : (0 : Int) ≤ (i : Int) := by omega
  have hn6 : (i : Int) ≤ 6 := by omega
  have d0 : ∀ o1 : Obj, (w.alloc o1).cell? ⟨LA, 0, none⟩ = some (.pointer (some ⟨a, 0, none⟩)) := fun o1 => by rw [(alB w o1).cell (p := ⟨LA, 0, none⟩) hl1]; exact hLA
  have d1 : ∀ o1 : Obj, (w.alloc o1).cell? ⟨LV, 0, none⟩ = some (.slice (some ⟨vb, vo, none⟩) vs.length vc) := fun o1 => by rw [(alB w o1).cell (p := ⟨LV, 0, none⟩) hl2]; exact hLV
  have d2 : ∀ o1 : Obj, (w.alloc o1).cell? ⟨a, 1, none⟩ = some (.slice (some ⟨g, 0, none⟩) n c) := fun o1 => by rw [(alB w o1).cell (p := ⟨a, 1, none⟩) hl3]; exact ha
  have d3 : ∀ o1 : Obj, (w.alloc o1).cell? ⟨vb, vo + i * 3, none⟩ = some (.int .i64 vs[i].1) := fun o1 => by rw [(alB w o1).cell (p := ⟨vb, _, none⟩) hvl]; exact v0
  have d4 : ∀ o1 : Obj, (w.alloc o1).cell? ⟨vb, vo + i * 3 + 1, none⟩ = some (.int .i64 vs[i].2.1) := fun o1 => by rw [(alB w o1).cell (p := ⟨vb, _, none⟩) hvl]; exact v1
  have d5 : ∀ o1 : Obj, (w.alloc o1).cell? ⟨vb, vo + i * 3 + 2, none⟩ = some (.string vs[i].2.2) := fun o1 => by rw [(alB w o1).cell (p := ⟨vb, _, none⟩) hvl]; exact v2
  clear hv hp hs p1 hag v0 v1 v2 hLA hLV ha
  generalize oneP p vs[i] = o at *
  generalize vs[i] = V at *
  generalize vs.length = m at *
  obtain ⟨t, k, s⟩ := V
  obtain ⟨ox, okd, ows, ⟨ot, on, os⟩⟩ := o
  simp only at *
  generalize ows.length = ol at *
  go_enter Tryd.func24, Tryd.ntmps24
  go_wp2
  go_region_with (go_at_call 25; refine cO.mono ?_; rintro e w2 ⟨⟨oq, oc, rfl, T2⟩, B2⟩; have B2' := (Below.drew (Below.refl _ _)).trans B2; have P2 := part_res w B2'; have c0 := P2.cell 0; have c1 := P2.cell 1; have c2 := P2.cell 2; have c3 := P2.cell 3; have c4 := P2.cell 4; have c5 := P2.cell 5; have cf := P2.frozen; simp at c0 c1 c2 c3 c4 c5; clear B2)
  all_goals
    have K6 : But w.heap.size w2 ((((((w2.setCell ⟨w.heap.size, 0, none⟩ (.string ox)).setCell ⟨w.heap.size, 1, none⟩ (.int .i64 okd)).setCell ⟨w.heap.size, 2, none⟩ (.slice oq ol oc)).setCell ⟨w.heap.size, 3, none⟩ (.int .i64 ot)).setCell ⟨w.heap.size, 4, none⟩ (.int .i64 on)).setCell ⟨w.heap.size, 5, none⟩ (.string os)) := But.cells [.string ox, .int .i64 okd, .slice oq ol oc, .int .i64 ot, .int .i64 on, .string os] 0 _ (But.refl _ _)
    have T6 : Aside _ := tot_kp P2 T2.out (Kp.of_but (S := (· = w.heap.size)) K6 rfl)
    have B6 : Aside _ := (b1.trans (B2'.mono b1.size)).trans K6.below
    clear K6 T2 B2' P2 b1
    go_wp2
    exact bodyPost_ret (v := .agg #[.string ox, .int .i64 okd, .slice oq ol oc, .int .i64 ot, .int .i64 on, .string os]) (by simp [results, Tryd.results24, go_sem, World.cell?_setCell_other, World.cell?_setCell_same, c0, c1, c2, c3, c4, c5]) rfl ⟨⟨oq, oc, rfl, T6⟩, B6.out⟩
end Go.Proofs.YtfonalmgdjboeaaDoor
namespace Go.Proofs.YtfonalmgdjboeaaDoor
open Go.RowKit
set_option linter.unusedVariables false

/-- An Acc that is right: its parts of so many rows. -/
structure AccOk (rows : Int) (ps : List Pt) : Prop where
  len : ps.length ≤ 6
  lo : 0 ≤ rows
  hi : rows ≤ 10000
  ok : ∀ p ∈ ps, OkA rows p
theorem AccAt.ownlt {w : World} {a : Nat} {v : Value} {rows : Int} {ps : List Pt} (h : AccAt w a v rows ps) : ∀ k, accS a v k → k < w.heap.size := fun k hk => by
  rcases hk with rfl | hk
  · exact h.blk.lt
  · rcases h.pts with ⟨_, e⟩ | ⟨g, c, cur, e, hp⟩
    · rw [e] at hk; simp [Value.ownBlock] at hk
    · rw [e] at hk
      have : g = k := by simpa [Value.ownBlock] using hk
      subst this
      exact hp.blk.lt
theorem zip_at {ps : List Pt} {vs : List V3} {i : Nat} (h1 : i < ps.length) (h2 : i < vs.length) (h : i < (List.zipWith ckPt ps vs).length) : (List.zipWith ckPt ps vs)[i] = ckPt ps[i] vs[i] := by simp
theorem adO {ps : List Pt} {vs : List V3} {i : Nat} (h1 : i < ps.length) (h2 : i < vs.length) : oneP (ps.getD i ⟨⟨#[]⟩, 0, [], noV⟩) (vs.getD i noV) = oneP ps[i] vs[i] := by
  rw [List.getD_eq_getElem?_getD, List.getD_eq_getElem?_getD, List.getElem?_eq_getElem h1, List.getElem?_eq_getElem h2]
  rfl
theorem ValsAt.kp {S : Nat → Prop} {w w' : World} {q : Option Addr} {vs : List V3} (h : ValsAt w q vs) (hk : Kp S w w') (hs : vs.length = 0 ∨ ∀ b o, q = some ⟨b, o, none⟩ → ¬ S b) : ValsAt w' q vs := by
  rcases h with h | ⟨b, off, e, hl, h⟩
  · exact .inl h
  rcases hs with hs | hs
  · exact .inl hs
  · refine .inr ⟨b, off, e, by have := hk.size; omega, fun j hj => ?_⟩
    obtain ⟨h1, h2, h3⟩ := h j hj
    have hn := hs b off e
    exact ⟨by rw [hk.cell _ hl hn]; exact h1, by rw [hk.cell _ hl hn]; exact h2, by rw [hk.cell _ hl hn]; exact h3⟩
/-- Add's two boxes: the Acc's address, the row. -/
structure AdBx (w : World) (LA LV a : Nat) (vq : Option Addr) (vn vc : Nat) : Prop where
  ca : w.cell? ⟨LA, 0, none⟩ = some (.pointer (some ⟨a, 0, none⟩))
  cv : w.cell? ⟨LV, 0, none⟩ = some (.slice vq vn vc)
  la : LA < w.heap.size
  lv : LV < w.heap.size
theorem AdBx.on {w w' : World} {LA LV a : Nat} {vq : Option Addr} {vn vc : Nat} (h : AdBx w LA LV a vq vn vc) (hb : Below w.heap.size w w') : AdBx w' LA LV a vq vn vc :=
  ⟨by rw [hb.cell (p := ⟨LA, 0, none⟩) h.la]; exact h.ca, by rw [hb.cell (p := ⟨LV, 0, none⟩) h.lv]; exact h.cv, by have := hb.size; have := h.la; omega, by have := hb.size; have := h.lv; omega⟩
theorem AdBx.kp {S : Nat → Prop} {w w' : World} {LA LV a : Nat} {vq : Option Addr} {vn vc : Nat} (h : AdBx w LA LV a vq vn vc) (hk : Kp S w w') (h1 : ¬ S LA) (h2 : ¬ S LV) : AdBx w' LA LV a vq vn vc :=
  ⟨by rw [hk.cell 0 h.la h1]; exact h.ca, by rw [hk.cell 0 h.lv h2]; exact h.cv, by have := hk.size; have := h.la; omega, by have := hk.size; have := h.lv; omega⟩
theorem add_each (a : Nat) (q : Option Addr) (c : Nat) (rows : Int) (ps : List Pt) (vq : Option Addr) (vc : Nat) (vs : List V3) (LA LV : Nat) (w : World) (hA : AccAt w a (.slice q ps.length c) rows ps) (hn : ps.length ≤ 6) (hlen : vs.length = ps.length) (hv : ValsAt w vq vs) (hsz : SizedV vs) (hb : AdBx w LA LV a vq vs.length vc) (E : Int) (hE : fstE (List.zipWith ckPt ps vs) = E) :
    Calls Tryd.prog 20 #[.pointer (some ⟨a, 0, none⟩), .func (.func 21) #[] #[.pointer (some ⟨LV, 0, none⟩)]] w fun e w' => e = .returned (errV E) ∧ Aside (Below w.heap.size w w') := by
  have hzl : (List.zipWith ckPt ps vs).length = ps.length := by simp [hlen]
  refine (each_any 21 ent_add1 #[.pointer (some ⟨LV, 0, none⟩)] a q ps.length c (List.zipWith ckPt ps vs) hzl hn (fun _ W => Below w.heap.size w W) (fun W => Below w.heap.size w W) w (Below.refl _ _) (fun i W hW => (hA.on hW).cell1) (fun h0 => ?_) (fun g i W hi hq hW => ?_) (fun W hW => hW) E hE).mono fun e w' hh => ⟨hh.1, by have := hh.2.out; split at this <;> exact this⟩
  · obtain ⟨g, c', cur, e, _⟩ := hA.at h0
    injection e with e
    exact ⟨g, e⟩
  · have hi1 : i < ps.length := by omega
    have hi2 : i < vs.length := by omega
    obtain ⟨g', c', cur, e, hP⟩ := (hA.on hW).at hi1
    injection e with e
    rw [hq] at e
    injection e with e
    injection e with e
    subst e
    obtain ⟨pq, pc, hp⟩ := hP.part i hi1
    have := add1_any g i ps[i] pq pc LV vq vc vs W hp (hb.on hW).cv (hv.on hW) hi2 (by omega) hsz _ (zip_at hi1 hi2 hi).symm
    refine this.mono fun e w' hh => ⟨hh.1, ?_⟩
    have hB : Below w.heap.size w w' := hW.trans (hh.2.mono hW.size)
    show ite _ _ _
    split <;> exact hB
theorem add_take (a : Nat) (q : Option Addr) (c : Nat) (rows : Int) (ps : List Pt) (vq : Option Addr) (vc : Nat) (vs : List V3) (LA LV : Nat) (w : World) (hA : AccAt w a (.slice q ps.length c) rows ps) (hok : AccOk rows ps) (hlen : vs.length = ps.length) (hv : ValsAt w vq vs) (hsz : SizedV vs) (hvd : vs.length = 0 ∨ ∀ b o, vq = some ⟨b, o, none⟩ → ¬ accS a (.slice q ps.length c) b) (hb : AdBx w LA LV a vq vs.length vc) (hA1 : ¬ accS a (.slice q ps.length c) LA) (hA2 : ¬ accS a (.slice q ps.length c) LV) (hE : fstE (List.zipWith ckPt ps vs) = 0) :
    Calls Tryd.prog 23 #[.pointer (some ⟨a, 0, none⟩), .int .i64 1, .func (.func 24) #[] #[.pointer (some ⟨LA, 0, none⟩), .pointer (some ⟨LV, 0, none⟩)]] w fun e w' => e = .returned (.tuple #[]) ∧ Aside (AccAt w' a (.slice q ps.length c) (rows + 1) (adP ps vs)) ∧ Aside (Kp (accS a (.slice q ps.length c)) w w') := by
  have hck : ∀ i (h1 : i < ps.length) (h2 : i < vs.length), ckPt ps[i] vs[i] = 0 := fun i h1 h2 => by
    have hl : i < (List.zipWith ckPt ps vs).length := by simp; omega
    rw [← zip_at h1 h2 hl]
    exact fstE_zero hE _ (List.getElem_mem _)
  have hsm : ∀ i (h1 : i < ps.length) (h2 : i < vs.length), ps[i].wh = wLeast ∨ ps[i].wh = wMost → vs[i].2.2.size ≤ 281474976710656 := fun i h1 h2 hx => by
    have hc := hck i h1 h2
    unfold ckPt at hc
    rw [if_neg (by rcases hx with hx | hx <;> rw [hx] <;> decide)] at hc
    by_cases h3 : chk vs[i].1 vs[i].2.1 vs[i].2.2.data.toList = 0
    · have := chk_size h3
      simp at this
      omega
    · rw [if_pos h3] at hc; exact absurd hc h3
  unfold adP
  have h1 := hok.lo
  have h2 := hok.hi
  refine accTake_any 24 ent_add2 _ a _ rows 1 ps _ w hA hok.len (by omega) (by omega) (fun p hp => (hok.ok p hp).ok) (fun i hi => ?_) (fun i hi => ?_) (fun i W R hi hAW hKW => ?_)
  · have hi2 : i < vs.length := by omega
    rw [adO hi hi2]
    exact (oneP_ok (hok.ok _ (List.getElem_mem _)).ok (hck i hi hi2) (hsz _ (List.getElem_mem _)).2).ok
  · have hi2 : i < vs.length := by omega
    rw [adO hi hi2]
    exact (oneP_what _ _).2
  · have hi2 : i < vs.length := by omega
    simp only [adO hi hi2]
    have hit : i < (tkN ps (fun i => oneP (ps.getD i ⟨⟨#[]⟩, 0, [], noV⟩) (vs.getD i noV)) i).length := by rw [tkN_len]; exact hi
    obtain ⟨g, c', cur, e, hP⟩ := hAW.at hit
    obtain ⟨pq, pc, hp⟩ := hP.part i hit
    rw [tkN_at ps _ i i hi, if_neg (by omega)] at hp
    have hc1 := hAW.cell1
    rw [e, tkN_len] at hc1
    have hbW := hb.kp hKW hA1 hA2
    exact add2_any a g i ps.length c' ps[i] pq pc LA LV vq vc vs W hp (hok.ok _ (List.getElem_mem _)).ok.ag hbW.ca hc1 hbW.cv (hv.kp hKW hvd) hi2 hi (by have := hok.len; omega) hbW.la hbW.lv hAW.blk.lt (hsm i hi hi2)
set_option maxHeartbeats 4000000 in
set_option maxRecDepth 20000 in
theorem add_any (a : Nat) (v : Value) (rows : Int) (ps : List Pt) (vq : Option Addr) (vc : Nat) (vs : List V3) (w : World) (hA : AccAt w a v rows ps) (hok : AccOk rows ps) (hlim : rows + 1 ≤ 10000) (hv : ValsAt w vq vs) (hsz : SizedV vs) (hvl : vs.length ≤ maxLen) (hvd : vs.length = 0 ∨ ∀ b o, vq = some ⟨b, o, none⟩ → ¬ accS a v b) (E : Int) (hE : adE ps vs = E) :
    Calls Tryd.prog 9 #[.pointer (some ⟨a, 0, none⟩), .slice vq vs.length vc] w fun e w' => e = .returned (errV E) ∧ Aside (if E = 0 then AccAt w' a v (rows + 1) (adP ps vs) else AccAt w' a v rows ps) ∧ Aside (Kp (accS a v) w w') := by
  have hal := hA.blk.lt
  have hc1 := hA.cell1
  obtain ⟨q, c, rfl⟩ := hA.form
  obtain ⟨PST, hPST⟩ : ∃ PST : Ending → World → Prop, (fun (e : Ending) (w' : World) => e = .returned (errV E) ∧ Aside (if E = 0 then AccAt w' a (.slice q ps.length c) (rows + 1) (adP ps vs) else AccAt w' a (.slice q ps.length c) rows ps) ∧ Aside (Kp (accS a (.slice q ps.length c)) w w')) = PST := ⟨_, rfl⟩
  have HPE : Hid (∀ e w', (e = .returned (errV E) ∧ Aside (if E = 0 then AccAt w' a (.slice q ps.length c) (rows + 1) (adP ps vs) else AccAt w' a (.slice q ps.length c) rows ps) ∧ Aside (Kp (accS a (.slice q ps.length c)) w w')) → PST e w') := by
    intro e w' h
    rw [← hPST]
    exact h
  rw [hPST]
  clear hPST
  have B1 := al2 w (.cells #[.pointer (some ⟨a, 0, none⟩)] 32) (.cells #[.slice vq vs.length vc] 38)
  have d1 : ∀ o1 o2 : Obj, ((w.alloc o1).alloc o2).cell? ⟨a, 1, none⟩ = some (.slice q ps.length c) := fun o1 o2 => by rw [(al2 w o1 o2).cell (p := ⟨a, 1, none⟩) hal]; exact hc1
  have hmx : (vs.length : Int) ≤ 9223372036854775807 := by unfold maxLen at hvl; omega
  have hpx : (ps.length : Int) ≤ 6 := by have := hok.len; omega
  by_cases hlen : vs.length = ps.length
  · have hE2 : fstE (List.zipWith ckPt ps vs) = E := by rw [← hE, adE, if_neg (fun h => h hlen)]
    have HBX : Aside (AdBx ((w.alloc (.cells #[.pointer (some ⟨a, 0, none⟩)] 32)).alloc (.cells #[.slice vq vs.length vc] 38)) w.heap.size (w.heap.size + 1) a vq vs.length vc) := by
      refine ⟨?_, ?_, by simp; omega, by simp⟩
      · rw [((Below.refl _ _).alloc (B := (w.alloc (.cells #[.pointer (some ⟨a, 0, none⟩)] 32)).heap.size) (Nat.le_refl _) _).cell (p := ⟨w.heap.size, 0, none⟩) (by simp), World.cell?_alloc_at _ _ _ _ rfl]; rfl
      · rw [World.cell?_alloc_at _ _ _ _ (by simp)]; rfl
    have hn1 : ¬ accS a (.slice q ps.length c) w.heap.size := fun h => by have := hA.ownlt _ h; omega
    have hn2 : ¬ accS a (.slice q ps.length c) (w.heap.size + 1) := fun h => by have := hA.ownlt _ h; omega
    have cE := fun (W : World) (hW : Below w.heap.size w W) (hb : AdBx W w.heap.size (w.heap.size + 1) a vq vs.length vc) => add_each a q c rows ps vq vc vs w.heap.size (w.heap.size + 1) W (hA.on hW) hok.len hlen (hv.on hW) hsz hb E hE2
    have cT := fun (W : World) (hW : Below w.heap.size w W) (hb : AdBx W w.heap.size (w.heap.size + 1) a vq vs.length vc) (h0 : E = 0) => add_take a q c rows ps vq vc vs w.heap.size (w.heap.size + 1) W (hA.on hW) hok hlen (hv.on hW) hsz hvd hb hn1 hn2 (hE2.trans h0)
    have hne : ((ps.length : Int) != (ps.length : Int)) = false := by simp
    have HA : Aside _ := hA
    clear hE hE2 hv hsz hvd hok hA hc1 hn1 hn2
    rw [hlen] at HBX cE cT hmx ⊢
    clear hlen B1
    generalize ps.length = PN at *
    go_enter Tryd.func9, Tryd.ntmps9
    go_wp2
    go_quiet (fail)
    obtain ⟨W1, hW1⟩ : ∃ W1, ((w.alloc (.cells #[.pointer (some ⟨a, 0, none⟩)] 32)).alloc (.cells #[.slice vq PN vc] 38)).drewN nq = W1 := ⟨_, rfl⟩
    have BX1 : Aside (AdBx W1 w.heap.size (w.heap.size + 1) a vq PN vc) := by rw [← hW1]; exact HBX.out.on (below_drewN (Below.refl _ _) _)
    have BW1 : Aside (Below w.heap.size w W1) := by rw [← hW1]; exact below_drewN (al2 w _ _) _
    rw [hW1]
    clear hW1 HBX d1
    have e1 := BX1.out.ca
    have e2 := BX1.out.cv
    have cE1 := cE W1 BW1.out BX1.out
    clear cE
    by_cases hE0 : E = 0
    · have cT0 := fun W hW hb => cT W hW hb hE0
      have HE0 : Hid (E = 0) := hE0
      rw [hE0, show errV 0 = .nilIface from rfl] at cE1
      clear hE0 cT
      go_wp2_with fail
      refine cE1.mono ?_
      rintro e W2 ⟨rfl, B2⟩
      have BX2 := BX1.out.on B2.out
      have BW2 : Below w.heap.size w W2 := BW1.out.trans (B2.out.mono BW1.out.size)
      have e3 := BX2.ca
      have cT2 := cT0 W2 BW2 BX2
      have HBW2 : Aside _ := BW2
      clear cT0 cE1 e1 e2 BX2 BX1 BW1 B2 BW2
      go_wp2_with fail
      refine cT2.mono ?_
      rintro e W3 ⟨rfl, A3, K3⟩
      have K4 : Aside (Kp (accS a (.slice q PN c)) w W3) := (Kp.of_below HBW2.out).trans K3.out
      clear cT2 e3 K3
      go_wp2
      exact HPE.out _ _ ⟨by rw [HE0.out]; rfl, by rw [if_pos HE0.out]; exact A3, K4⟩
    · have hV : errV E = .iface 53 (.int .i64 E) := by rw [errV, if_neg hE0]
      rw [hV] at cE1
      have HV : Hid _ := hV
      have HE0 : Hid _ := hE0
      clear hV hE0 cT
      go_wp2_with fail
      refine cE1.mono ?_
      rintro e W2 ⟨rfl, B2⟩
      have BW2 : Aside (Below w.heap.size w W2) := BW1.out.trans (B2.out.mono BW1.out.size)
      clear cE1 e1 e2 BX1 BW1 B2
      go_wp2
      exact HPE.out _ _ ⟨by rw [HV.out]; rfl, by rw [if_neg HE0.out]; exact HA.out.on BW2.out, (show Aside _ from Kp.of_below BW2.out)⟩
  · have hE3 : E = 3 := by rw [← hE, adE, if_pos hlen]
    have hne : ((vs.length : Int) != (ps.length : Int)) = true := by simp; omega
    subst hE3
    have HA : Aside _ := hA
    clear hE hlen hv hsz hvd hok hA hc1
    generalize vs.length = VN at *
    generalize ps.length = PN at *
    go_enter Tryd.func9, Tryd.ntmps9
    go_wp2
    go_quiet (fail)
    go_wp2
    exact HPE.out _ _ ⟨rfl, by rw [if_neg (by decide)]; exact (HA.out.on (below_drewN B1 _)), (show Aside _ from Kp.of_below (below_drewN B1 _))⟩
end Go.Proofs.YtfonalmgdjboeaaDoor
namespace Go.Proofs.YtfonalmgdjboeaaDoor
open Go.RowKit
set_option linter.unusedVariables false

theorem ent_alike : ∀ (args : Array Value) (W : World), Sem.run Tryd.prog (callFunc 27 args) W = .ok (.enter 27 args) W := fun args W => by kernel_rfl
theorem ent_join : ∀ (args : Array Value) (W : World), Sem.run Tryd.prog (callFunc 28 args) W = .ok (.enter 28 args) W := fun args W => by kernel_rfl
theorem PartIs.range {w : World} {b off : Nat} {p : Pt} {q : Option Addr} {c : Nat} (h : PartIs w b off p q c) : w.rangeAt b off [.string p.what, .int .i64 p.kind, .slice q p.ws.length c, .int .i64 p.best.1, .int .i64 p.best.2.1, .string p.best.2.2] := fun j v hv => by
  match j, hv with
  | 0, hv => rw [Nat.add_zero, h.c0]; exact hv
  | 1, hv => rw [h.c1]; exact hv
  | 2, hv => rw [h.c2]; exact hv
  | 3, hv => rw [h.c3]; exact hv
  | 4, hv => rw [h.c4]; exact hv
  | 5, hv => rw [h.c5]; exact hv
  | j + 6, hv => simp at hv
/-- Two lists of parts are alike. -/
def AlikeL (ps os : List Pt) : Prop := ps.length = os.length ∧ ∀ i (h1 : i < ps.length) (h2 : i < os.length), ps[i].what = os[i].what ∧ ps[i].kind = os[i].kind
set_option maxHeartbeats 4000000 in
set_option maxRecDepth 20000 in
theorem eqParts_any (u v : Value) (ps os : List Pt) (w : World)
    (hu : (ps = [] ∧ u = .slice none 0 0) ∨ ∃ g c cur, u = .slice (some ⟨g, 0, none⟩) ps.length c ∧ PtsAt w g cur ps) (hv : (os = [] ∧ v = .slice none 0 0) ∨ ∃ g c cur, v = .slice (some ⟨g, 0, none⟩) os.length c ∧ PtsAt w g cur os) (hn : ps.length ≤ 6) (hal : AlikeL ps os) :
    Calls Tryd.prog 26 #[u, v, .func (.func 27) #[] #[]] w fun e w' => e = .returned (.bool true) ∧ Below w.heap.size w w' := by
  have HU : Aside _ := hu
  have HV : Aside _ := hv
  obtain ⟨p, c, rfl⟩ : ∃ p c, u = .slice p ps.length c := by
    rcases hu with ⟨rfl, e⟩ | ⟨g, c, cur, e, _⟩
    · exact ⟨_, _, e⟩
    · exact ⟨_, _, e⟩
  obtain ⟨q, d, rfl⟩ : ∃ p c, v = .slice p os.length c := by
    rcases hv with ⟨rfl, e⟩ | ⟨g, c, cur, e, _⟩
    · exact ⟨_, _, e⟩
    · exact ⟨_, _, e⟩
  obtain ⟨hl, hal⟩ := hal
  have HAL : Aside _ := hal
  obtain ⟨N, hN⟩ : ∃ N, ps.length = N := ⟨_, rfl⟩
  have HN : Hid (ps.length = N) := hN
  have HM : Hid (os.length = N) := by show _ = _; rw [← hl, hN]
  rw [HM.out] at HV ⊢
  rw [hN] at HU hn ⊢
  have qn : ((N : Int) != (N : Int)) = false := by simp
  clear hu hv hal hl hN
  go_enter Tryd.func26, Tryd.ntmps26
  go_wp2
  go_loopg [7, 17] N (fun gg _ s17 wr => ∃ kk : Nat, kk ≤ N ∧ N - kk ≤ gg ∧ s17 = .int .i64 kk ∧ Aside (Below w.heap.size w wr))
  case atStart => exact ⟨0, Nat.zero_le _, by omega, rfl, (show Aside _ from Below.refl _ _)⟩
  case round =>
    obtain ⟨kk, hkk, hg, rfl, BW⟩ := hrel
    by_cases hlt : kk < N
    · have hltz : (kk : Int) < (N : Int) := by omega
      have h0z : (0 : Int) ≤ (kk : Int) := by omega
      have hk1 : kk < ps.length := by rw [HN.out]; exact hlt
      have hk2 : kk < os.length := by rw [HM.out]; exact hlt
      obtain ⟨g1, c1, cur1, e1, P1⟩ := HU.out.resolve_left (fun h => by rw [h.1] at hk1; simp at hk1)
      obtain ⟨g2, c2, cur2, e2, P2⟩ := HV.out.resolve_left (fun h => by rw [h.1] at hk2; simp at hk2)
      injection e1 with e1 e1b e1c
      injection e2 with e2 e2b e2c
      subst e1 e2 e1c e2c
      clear e1b e2b
      obtain ⟨q1, d1, r1⟩ := P1.part kk hk1
      obtain ⟨q2, d2, r2⟩ := P2.part kk hk2
      have hra := (r1.on BW.out).range
      have lb2 : g2 < w.heap.size := r2.lt
      have r2' := r2.on BW.out
      obtain ⟨a1, a2⟩ := HAL.out kk hk1 hk2
      clear P1 P2 r1 r2
      generalize ps[kk] = x at *
      generalize os[kk] = y at *
      obtain ⟨xw, xk, xs, ⟨xt, xn, xb⟩⟩ := x
      obtain ⟨yw, yk, ys, ⟨yt, yn, yb⟩⟩ := y
      simp only at *
      subst a1 a2
      generalize xs.length = N1 at *
      have hld1 : ∀ {ops : Array Oper} {rest : List Oper} {op' : Oper} {a : Act} {Q : Exit → Act → World → Prop} (hgd : op'.guard = none) (x : Operand) (ho : op'.op = .load 60 x) (hx : a.eval x = .pointer (some ⟨g1, kk * 6, none⟩)), wpList Tryd.prog ops Q rest (a.put op'.dst (.agg #[.string xw, .int .i64 xk, .slice q1 N1 d1, .int .i64 xt, .int .i64 xn, .string xb])) wr → wpList Tryd.prog ops Q (op' :: rest) a wr := fun hgd x ho hx => wpList_load_mid hgd 60 x ho g1 (kk * 6) hx _ _ hra Tryd.underlying60 rfl size_partB
      have bB := alB wr (.cells #[.string xw, .int .i64 xk, .slice q1 N1 d1, .int .i64 xt, .int .i64 xn, .string xb] 60)
      have hrb2 := (r2'.on bB).range
      simp only at hrb2
      clear r2'
      generalize ys.length = N2 at *
      have hld2 : ∀ {ops : Array Oper} {rest : List Oper} {op' : Oper} {a : Act} {Q : Exit → Act → World → Prop} (hgd : op'.guard = none) (x : Operand) (ho : op'.op = .load 60 x) (hx : a.eval x = .pointer (some ⟨g2, kk * 6, none⟩)), wpList Tryd.prog ops Q rest (a.put op'.dst (.agg #[.string xw, .int .i64 xk, .slice q2 N2 d2, .int .i64 yt, .int .i64 yn, .string yb])) (wr.alloc (.cells #[.string xw, .int .i64 xk, .slice q1 N1 d1, .int .i64 xt, .int .i64 xn, .string xb] 60)) → wpList Tryd.prog ops Q (op' :: rest) a (wr.alloc (.cells #[.string xw, .int .i64 xk, .slice q1 N1 d1, .int .i64 xt, .int .i64 xn, .string xb] 60)) := fun hgd x ho hx => wpList_load_mid hgd 60 x ho g2 (kk * 6) hx _ _ hrb2 Tryd.underlying60 rfl size_partB
      have bC : Below wr.heap.size wr ((wr.alloc (.cells #[.string xw, .int .i64 xk, .slice q1 N1 d1, .int .i64 xt, .int .i64 xn, .string xb] 60)).alloc (.cells #[.string xw, .int .i64 xk, .slice q2 N2 d2, .int .i64 yt, .int .i64 yn, .string yb] 60)) := bB.alloc (by simp) _
      have cS := alike_any xw xk q1 N1 d1 xt xn xb xw xk q2 N2 d2 yt yn yb ((wr.alloc (.cells #[.string xw, .int .i64 xk, .slice q1 N1 d1, .int .i64 xt, .int .i64 xn, .string xb] 60)).alloc (.cells #[.string xw, .int .i64 xk, .slice q2 N2 d2, .int .i64 yt, .int .i64 yn, .string yb] 60))
      rw [show ((xw.toList == xw.toList) && (xk == xk)) = true by simp] at cS
      clear hra hrb2
      go_wp2_with (first | (refine hld1 rfl _ rfl rfl ?_) | (refine hld2 rfl _ rfl rfl ?_))
      refine cS.mono ?_
      rintro e w1 ⟨rfl, b1⟩
      have B1 : Aside (Below w.heap.size w w1) := BW.out.trans ((bC.trans (b1.mono bC.size)).mono BW.out.size)
      clear hld1 hld2 cS BW b1 bC bB
      go_wp2
      go_roundg (N - (kk + 1))
      case measure => omega
      case rel => exact ⟨kk + 1, by omega, by omega, by go_num, B1⟩
    · have hltz : ¬ (kk : Int) < (N : Int) := by omega
      go_wp2
      go_ret
      exact ⟨rfl, BW.out⟩
set_option maxHeartbeats 4000000 in
set_option maxRecDepth 20000 in
theorem join1_any (b g i n : Nat) (c : Nat) (p : Pt) (q : Option Addr) (pc : Nat) (LO : Nat) (w : World) (hp : PartIs w g (i * 6) p q pc) (hLO : w.cell? ⟨LO, 0, none⟩ = some (.pointer (some ⟨b, 0, none⟩))) (hb : w.cell? ⟨b, 1, none⟩ = some (.slice (some ⟨g, 0, none⟩) n c)) (hin : i < n) (hn : n ≤ 6) (hl1 : LO < w.heap.size) (hl3 : b < w.heap.size) :
    Calls Tryd.prog 28 #[.int .i64 (i : Int), .pointer (some ⟨LO, 0, none⟩)] w fun e w' => (∃ q c, e = .returned (.agg #[.string p.what, .int .i64 p.kind, .slice q p.ws.length c, .int .i64 p.best.1, .int .i64 p.best.2.1, .string p.best.2.2]) ∧ Aside (TotA w' (.slice q p.ws.length c) p.ws)) ∧ Below w.heap.size w w' := by
  have b1 := alB w (.cells #[.string ⟨#[]⟩, .int .i64 0, .slice none 0 0, .int .i64 0, .int .i64 0, .string ⟨#[]⟩] 60)
  have p1 := hp.on b1
  have hr := p1.range
  have T1 : Aside (TotA (w.alloc (.cells #[.string ⟨#[]⟩, .int .i64 0, .slice none 0 0, .int .i64 0, .int .i64 0, .string ⟨#[]⟩] 60)) (.slice q p.ws.length pc) p.ws) := p1.tot
  have P0 := blk_alloc w #[.string ⟨#[]⟩, .int .i64 0, .slice none 0 0, .int .i64 0, .int .i64 0, .string ⟨#[]⟩] 60
  have hlt2 : (i : Int) < (n : Int) := by omega
  have h0z : (0 : Int) ≤ (i : Int) := by omega
  have hn6 : (i : Int) ≤ 6 := by omega
  have d0 : ∀ o1 : Obj, (w.alloc o1).cell? ⟨LO, 0, none⟩ = some (.pointer (some ⟨b, 0, none⟩)) := fun o1 => by rw [(alB w o1).cell (p := ⟨LO, 0, none⟩) hl1]; exact hLO
  have d2 : ∀ o1 : Obj, (w.alloc o1).cell? ⟨b, 1, none⟩ = some (.slice (some ⟨g, 0, none⟩) n c) := fun o1 => by rw [(alB w o1).cell (p := ⟨b, 1, none⟩) hl3]; exact hb
  clear hp p1 hLO hb
  obtain ⟨ox, okd, ows, ⟨ot, on, os⟩⟩ := p
  simp only at *
  generalize ows.length = ol at hr T1 ⊢
  go_enter Tryd.func28, Tryd.ntmps28
  go_wp2_with (first
    | (refine wpList_load_mid rfl 60 _ rfl g (i * 6) rfl _ _ hr Tryd.underlying60 rfl size_partB ?_)
    | (refine wpList_store_blk rfl 60 _ _ rfl w.heap.size 0 #[.string ox, .int .i64 okd, .slice q ol pc, .int .i64 ot, .int .i64 on, .string os] rfl rfl _ _ P0 (by simp) size_partB (one_p6 _ _ _ _ _ _ _ _) ?_; intro W3 P5 K5))
  have P6 : Blk W3 w.heap.size #[.string ox, .int .i64 okd, .slice q ol pc, .int .i64 ot, .int .i64 on, .string os] 60 := by simpa only [putA, List.setIfInBounds_toArray, List.set_cons_zero, List.set_cons_succ, Nat.reduceAdd] using P5
  have c0 := P6.cell 0
  have c1 := P6.cell 1
  have c2 := P6.cell 2
  have c3 := P6.cell 3
  have c4 := P6.cell 4
  have c5 := P6.cell 5
  simp at c0 c1 c2 c3 c4 c5
  exact bodyPost_ret (v := .agg #[.string ox, .int .i64 okd, .slice q ol pc, .int .i64 ot, .int .i64 on, .string os]) (by simp [results, Tryd.results28, go_sem, c0, c1, c2, c3, c4, c5]) rfl ⟨⟨q, pc, rfl, (show Aside _ from tot_kp P0 T1.out (Kp.of_but (S := (· = w.heap.size)) K5 rfl))⟩, b1.trans K5.below⟩
def jnP (ps os : List Pt) : List Pt := tkN ps (fun i => os.getD i ⟨⟨#[]⟩, 0, [], noV⟩) ps.length
/-- Of one that has no rows nothing is taken. -/
def jnQ (m : Int) (ps os : List Pt) : List Pt := if m = 0 then ps else jnP ps os
theorem jnO {os : List Pt} {i : Nat} (h : i < os.length) : os.getD i ⟨⟨#[]⟩, 0, [], noV⟩ = os[i] := by
  rw [List.getD_eq_getElem?_getD, List.getElem?_eq_getElem h]; rfl
theorem join_take (a : Nat) (v : Value) (rows : Int) (ps : List Pt) (b : Nat) (v2 : Value) (m : Int) (os : List Pt) (LO : Nat) (w : World) (hA : AccAt w a v rows ps) (hok : AccOk rows ps) (hB : AccAt w b v2 m os) (hok2 : AccOk m os) (hal : AlikeL ps os) (hd : ∀ k, accS b v2 k → ¬ accS a v k) (hLO : w.cell? ⟨LO, 0, none⟩ = some (.pointer (some ⟨b, 0, none⟩))) (hl : LO < w.heap.size) (hnl : ¬ accS a v LO) :
    Calls Tryd.prog 23 #[.pointer (some ⟨a, 0, none⟩), .int .i64 m, .func (.func 28) #[] #[.pointer (some ⟨LO, 0, none⟩)]] w fun e w' => e = .returned (.tuple #[]) ∧ Aside (AccAt w' a v (rows + m) (jnQ m ps os)) ∧ Aside (Kp (accS a v) w w') := by
  by_cases hm0 : m = 0
  · subst hm0
    refine (accTake_none _ a w).mono fun e w' hh => ?_
    obtain ⟨h1, rfl⟩ := hh
    exact ⟨h1, (show Aside _ by rw [jnQ, if_pos rfl, Int.add_zero]; exact hA), (show Aside _ from Kp.refl _ _)⟩
  rw [jnQ, if_neg hm0]
  unfold jnP
  have h1 := hok.lo
  have h2 := hok.hi
  have h3 := hok2.lo
  have h4 := hok2.hi
  have hlen := hal.1
  refine accTake_any 28 ent_join _ a _ rows m ps _ w hA hok.len (by omega) (by omega) (fun p hp => (hok.ok p hp).ok) (fun i hi => ?_) (fun i hi => ?_) (fun i W R hi hAW hKW => ?_)
  · rw [jnO (by omega)]
    exact (hok2.ok _ (List.getElem_mem _)).ok
  · rw [jnO (by omega)]
    exact (hal.2 i hi (by omega)).2.symm
  · have hi2 : i < os.length := by omega
    simp only [jnO hi2]
    have hBW := hB.keep hKW hd hA.nou
    obtain ⟨g, c', cur, e, hP⟩ := hBW.at hi2
    obtain ⟨pq, pc, hp⟩ := hP.part i hi2
    have hc1 := hBW.cell1
    rw [e] at hc1
    exact join1_any b g i os.length c' os[i] pq pc LO W hp (by rw [hKW.cell 0 hl hnl]; exact hLO) hc1 hi2 (by have := hok2.len; omega) (by have := hKW.size; omega) hBW.blk.lt
set_option maxHeartbeats 4000000 in
set_option maxRecDepth 20000 in
theorem join_any (a : Nat) (v : Value) (rows : Int) (ps : List Pt) (b : Nat) (v2 : Value) (m : Int) (os : List Pt) (w : World) (hA : AccAt w a v rows ps) (hok : AccOk rows ps) (hB : AccAt w b v2 m os) (hok2 : AccOk m os) (hal : AlikeL ps os) (hd : ∀ k, accS b v2 k → ¬ accS a v k) :
    Calls Tryd.prog 10 #[.pointer (some ⟨a, 0, none⟩), .pointer (some ⟨b, 0, none⟩)] w fun e w' => e = .returned .nilIface ∧ Aside (AccAt w' a v (rows + m) (jnQ m ps os)) ∧ Aside (Kp (accS a v) w w') := by
  have hal1 := hA.blk.lt
  have hbl := hB.blk.lt
  have ha1 := hA.cell1
  have hb1 := hB.cell1
  have hb0 := hB.cell0
  have hn1 : ¬ accS a v w.heap.size := fun h => by have := hA.ownlt _ h; omega
  have cQ := fun (W : World) (hW : Below w.heap.size w W) => eqParts_any v v2 ps os W (hA.on hW).pts (hB.on hW).pts hok.len hal
  have cT := fun (W : World) (hW : Below w.heap.size w W) (h1 : W.cell? ⟨w.heap.size, 0, none⟩ = some (.pointer (some ⟨b, 0, none⟩))) (h2 : w.heap.size < W.heap.size) => join_take a v rows ps b v2 m os w.heap.size W (hA.on hW) hok (hB.on hW) hok2 hal hd h1 h2 hn1
  obtain ⟨q, c, rfl⟩ := hA.form
  obtain ⟨q2, c2, rfl⟩ := hB.form
  have d1 : ∀ o1 : Obj, (w.alloc o1).cell? ⟨a, 1, none⟩ = some (.slice q ps.length c) := fun o1 => by rw [(alB w o1).cell (p := ⟨a, 1, none⟩) hal1]; exact ha1
  have d2 : ∀ o1 : Obj, (w.alloc o1).cell? ⟨b, 1, none⟩ = some (.slice q2 os.length c2) := fun o1 => by rw [(alB w o1).cell (p := ⟨b, 1, none⟩) hbl]; exact hb1
  clear hA hB hok hok2 hal hd hn1 ha1 hb1
  generalize ps.length = PN at *
  generalize os.length = ON at *
  go_enter Tryd.func10, Tryd.ntmps10
  go_wp2
  go_region_with (go_at_call 26; refine (cQ _ (Below.drew (alB w _))).mono ?_; rintro e w2 ⟨rfl, B2⟩; have B3 : Below w.heap.size w w2 := (Below.drew (alB w _)).trans (B2.mono (by simp)); obtain ⟨k1, k2, k3⟩ := box_at w _ _ ((Below.drew (Below.refl _ _)).trans B2) (by simp); have f0 := k1 0; simp at f0; have f1 : w2.cell? ⟨b, 0, none⟩ = some (.int .i64 m) := by rw [B3.cell (p := ⟨b, 0, none⟩) hbl]; exact hb0)
  all_goals
    have cT2 := cT w2 B3 f0 k3
    have HB3 : Aside _ := B3
    clear cT cQ B2 B3 k1 k2
    go_wp2_with fail
    refine cT2.mono ?_
    rintro e w3 ⟨rfl, A3, K3⟩
    have K4 : Aside (Kp (accS a (.slice q PN c)) w w3) := (Kp.of_below HB3.out).trans K3.out
    clear cT2 K3
    go_wp2
    go_ret
    exact ⟨rfl, A3, K4⟩
end Go.Proofs.YtfonalmgdjboeaaDoor
namespace Go.Proofs.YtfonalmgdjboeaaDoor
open Go.RowKit

theorem lown_slice {W : World} {base : Nat} {e : TypeId} {size : Nat} {v : Value} {n : Nat} {xs : List Value} (h : W.ownsRow base e size v n xs) : ∃ p c, v = .slice p n c := by
  rcases h.2 with ⟨rfl, rfl⟩ | ⟨g, cap, cur, rfl, _⟩
  · exact ⟨_, _, rfl⟩
  · exact ⟨_, _, rfl⟩
theorem lown_below {W W' : World} {base : Nat} {e : TypeId} {size : Nat} {v : Value} {n : Nat} {xs : List Value} (h : W.ownsRow base e size v n xs) (hb : Below W.heap.size W W') : W'.ownsRow base e size v n xs := by
  refine ⟨h.1, ?_⟩
  rcases h.2 with hn | ⟨g, cap, cur, rfl, h1, hgg, rest⟩
  · exact .inl hn
  · exact .inr ⟨g, cap, cur, rfl, h1, by rw [hb.block g (Array.getElem?_eq_some_iff.1 hgg).1]; exact hgg, rest⟩
end Go.Proofs.YtfonalmgdjboeaaDoor
