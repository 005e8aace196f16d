/-
  AgG, AgOp, in one text.
-/
import Derived.Test.YtckonjacccfmmaaDoorGrAf
import Derived.Test.YtckonjacccfmmaaDoorRows
import Derived.Deep.Strs
import Derived.Deep.Slices
import Derived.OpenShut
import Derived.Carry
import Derived.ProofKit
namespace Go.Proofs.YtckonjacccfmmaaDoor
open Go.RowKit
set_option linter.unusedVariables false

/-- An Acc that knows just these rows. -/
def AcAt (W : World) (a : Nat) (v : Value) (ps0 : List Pt) (rs : List (List V3)) : Prop := ∃ ps, AccAt W a v (rs.length : Int) ps ∧ Acu ps0 rs ps
theorem AcAt.on {W W' : World} {a : Nat} {v : Value} {ps0 : List Pt} {rs : List (List V3)} (h : AcAt W a v ps0 rs) (hb : Below W.heap.size W W') : AcAt W' a v ps0 rs := by
  obtain ⟨ps, h1, h2⟩ := h
  exact ⟨ps, h1.on hb, h2⟩
theorem AcAt.lt {W : World} {a : Nat} {v : Value} {ps0 : List Pt} {rs : List (List V3)} (h : AcAt W a v ps0 rs) : ∀ k, accS a v k → k < W.heap.size := by
  obtain ⟨ps, h1, h2⟩ := h
  exact h1.ownlt
theorem AcAt.keep {W W' : World} {a b : Nat} {v u : Value} {ps0 qs0 : List Pt} {rs us : List (List V3)} (h : AcAt W a v ps0 rs) (hb : AcAt W b u qs0 us) (hk : Kp (accS b u) W W') (hd : ∀ k, accS a v k → ¬ accS b u k) : AcAt W' a v ps0 rs := by
  obtain ⟨ps, h1, h2⟩ := h
  obtain ⟨qs, k1, k2⟩ := hb
  exact ⟨ps, h1.keep hk hd k1.nou, h2⟩
/-- The rows behind a row more. -/
def gdR (ps0 : List Pt) (rs : List (List V3)) (vs : List V3) : List (List V3) := if adE ps0 vs = 0 then rs ++ [vs] else rs
theorem add_c (a : Nat) (v : Value) (ps0 : List Pt) (rs : List (List V3)) (vq : Option Addr) (vc : Nat) (vs : List V3) (W : World) (h : AcAt W a v ps0 rs) (hl : rs.length + 1 ≤ 10000) (hv : ValsAt W vq vs) (hsz : SizedV vs) (hvl : vs.length ≤ maxLen) (hvd : vs.length = 0 ∨ ∀ b o, vq = some ⟨b, o, none⟩ → ¬ accS a v b) :
    Calls Tryd.prog 9 #[.pointer (some ⟨a, 0, none⟩), .slice vq vs.length vc] W fun e w' => e = .returned (errV (adE ps0 vs)) ∧ AcAt w' a v ps0 (gdR ps0 rs vs) ∧ Kp (accS a v) W w' := by
  obtain ⟨ps, h1, h2⟩ := h
  have := add_any a v (rs.length : Int) ps vq vc vs W h1 h2.ok (by omega) hv hsz hvl hvd (adE ps0 vs) (adE_alike h2.al vs)
  refine this.mono fun e w' hh => ⟨hh.1, ?_, hh.2.2.out⟩
  have hA := hh.2.1.out
  unfold gdR
  by_cases hE : adE ps0 vs = 0
  · rw [if_pos hE] at hA ⊢
    exact ⟨_, by simpa using hA, h2.add hE hsz hl⟩
  · rw [if_neg hE] at hA ⊢
    exact ⟨_, hA, h2⟩
theorem join_c (a : Nat) (v : Value) (b : Nat) (u : Value) (ps0 : List Pt) (rs us : List (List V3)) (W : World) (h : AcAt W a v ps0 rs) (k : AcAt W b u ps0 us) (hl : rs.length + us.length ≤ 10000) (hd : ∀ k, accS b u k → ¬ accS a v k) :
    Calls Tryd.prog 10 #[.pointer (some ⟨a, 0, none⟩), .pointer (some ⟨b, 0, none⟩)] W fun e w' => e = .returned .nilIface ∧ AcAt w' a v ps0 (rs ++ us) ∧ Kp (accS a v) W w' := by
  obtain ⟨ps, h1, h2⟩ := h
  obtain ⟨qs, k1, k2⟩ := k
  refine (join_any a v (rs.length : Int) ps b u (us.length : Int) qs W h1 h2.ok k1 k2.ok (h2.al.trans k2.al.symm) hd).mono fun e w' hh => ⟨hh.1, ⟨_, ?_, h2.join k2 hl⟩, hh.2.2.out⟩
  have hA := hh.2.1.out
  rw [show ((rs ++ us).length : Int) = (rs.length : Int) + (us.length : Int) by simp]
  exact hA
theorem count_c (a : Nat) (v : Value) (ps0 : List Pt) (rs : List (List V3)) (W : World) (h : AcAt W a v ps0 rs) :
    Calls Tryd.prog 14 #[.pointer (some ⟨a, 0, none⟩)] W fun e w' => e = .returned (.int .i64 (rs.length : Int)) ∧ w' = W := by
  obtain ⟨ps, h1, h2⟩ := h
  exact count_any' a v _ ps W h1
/-- What is told of rows: an error, or values. -/
def tellE (ps : List Pt) (rs : List (List V3)) : Int := reE ps (rs.length : Int)
theorem result_c (a : Nat) (v : Value) (ps0 : List Pt) (rs : List (List V3)) (W : World) (h : AcAt W a v ps0 rs) : ∃ ps, Acu ps0 rs ps ∧
    ((reE ps (rs.length : Int) = 0 ∧ Calls Tryd.prog 12 #[.pointer (some ⟨a, 0, none⟩)] W fun e w' => (∃ q c, e = .returned (.tuple #[.slice q (reV ps (rs.length : Int)).length c, .nilIface]) ∧ ValsAt w' q (reV ps (rs.length : Int))) ∧ Below W.heap.size W w') ∨
     (reE ps (rs.length : Int) ≠ 0 ∧ Calls Tryd.prog 12 #[.pointer (some ⟨a, 0, none⟩)] W fun e w' => e = .returned (.tuple #[.slice none 0 0, .iface 53 (.int .i64 (reE ps (rs.length : Int)))]) ∧ Below W.heap.size W w')) := by
  obtain ⟨ps, h1, h2⟩ := h
  refine ⟨ps, h2, ?_⟩
  by_cases hE : reE ps (rs.length : Int) = 0
  · refine .inl ⟨hE, (result_ok a v _ ps W h1 h2.ok hE).mono fun e w' hh => ?_⟩
    obtain ⟨⟨q, c, e1, e2, _⟩, e3⟩ := hh
    exact ⟨⟨q, c, e1, e2.out⟩, e3.out⟩
  · exact .inr ⟨hE, (result_bad a v _ ps W h1 h2.ok _ rfl hE).mono fun e w' hh => ⟨hh.1, hh.2.out⟩⟩
theorem new_c (ap : Option Addr) (ac : Nat) (xs : List ByteArray) (tp : Option Addr) (tc : Nat) (ts : List Int) (W : World) (henv : AEnv W) (ha : AgsW W ap xs) (ht : IntW W tp ts) (hx : xs.length ≤ maxLen) (htl : ts.length ≤ maxLen) (hE : nwE xs ts = 0) :
    Calls Tryd.prog 6 #[.slice ap xs.length ac, .slice tp ts.length tc] W fun e w' => ∃ a v, e = .returned (.tuple #[.pointer (some ⟨a, 0, none⟩), .nilIface]) ∧ AcAt w' a v (nwP xs ts) [] ∧ (∀ k, accS a v k → W.heap.size ≤ k) ∧ Below W.heap.size W w' :=
  (new_ok ap ac xs tp tc ts W henv ha ht hx htl hE).mono fun e w' hh => by
    obtain ⟨v, e1, e2, e3, e4⟩ := hh
    exact ⟨_, v, e1, ⟨_, by simpa using e2.out, Acu.new hE⟩, e3.out, e4.out⟩
/-- Two that know the same rows tell the same. -/
theorem tell_same {ps0 ps os : List Pt} {rs us : List (List V3)} (h : Acu ps0 rs ps) (k : Acu ps0 us os) (hp : rs.Perm us) : reE ps (rs.length : Int) = reE os (us.length : Int) ∧ reV ps (rs.length : Int) = reV os (us.length : Int) := by
  have := h.same k hp (rs.length : Int)
  have hl : us.length = rs.length := hp.length_eq.symm
  rw [hl]
  refine ⟨?_, ?_⟩
  · unfold reE
    have := congrArg (List.map Prod.snd) this
    simpa [List.map_map, Function.comp_def] using congrArg fstE this
  · unfold reV
    have := congrArg (List.map Prod.fst) this
    simpa [List.map_map, Function.comp_def] using this
/-- Accs side by side, none of which lies in another one's blocks. -/
structure Accs (n : Nat) (w W : World) (ps0 : List Pt) (A : Nat → Nat) (V : Nat → Value) (R : Nat → List (List V3)) : Prop where
  below : Below w.heap.size w W
  at_ : ∀ j, j < n → AcAt W (A j) (V j) ps0 (R j)
  dj : ∀ i j, i < n → j < n → i ≠ j → ∀ k, accS (A i) (V i) k → ¬ accS (A j) (V j) k
  el : ∀ j, j < n → ∀ k, accS (A j) (V j) k → w.heap.size ≤ k
def updR (R : Nat → List (List V3)) (j : Nat) (rs : List (List V3)) (i : Nat) : List (List V3) := if i = j then rs else R i
theorem Accs.on {n : Nat} {w W W' : World} {ps0 : List Pt} {A : Nat → Nat} {V : Nat → Value} {R : Nat → List (List V3)} (h : Accs n w W ps0 A V R) (hb : Below W.heap.size W W') : Accs n w W' ps0 A V R :=
  ⟨h.below.trans (hb.mono h.below.size), fun j hj => (h.at_ j hj).on hb, h.dj, h.el⟩
theorem Accs.upd {n : Nat} {w W W' : World} {ps0 : List Pt} {A : Nat → Nat} {V : Nat → Value} {R : Nat → List (List V3)} (h : Accs n w W ps0 A V R) {j : Nat} (hj : j < n) {rs : List (List V3)} (ha : AcAt W' (A j) (V j) ps0 rs) (hk : Kp (accS (A j) (V j)) W W') : Accs n w W' ps0 A V (updR R j rs) := by
  refine ⟨h.below.trans (hk.below h.below.size (fun k hk' hs => by have := h.el j hj k hs; omega)), fun i hi => ?_, h.dj, h.el⟩
  unfold updR
  by_cases hij : i = j
  · subst hij; rw [if_pos rfl]; exact ha
  · rw [if_neg hij]
    exact (h.at_ i hi).keep (h.at_ j hj) hk (h.dj i j hi hj hij)
theorem accs_add {n : Nat} {w W : World} {ps0 : List Pt} {A : Nat → Nat} {V : Nat → Value} {R : Nat → List (List V3)} (h : Accs n w W ps0 A V R) (j : Nat) (hj : j < n) (vq : Option Addr) (vc : Nat) (vs : List V3) (hl : (R j).length + 1 ≤ 10000) (hv : ValsAt W vq vs) (hsz : SizedV vs) (hvl : vs.length ≤ maxLen) (hvd : vs.length = 0 ∨ ∀ b o, vq = some ⟨b, o, none⟩ → ¬ accS (A j) (V j) b) :
    Calls Tryd.prog 9 #[.pointer (some ⟨A j, 0, none⟩), .slice vq vs.length vc] W fun e w' => e = .returned (errV (adE ps0 vs)) ∧ Aside (Accs n w w' ps0 A V (updR R j (gdR ps0 (R j) vs))) :=
  (add_c (A j) (V j) ps0 (R j) vq vc vs W (h.at_ j hj) hl hv hsz hvl hvd).mono fun e w' hh => ⟨hh.1, h.upd hj hh.2.1 hh.2.2⟩
theorem accs_join {n : Nat} {w W : World} {ps0 : List Pt} {A : Nat → Nat} {V : Nat → Value} {R : Nat → List (List V3)} (h : Accs n w W ps0 A V R) (i j : Nat) (hi : i < n) (hj : j < n) (hij : i ≠ j) (hl : (R i).length + (R j).length ≤ 10000) :
    Calls Tryd.prog 10 #[.pointer (some ⟨A i, 0, none⟩), .pointer (some ⟨A j, 0, none⟩)] W fun e w' => e = .returned .nilIface ∧ Aside (Accs n w w' ps0 A V (updR R i (R i ++ R j))) :=
  (join_c (A i) (V i) (A j) (V j) ps0 (R i) (R j) W (h.at_ i hi) (h.at_ j hj) hl (h.dj j i hj hi (fun e => hij e.symm))).mono fun e w' hh => ⟨hh.1, h.upd hi hh.2.1 hh.2.2⟩
/-- Rows one behind the other, of values one behind the other. -/
def RowsAt (w : World) (p : Option Addr) (rws : List (List V3)) : Prop := rws.length = 0 ∨ ∃ b off, p = some ⟨b, off, none⟩ ∧ b < w.heap.size ∧ ∀ j (h : j < rws.length), ∃ q c, w.cell? ⟨b, off + j, none⟩ = some (.slice q rws[j].length c) ∧ ValsAt w q rws[j] ∧ (rws[j].length = 0 ∨ ∀ g o, q = some ⟨g, o, none⟩ → g < w.heap.size)
theorem Accs.rows {n : Nat} {w W : World} {ps0 : List Pt} {A : Nat → Nat} {V : Nat → Value} {R : Nat → List (List V3)} (h : Accs n w W ps0 A V R) {p : Option Addr} {rws : List (List V3)} (hr : RowsAt w p rws) {j : Nat} (hj : j < rws.length) : ∃ b off q c, p = some ⟨b, off, none⟩ ∧ W.cell? ⟨b, off + j, none⟩ = some (.slice q rws[j].length c) ∧ ∀ i, i < n → ValsAt W q rws[j] ∧ (rws[j].length = 0 ∨ ∀ g o, q = some ⟨g, o, none⟩ → ¬ accS (A i) (V i) g) := by
  rcases hr with h0 | ⟨b, off, e, hl, hr⟩
  · omega
  obtain ⟨q, c, h1, h2, h3⟩ := hr j hj
  refine ⟨b, off, q, c, e, by rw [h.below.cell (p := ⟨b, _, none⟩) hl]; exact h1, fun i hi => ⟨h2.on h.below, ?_⟩⟩
  rcases h3 with h3 | h3
  · exact .inl h3
  · refine .inr fun g o hq hs => ?_
    have := h.el i hi g hs
    have := h3 g o hq
    omega
set_option maxHeartbeats 4000000 in
/-- sluicesame.Vals of two lists that are the same. -/
theorem valsEq_c (q1 q2 : Option Addr) (c1 c2 : Nat) (vs : List V3) (w : World) (hn : vs.length ≤ 1000000) (h1 : ValsAt w q1 vs) (h2 : ValsAt w q2 vs) :
    Calls Tryd.prog 13 #[.slice q1 vs.length c1, .slice q2 vs.length c2] w fun e w' => e = .returned (.bool true) ∧ Aside (Below w.heap.size w w') := by
  have H1 : Aside (ValsAt w q1 vs) := h1
  have H2 : Aside (ValsAt w q2 vs) := h2
  obtain ⟨N, hN⟩ : ∃ N, vs.length = N := ⟨_, rfl⟩
  have HN : Hid (vs.length = N) := hN
  rw [hN] at hn ⊢
  have qn : ((N : Int) != (N : Int)) = false := by simp
  clear h1 h2 hN
  go_enter Tryd.func13, Tryd.ntmps13
  go_wp2
  go_loopg [5] N (fun gg s5 wr => ∃ kk : Nat, kk ≤ N ∧ N - kk ≤ gg ∧ s5 = .int .i64 kk ∧ Aside (Below w.heap.size w wr))
  case atStart => exact ⟨0, Nat.zero_le _, by omega, rfl, Below.refl _ w⟩
  case round =>
    obtain ⟨kk, hkk, hg, rfl, BW⟩ := hrel
    by_cases hlt : kk < N
    · have hltz : (kk : Int) < (N : Int) := by omega
      have k0 : (0 : Int) ≤ (kk : Int) := by omega
      have hki : kk < vs.length := by rw [HN.out]; exact hlt
      obtain ⟨b1, o1, rfl, l1, r1⟩ := (H1.out.on BW.out).resolve_left (by omega)
      obtain ⟨b2, o2, rfl, l2, r2⟩ := (H2.out.on BW.out).resolve_left (by omega)
      obtain ⟨c0, c1, c2⟩ := r1 kk hki
      obtain ⟨d0, d1, d2⟩ := r2 kk hki
      clear r1 r2
      generalize vs[kk] = y at c0 c1 c2 d0 d1 d2
      obtain ⟨yt, yn, ys⟩ := y
      simp only at c0 c1 c2 d0 d1 d2
      go_wp2
      go_quiet (fail)
      go_wp2
      go_roundg (N - (kk + 1))
      case measure => omega
      case rel => exact ⟨kk + 1, by omega, by omega, by go_num, by repeat (first | exact BW.out | apply below_drewN | refine Below.drew ?_)⟩
    · have hltz : ¬ (kk : Int) < (N : Int) := by omega
      go_wp2
      go_ret
      exact ⟨rfl, BW⟩
end Go.Proofs.YtckonjacccfmmaaDoor
namespace Go.Proofs.YtckonjacccfmmaaDoor
open Go.ChangeShapes Go.WideShapes Go.ChangeAt Go.RowKit Go.Deep
set_option linter.unusedVariables false

namespace agOp
theorem cellsI : Tryd.prog.cellsOf 3 = 1 := by kernel_rfl
theorem cellsS : Tryd.prog.cellsOf 9 = 1 := by kernel_rfl
theorem cellsV : Tryd.prog.cellsOf 26 = 3 := by kernel_rfl
theorem cellsE : Tryd.prog.cellsOf 29 = 7 := by kernel_rfl
theorem cellsG : Tryd.prog.cellsOf 31 = 9 := by kernel_rfl
theorem cellsSV : Tryd.prog.cellsOf 38 = 1 := by kernel_rfl
theorem cellsSE : Tryd.prog.cellsOf 27 = 1 := by kernel_rfl
theorem int_in {x : Int} (h : (Lit.int .i64 x).wf = true) : inB x := by
  simpa [inB, Lit.wf, IntKind.min, IntKind.max, IntKind.signed, IntKind.bits] using h
theorem lt_of_cell {w : World} {b o : Nat} {v : Value} (h : w.cell? ⟨b, o, none⟩ = some v) : b < w.heap.size := by
  rcases Nat.lt_or_ge b w.heap.size with h' | h'
  · exact h'
  · simp [World.cell?, Array.getElem?_eq_none h'] at h
set_option maxRecDepth 100000 in
/-- Numbers. -/
theorem ints {H : Type} {enc : TypeId × Value → H} {W : World} {fuel : Nat} {cs : List Value} {x : DataW H × List MemPlace} (hf : DataW.trod enc Tryd.prog W 0 (fun _ => true) true fuel 23 cs = some x) :
    ∃ q ts c, cs = [.slice q ts.length c] ∧ ts.length ≤ maxLen ∧ IntW W q ts ∧ ∀ t ∈ ts, inB t := by
  rcases open_slice Tryd.underlying23 hf with ⟨rfl, hx⟩ | ⟨a, len, cap, m, n, D, Pl, rfl, _, hl, hm, hmeq, hx, hall⟩
  · exact ⟨none, [], 0, rfl, Nat.zero_le _, .inl rfl, fun t ht => by cases ht⟩
  · simp only [if_true] at hmeq
    subst hmeq
    have each : ∀ i, i < len → ∃ t : Int, W.cell? (a.add (i * 1)) = some (.int .i64 t) ∧ inB t := by
      intro i hi
      obtain ⟨cs', h1, h2⟩ := hall i (by omega)
      rw [cellsI] at h1
      obtain ⟨_, hlen, hcell⟩ := World.cells?_some h1
      match cs', hlen with
      | [v0], _ =>
        obtain ⟨x0, e0, _, w0⟩ := DataW.trod_int Tryd.underlying3 h2
        simp at e0
        subst e0
        have g0 := hcell 0 (by omega)
        rw [add_add] at g0
        exact ⟨x0, by simpa using g0, int_in w0⟩
    obtain ⟨f, hF⟩ := choose_lt (α := Int) each
    have hlen : ((List.range len).map f).length = len := by simp
    refine ⟨some a, (List.range len).map f, _, by rw [hlen], by omega, ?_, fun t ht => ?_⟩
    · by_cases h0 : len = 0
      · exact .inl (by omega)
      · obtain ⟨sb, so, spot⟩ := a
        have hspot : spot = none := by simpa [Addr.add] using World.cell?_spot (hF 0 (by omega)).1
        subst hspot
        refine .inr ⟨sb, so, rfl, ?_, fun j hj => ?_⟩
        · have := (hF 0 (by omega)).1
          exact lt_of_cell (o := so + 0 * 1) (by simpa [add_plain] using this)
        · have := (hF j (by simpa using hj)).1
          simp only [List.getElem_map, List.getElem_range]
          simpa [add_plain] using this
    · obtain ⟨i, hi, rfl⟩ := List.mem_map.1 ht
      exact (hF i (List.mem_range.1 hi)).2
set_option maxRecDepth 100000 in
/-- Values. -/
theorem vals {H : Type} {enc : TypeId × Value → H} {W : World} {fuel : Nat} {cs : List Value} {x : DataW H × List MemPlace} (hf : DataW.trod enc Tryd.prog W 0 (fun _ => true) true fuel 38 cs = some x) :
    ∃ q vs c, cs = [.slice q vs.length c] ∧ vs.length ≤ maxLen ∧ ValsAt W q vs ∧ SizedV vs ∧ (vs.length = 0 ∨ ∀ g o, q = some ⟨g, o, none⟩ → g < W.heap.size) := by
  rcases open_slice Tryd.underlying38 hf with ⟨rfl, hx⟩ | ⟨a, len, cap, m, n, D, Pl, rfl, _, hl, hm, hmeq, hx, hall⟩
  · exact ⟨none, [], 0, rfl, Nat.zero_le _, .inl rfl, fun r hr => by simp at hr, .inl rfl⟩
  · simp only [if_true] at hmeq
    subst hmeq
    have each : ∀ i, i < len → ∃ r : Int × Int × ByteArray, W.cell? (a.add (i * 3)) = some (.int .i64 r.1) ∧ W.cell? (a.add (i * 3 + 1)) = some (.int .i64 r.2.1) ∧ W.cell? (a.add (i * 3 + 2)) = some (.string r.2.2) ∧ r.2.2.size ≤ maxLen ∧ inB r.2.1 := by
      intro i hi
      obtain ⟨cs', h1, h2⟩ := hall i (by omega)
      rw [cellsV] at h1
      obtain ⟨_, hlen, hcell⟩ := World.cells?_some h1
      obtain ⟨y0, y1, y2, k, _, _, t0, t1, t2⟩ := trod_struct3 Tryd.underlying26 h2
      match cs', hlen with
      | [v0, v1, v2], _ =>
        simp [cellsI, cellsS] at t0 t1 t2
        obtain ⟨x0, e0, _, _⟩ := DataW.trod_int Tryd.underlying3 t0
        obtain ⟨x1, e1, _, w1⟩ := DataW.trod_int Tryd.underlying3 t1
        obtain ⟨x2, e2, _, hs⟩ := DataW.trod_string Tryd.underlying9 t2
        simp at e0 e1 e2
        subst e0 e1 e2
        have g0 := hcell 0 (by omega)
        have g1 := hcell 1 (by omega)
        have g2 := hcell 2 (by omega)
        rw [add_add] at g0 g1 g2
        exact ⟨(x0, x1, x2), by simpa using g0, by simpa using g1, by simpa using g2, hs, int_in w1⟩
    obtain ⟨f, hF⟩ := choose_lt (α := Int × Int × ByteArray) each
    have hlen : ((List.range len).map f).length = len := by simp
    have hsz : SizedV ((List.range len).map f) := fun r hr => by
      obtain ⟨i, hi, rfl⟩ := List.mem_map.1 hr
      obtain ⟨_, _, _, h4, h5⟩ := hF i (List.mem_range.1 hi)
      exact ⟨h4, h5⟩
    by_cases h0 : len = 0
    · exact ⟨some a, (List.range len).map f, _, by rw [hlen], by omega, .inl (by omega), hsz, .inl (by omega)⟩
    · obtain ⟨sb, so, spot⟩ := a
      have hspot : spot = none := by simpa [Addr.add] using World.cell?_spot (hF 0 (by omega)).1
      subst hspot
      have hlt : sb < W.heap.size := by
        have := (hF 0 (by omega)).1
        exact lt_of_cell (o := so + 0 * 3) (by simpa [add_plain] using this)
      refine ⟨_, (List.range len).map f, _, by rw [hlen], by omega, .inr ⟨sb, so, rfl, hlt, fun j hj => ?_⟩, hsz, .inr fun g o e => ?_⟩
      · obtain ⟨c0, c1, c2, _, _⟩ := hF j (by omega)
        simp only [List.getElem_map, List.getElem_range]
        rw [add_plain] at c0 c1 c2
        exact ⟨c0, by rw [Nat.add_assoc]; exact c1, by rw [Nat.add_assoc]; exact c2⟩
      · injection e with e
        injection e with e
        omega
instance : Inhabited (List V3) := ⟨[]⟩
set_option maxRecDepth 100000 in
/-- Rows of values. -/
theorem rows {H : Type} {enc : TypeId × Value → H} {W : World} {fuel : Nat} {cs : List Value} {x : DataW H × List MemPlace} (hf : DataW.trod enc Tryd.prog W 0 (fun _ => true) true fuel 24 cs = some x) :
    ∃ q rws c, cs = [.slice q rws.length c] ∧ rws.length ≤ maxLen ∧ RowsAt W q rws ∧ ∀ r ∈ rws, SizedV r ∧ r.length ≤ maxLen := by
  rcases open_slice Tryd.underlying24 hf with ⟨rfl, hx⟩ | ⟨a, len, cap, m, n, D, Pl, rfl, _, hl, hm, hmeq, hx, hall⟩
  · exact ⟨none, [], 0, rfl, Nat.zero_le _, .inl rfl, fun t ht => by cases ht⟩
  · simp only [if_true] at hmeq
    subst hmeq
    have each : ∀ i, i < len → ∃ r : List V3, (∃ q c, W.cell? (a.add (i * 1)) = some (.slice q r.length c) ∧ ValsAt W q r ∧ (r.length = 0 ∨ ∀ g o, q = some ⟨g, o, none⟩ → g < W.heap.size)) ∧ SizedV r ∧ r.length ≤ maxLen := by
      intro i hi
      obtain ⟨cs', h1, h2⟩ := hall i (by omega)
      rw [cellsSV] at h1
      obtain ⟨_, hlen, hcell⟩ := World.cells?_some h1
      obtain ⟨q, vs, c, rfl, k1, k2, k3, k4⟩ := vals h2
      have g0 := hcell 0 (by omega)
      rw [add_add] at g0
      exact ⟨vs, ⟨q, c, by simpa using g0, k2, k4⟩, k3, k1⟩
    obtain ⟨f, hF⟩ := choose_lt (α := List V3) each
    have hlen : ((List.range len).map f).length = len := by simp
    refine ⟨some a, (List.range len).map f, _, by rw [hlen], by omega, ?_, fun t ht => ?_⟩
    · by_cases h0 : len = 0
      · exact .inl (by omega)
      · obtain ⟨sb, so, spot⟩ := a
        obtain ⟨⟨_, _, z0, _⟩, _⟩ := hF 0 (by omega)
        have hspot : spot = none := by simpa [Addr.add] using World.cell?_spot z0
        subst hspot
        refine .inr ⟨sb, so, rfl, ?_, fun j hj => ?_⟩
        · exact lt_of_cell (o := so + 0 * 1) (by simpa [add_plain] using z0)
        · obtain ⟨⟨q, c, z1, z2, z3⟩, _⟩ := hF j (by simpa using hj)
          refine ⟨q, c, ?_, ?_, ?_⟩
          · simp only [List.getElem_map, List.getElem_range]
            simpa [add_plain] using z1
          · simp only [List.getElem_map, List.getElem_range]
            exact z2
          · simp only [List.getElem_map, List.getElem_range]
            exact z3
    · obtain ⟨i, hi, rfl⟩ := List.mem_map.1 ht
      exact (hF i (List.mem_range.1 hi)).2
set_option maxRecDepth 100000 in
/-- An expression's cells: of which kind each is. -/
theorem expr {H : Type} {enc : TypeId × Value → H} {W : World} {fuel : Nat} {cs : List Value} {x : DataW H × List MemPlace} (h : DataW.trod enc Tryd.prog W 0 (fun _ => true) true fuel 29 cs = some x) :
    ∃ (op nm : ByteArray) (vt vn : Int) (vs : ByteArray) (ap : Option Addr) (an ac : Nat) (pos : Int), cs = [.string op, .string nm, .int .i64 vt, .int .i64 vn, .string vs, .slice ap an ac, .int .i64 pos] := by
  obtain ⟨xs, n, hfu, hx, hl, hlen, hf⟩ := DataW.trod_struct Tryd.underlying29 h
  rw [cellsE] at hl
  match cs, hl, xs, hlen with
  | [c0, c1, c2, c3, c4, c5, c6], _, [y0, y1, y2, y3, y4], _ =>
    have t0 := hf 0 _ rfl
    have t1 := hf 1 _ rfl
    have t2 := hf 2 _ rfl
    have t3 := hf 3 _ rfl
    have t4 := hf 4 _ rfl
    simp [cellsS, cellsI, cellsV, cellsSE] at t0 t1 t2 t3 t4
    obtain ⟨s0, e0, _, _⟩ := DataW.trod_string Tryd.underlying9 t0
    obtain ⟨s1, e1, _, _⟩ := DataW.trod_string Tryd.underlying9 t1
    obtain ⟨k4, e4, _, _⟩ := DataW.trod_int Tryd.underlying3 t4
    obtain ⟨z0, z1, z2, k, _, _, u0, u1, u2⟩ := trod_struct3 Tryd.underlying26 t2
    simp [cellsI, cellsS] at u0 u1 u2
    obtain ⟨x0, f0, _, _⟩ := DataW.trod_int Tryd.underlying3 u0
    obtain ⟨x1, f1, _, _⟩ := DataW.trod_int Tryd.underlying3 u1
    obtain ⟨x2, f2, _, _⟩ := DataW.trod_string Tryd.underlying9 u2
    simp at e0 e1 e4 f0 f1 f2
    subst e0 e1 e4 f0 f1 f2
    rcases open_slice Tryd.underlying27 t3 with ⟨h5, _⟩ | ⟨a, len, cap, m, n, D, Pl, h5, _⟩
    · simp at h5
      subst h5
      exact ⟨_, _, _, _, _, _, _, _, _, rfl⟩
    · simp at h5
      subst h5
      exact ⟨_, _, _, _, _, _, _, _, _, rfl⟩
instance : Inhabited ByteArray := ⟨⟨#[]⟩⟩
set_option maxRecDepth 100000 in
/-- Aggregates. -/
theorem aggs {H : Type} {enc : TypeId × Value → H} {W : World} {fuel : Nat} {cs : List Value} {x : DataW H × List MemPlace} (hf : DataW.trod enc Tryd.prog W 0 (fun _ => true) true fuel 22 cs = some x) :
    ∃ q xs c, cs = [.slice q xs.length c] ∧ xs.length ≤ maxLen ∧ AgsW W q xs ∧ ∀ b ∈ xs, b.size ≤ maxLen := by
  rcases open_slice Tryd.underlying22 hf with ⟨rfl, hx⟩ | ⟨a, len, cap, m, n, D, Pl, rfl, _, hl, hm, hmeq, hx, hall⟩
  · exact ⟨none, [], 0, rfl, Nat.zero_le _, .inl rfl, fun t ht => by cases ht⟩
  · simp only [if_true] at hmeq
    subst hmeq
    have each : ∀ i, i < len → ∃ w : ByteArray, (∃ (op nm : ByteArray) (vt vn : Int) (vs : ByteArray) (ap : Option Addr) (an ac : Nat) (pos : Int) (name : ByteArray), W.cells? 0 (a.add (i * 9)) 9 = some [.string w, .string op, .string nm, .int .i64 vt, .int .i64 vn, .string vs, .slice ap an ac, .int .i64 pos, .string name]) ∧ w.size ≤ maxLen := by
      intro i hi
      obtain ⟨cs', h1, h2⟩ := hall i (by omega)
      rw [cellsG] at h1
      obtain ⟨y0, y1, y2, k, _, hl9, t0, t1, t2⟩ := trod_struct3 Tryd.underlying31 h2
      rw [cellsG] at hl9
      match cs', hl9 with
      | [c0, c1, c2, c3, c4, c5, c6, c7, c8], _ =>
        simp [cellsS, cellsE] at t0 t1 t2
        obtain ⟨s0, e0, _, z0⟩ := DataW.trod_string Tryd.underlying9 t0
        obtain ⟨s2, e2, _, _⟩ := DataW.trod_string Tryd.underlying9 t2
        obtain ⟨op, nm, vt, vn, vs, ap, an, ac, pos, e1⟩ := expr t1
        simp at e0 e1 e2
        obtain ⟨rfl, rfl, rfl, rfl, rfl, rfl, rfl⟩ := e1
        subst e0 e2
        exact ⟨s0, ⟨op, nm, vt, vn, vs, ap, an, ac, pos, s2, h1⟩, z0⟩
    obtain ⟨f, hF⟩ := choose_lt (α := ByteArray) each
    have hlen : ((List.range len).map f).length = len := by simp
    refine ⟨some a, (List.range len).map f, _, by rw [hlen], by omega, ?_, fun t ht => ?_⟩
    · by_cases h0 : len = 0
      · exact .inl (by omega)
      · obtain ⟨sb, so, spot⟩ := a
        obtain ⟨⟨_, _, _, _, _, _, _, _, _, _, hc0⟩, _⟩ := hF 0 (by omega)
        have he := (World.cells?_some hc0).2.2 0 (by simp)
        simp only [List.getElem?_cons_zero] at he
        have hspot : spot = none := by simpa [Addr.add] using World.cell?_spot he
        subst hspot
        refine .inr ⟨sb, so, rfl, lt_of_cell (o := so) (by simpa [Addr.add] using he), fun j hj => ?_⟩
        obtain ⟨⟨op, nm, vt, vn, vs, ap, an, ac, pos, name, hcj⟩, _⟩ := hF j (by simpa using hj)
        refine ⟨op, nm, vt, vn, vs, ap, an, ac, pos, name, fun k v hv => ?_⟩
        simp only [List.getElem_map, List.getElem_range] at hv
        have hk : k < 9 := by have := (List.getElem?_eq_some_iff.1 hv).1; simpa using this
        have := (World.cells?_some hcj).2.2 k hk
        rw [hv] at this
        simpa [add_plain, Nat.add_assoc] using this
    · obtain ⟨i, hi, rfl⟩ := List.mem_map.1 ht
      exact (hF i (List.mem_range.1 hi)).2
end agOp
end Go.Proofs.YtckonjacccfmmaaDoor
