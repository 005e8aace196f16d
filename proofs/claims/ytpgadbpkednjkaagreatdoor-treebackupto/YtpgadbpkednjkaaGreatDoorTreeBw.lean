/-
  The walk of TreeBack.
-/
import Derived.Test.YtpgadbpkednjkaaGreatDoorTreePa
import Derived.Test.YtpgadbpkednjkaaGreatDoorLoS
import Derived.Test.YtpgadbpkednjkaaGreatDoorTreeSi
import Derived.Test.YtpgadbpkednjkaaGreatDoorLoP
import Derived.Test.YtpgadbpkednjkaaGreatDoorLoQ
import Derived.Deep.RegionWith
import Derived.Deep.DeepCutAuto
import Derived.Deep.QuietTactic
namespace Go.Proofs.YtpgadbpkednjkaaGreatDoor
open Go.RowKit Go.BigFrame
set_option linter.unusedVariables false

def factL : List UInt8 := [97, 32, 43, 32, 50, 32, 42, 32, 98]
def factX : Ex := .node ⟨#[43]⟩ ⟨#[]⟩ 0 0 ⟨#[]⟩ 2 [.node ⟨#[99, 111, 108]⟩ ⟨#[97]⟩ 0 0 ⟨#[]⟩ 0 [], .node ⟨#[42]⟩ ⟨#[]⟩ 0 0 ⟨#[]⟩ 6 [.node ⟨#[118, 97, 108]⟩ ⟨#[]⟩ 1 2 ⟨#[]⟩ 4 [], .node ⟨#[99, 111, 108]⟩ ⟨#[98]⟩ 0 0 ⟨#[]⟩ 8 []]]
theorem fact_parse : parseP factL = (factX, 0, 0) := by kernel_rfl
/-- Where Parse stops is in the text, or at its end. -/
theorem parse_place {s : List UInt8} {x : Ex} {E : Int} {P : Nat} (h : parseP s = (x, E, P)) : P ≤ s.length := by
  rw [parseP] at h
  split at h
  · rename_i h0
    obtain ⟨_, hq, _⟩ := lexAll_bad (s := s) (ts := (lexAll s).1) (e := (lexAll s).2.1) (q := (lexAll s).2.2) rfl h0
    simp only [Prod.mk.injEq] at h
    rw [← h.2.2]; exact hq
  · rename_i h0
    have hlx : lexAll s = ((lexAll s).1, 0, (lexAll s).2.2) := by
      have : (lexAll s).2.1 = 0 := by simpa using h0
      rw [← this]
    obtain ⟨_, _, hst, _⟩ := lexAll_ok hlx
    have hsm := (stand_small s _ 0 (Nat.zero_le _) hst).2
    split at h
    · split at h
      · simp only [Prod.mk.injEq] at h; omega
      · simp only [Prod.mk.injEq] at h; omega
    · rename_i o r _ hr
      simp only [Prod.mk.injEq] at h
      rw [← h.2.2]
      have hsuf := uE_suf ((lexAll s).1.length * 8 + 8) 0 (lexAll s).1
      cases hrr : r with
      | nil => simp [placeT]
      | cons t q =>
        rw [placeT]
        refine (hsm t (hsuf.subset ?_)).2
        rw [readE] at hr
        rw [hr, hrr]
        simp
theorem errB_eql (k : Int) (W : World) : Sem.run Tryz.prog (binOp .eql 38 (errV k) .nilIface) W = .ok (.bool (k == 0)) W := errK_eql k W
/-- Seven cells, kept. -/
def At7 (W : World) (b : Nat) (A : Array Value) : Prop := (∀ i, W.cell? ⟨b, i, none⟩ = A[i]?) ∧ b < W.heap.size
theorem At7.on {W W' : World} {b : Nat} {A : Array Value} (h : At7 W b A) (hb : Below W.heap.size W W') : At7 W' b A :=
  ⟨fun i => by rw [hb.cell (p := ⟨b, i, none⟩) h.2]; exact h.1 i, by have := hb.size; have := h.2; omega⟩
theorem At7.new (W : World) (A : Array Value) (t : TypeId) : At7 (W.alloc (.cells A t)) W.heap.size A :=
  ⟨fun i => by rw [World.cell?_alloc_at _ _ _ _ rfl], by simp⟩
set_option maxHeartbeats 16000000 in
set_option maxRecDepth 20000 in
theorem tells_back (s : ByteArray) (x : Ex) (lo : Nat → Prop) (v : Value) (w : World) (henv : TEnv w) (hsg : SG w) (hx : ExIn w lo v x) (hsz : (x.pre 1).length ≤ 1048576) (hxb : ∀ q ∈ x.pre 1, inI q.1.vn) (hs : s.size ≤ maxLen) :
    Calls Tryz.prog 4 #[.string s, v] w fun e' w' => e' = .returned (.bool true) ∧ Below w.heap.size w w' := by
  have hxT : ExIn w (fun _ => True) v x := ExIn.low (fun _ _ _ => trivial) _ _ hx
  obtain ⟨o1, n1, t1, k1, s1, p1, m1, c1, a1, rfl⟩ := hx.agg
  have b0 : Below w.heap.size w (w.alloc (.cells #[.string o1, .string n1, .int .i64 t1, .int .i64 k1, .string s1, .slice p1 m1 c1, .int .i64 a1] 26)) := (Below.refl _ w).alloc (Nat.le_refl _) _
  have E0 : Hid (∀ W, Below (w.heap.size + 1) (w.alloc (.cells #[.string o1, .string n1, .int .i64 t1, .int .i64 k1, .string s1, .slice p1 m1 c1, .int .i64 a1] 26)) W → (∀ i, W.cell? ⟨w.heap.size, i, none⟩ = (#[.string o1, .string n1, .int .i64 t1, .int .i64 k1, .string s1, .slice p1 m1 c1, .int .i64 a1] : Array Value)[i]?) ∧ w.heap.size < W.heap.size ∧ Below w.heap.size w W) := fun W hb => by
    have h1 := hb.block w.heap.size (Nat.lt_succ_self _)
    rw [heap_alloc_new] at h1
    exact ⟨fun i => Lib.cell_of_heap h1 i, (Array.getElem?_eq_some_iff.1 h1).1, b0.trans (hb.mono (Nat.le_succ _))⟩
  obtain ⟨K, hK⟩ : ∃ K, ckP x = K := ⟨_, rfl⟩
  obtain ⟨X, hX⟩ : ∃ X : ByteArray, X.data.toList = if ckP x = 0 then txP x else [] := ⟨⟨(if ckP x = 0 then txP x else []).toArray⟩, rfl⟩
  obtain ⟨y, Ey, Py, hpy⟩ : ∃ y Ey Py, parseP s.data.toList = (y, Ey, Py) := ⟨_, _, _, rfl⟩
  have hPl : Py ≤ s.size := by have := parse_place hpy; simpa using this
  have hXs : X.size = X.data.toList.length := by simp
  have cF : Aside (∀ W, Below (w.heap.size + 1) (w.alloc (.cells #[.string o1, .string n1, .int .i64 t1, .int .i64 k1, .string s1, .slice p1 m1 c1, .int .i64 a1] 26)) W → Calls Tryz.prog 7 #[.string ⟨#[97, 32, 43, 32, 50, 32, 42, 32, 98]⟩] W fun e w' => (∃ v, e = .returned (.tuple #[v, .agg #[.int .i64 0, .int .i64 ((0 : Nat) : Int)]]) ∧ Aside (ExIn w' (W.heap.size ≤ ·) v factX)) ∧ Below W.heap.size W w') := fun W hW =>
    parse_tree ⟨#[97, 32, 43, 32, 50, 32, 42, 32, 98]⟩ W (henv.on (E0.out W hW).2.2) (hsg.on (E0.out W hW).2.2) factX 0 0 fact_parse (by decide)
  have cP : Aside (∀ W, Below (w.heap.size + 1) (w.alloc (.cells #[.string o1, .string n1, .int .i64 t1, .int .i64 k1, .string s1, .slice p1 m1 c1, .int .i64 a1] 26)) W → Calls Tryz.prog 13 #[.agg #[.string o1, .string n1, .int .i64 t1, .int .i64 k1, .string s1, .slice p1 m1 c1, .int .i64 a1]] W fun e w' => e = .returned (.tuple #[.string X, errV K]) ∧ Below W.heap.size W w') := fun W hW =>
    treePrint_any x (fun _ => True) _ W (henv.on (E0.out W hW).2.2) (fun W' hW' => (henv.on ((E0.out W hW).2.2.trans (hW'.mono (E0.out W hW).2.2.size))).env) (hxT.on (E0.out W hW).2.2) hsz hxb X K hK hX
  have cC : Aside (∀ W, Below (w.heap.size + 1) (w.alloc (.cells #[.string o1, .string n1, .int .i64 t1, .int .i64 k1, .string s1, .slice p1 m1 c1, .int .i64 a1] 26)) W → Calls Tryz.prog 11 #[.agg #[.string o1, .string n1, .int .i64 t1, .int .i64 k1, .string s1, .slice p1 m1 c1, .int .i64 a1]] W fun e w' => e = .returned (errV K) ∧ Below (w.heap.size + 1) (w.alloc (.cells #[.string o1, .string n1, .int .i64 t1, .int .i64 k1, .string s1, .slice p1 m1 c1, .int .i64 a1] 26)) w') := fun W hW => by
    rw [← hK]
    exact (check_tree x (fun _ => True) _ W (henv.on (E0.out W hW).2.2) (hxT.on (E0.out W hW).2.2) hsz).mono fun e w' h => ⟨h.1, hW.trans (h.2.mono (E0.out W hW).2.1)⟩
  have cX : Aside (K = 0 → X.size ≤ 400 → ∃ e, sameE false e x = true ∧ e.size ≤ 1048576 ∧ ∀ W, Below (w.heap.size + 1) (w.alloc (.cells #[.string o1, .string n1, .int .i64 t1, .int .i64 k1, .string s1, .slice p1 m1 c1, .int .i64 a1] 26)) W → Calls Tryz.prog 7 #[.string X] W fun e' w' => (∃ v, e' = .returned (.tuple #[v, .agg #[.int .i64 0, .int .i64 ((0 : Nat) : Int)]]) ∧ Aside (ExIn w' (W.heap.size ≤ ·) v e)) ∧ Below W.heap.size W w') := fun h0 hl => by
    rw [hK, if_pos h0] at hX
    obtain ⟨e, he, hse⟩ := parse_tx (hK.trans h0) hxb (by rw [← hX, ← hXs]; exact hl)
    refine ⟨e, hse, ?_, fun W hW => parse_tree X W (henv.on (E0.out W hW).2.2) (hsg.on (E0.out W hW).2.2) e 0 0 (by rw [hX]; exact he) (by unfold maxLen; omega)⟩
    rw [(same_size e x hse).1, ← size_pre x 1]
    exact hsz
  have cS : Aside (∀ W, Below (w.heap.size + 1) (w.alloc (.cells #[.string o1, .string n1, .int .i64 t1, .int .i64 k1, .string s1, .slice p1 m1 c1, .int .i64 a1] 26)) W → Calls Tryz.prog 7 #[.string s] W fun e w' => (∃ v, e = .returned (.tuple #[v, .agg #[.int .i64 Ey, .int .i64 (Py : Nat)]]) ∧ Aside (ExIn w' (W.heap.size ≤ ·) v y)) ∧ Below W.heap.size W w') := fun W hW =>
    parse_tree s W (henv.on (E0.out W hW).2.2) (hsg.on (E0.out W hW).2.2) y Ey Py hpy hs
  have HXT : Aside (∀ W, Below (w.heap.size + 1) (w.alloc (.cells #[.string o1, .string n1, .int .i64 t1, .int .i64 k1, .string s1, .slice p1 m1 c1, .int .i64 a1] 26)) W → ExIn W (fun _ => True) (.agg #[.string o1, .string n1, .int .i64 t1, .int .i64 k1, .string s1, .slice p1 m1 c1, .int .i64 a1]) x) := fun W hW => hxT.on (E0.out W hW).2.2
  have HTE : Aside (∀ W, Below (w.heap.size + 1) (w.alloc (.cells #[.string o1, .string n1, .int .i64 t1, .int .i64 k1, .string s1, .slice p1 m1 c1, .int .i64 a1] 26)) W → TEnv W ∧ SG W) := fun W hW => ⟨henv.on (E0.out W hW).2.2, hsg.on (E0.out W hW).2.2⟩
  have HPY : Hid (parseP s.data.toList = (y, Ey, Py)) := hpy
  have he1 := errK_eql K
  have he2 := errK_geql K
  have qKK : ((K == 0) != (K == 0)) = false := by simp
  have hPz : (Py : Int) ≤ (s.size : Int) := by omega
  have hPn : (0 : Int) ≤ (Py : Int) := by omega
  unfold maxLen at hs
  clear henv hsg hx hxT hsz hxb hK hX hpy b0 hPl hXs
  go_enter Tryz.func4, Tryz.ntmps4
  go_wp2_with fail
  refine (cF.out _ (Below.refl _ _)).mono ?_
  rintro e' w1 ⟨⟨vf, rfl, hf⟩, b1⟩
  have B1 : Aside (Below (w.heap.size + 1) (w.alloc (.cells #[.string o1, .string n1, .int .i64 t1, .int .i64 k1, .string s1, .slice p1 m1 c1, .int .i64 a1] 26)) w1) := b1.mono (by simp)
  have hf2 := hf.out
  rw [factX, ExIn] at hf2
  obtain ⟨pf, cf, rfl, _, _, _, _, hpf⟩ := hf2
  rcases hpf with h | ⟨bf, of, rfl, hbf, _, hEf⟩
  · exact absurd h (by simp)
  obtain ⟨f0, f1, f2, f3, f4, f5, f6, g0, _, _, _, _, _, _, hfy⟩ := exsIn_at _ _ _ _ _ hEf 1 (by simp)
  simp only [List.getElem_cons_succ, List.getElem_cons_zero] at hfy
  rw [ExIn] at hfy
  obtain ⟨_, _, hfa, _⟩ := hfy
  injection hfa with hfa
  simp only [Array.mk.injEq, List.cons.injEq, and_true] at hfa
  obtain ⟨rfl, _⟩ := hfa
  simp only [List.length_cons, List.length_nil, Nat.zero_add, Nat.reduceAdd, Nat.one_mul] at g0 ⊢
  clear hEf hf cF b1
  have hzf := (E0.out w1 B1.out).2.1
  have BF : Aside (Below (w.heap.size + 1) (w.alloc (.cells #[.string o1, .string n1, .int .i64 t1, .int .i64 k1, .string s1, .slice p1 m1 c1, .int .i64 a1] 26)) ((w1.alloc (.cells #[.string ⟨#[43]⟩, .string ⟨#[]⟩, .int .i64 0, .int .i64 0, .string ⟨#[]⟩, .slice (some ⟨bf, of, none⟩) 2 cf, .int .i64 2] 26)).alloc (.cells #[.int .i64 0, .int .i64 ((0 : Nat) : Int)] 31))) := (B1.out.alloc hzf _).alloc (by simp; omega) _
  obtain ⟨hBF, hzF, _⟩ := E0.out _ BF.out
  obtain ⟨hB1, _, _⟩ := E0.out _ B1.out
  have q0 : w1.cell? ⟨w.heap.size, 0, none⟩ = some (.string o1) := hB1 0
  have q1 : w1.cell? ⟨w.heap.size, 1, none⟩ = some (.string n1) := hB1 1
  have q2 : w1.cell? ⟨w.heap.size, 2, none⟩ = some (.int .i64 t1) := hB1 2
  have q3 : w1.cell? ⟨w.heap.size, 3, none⟩ = some (.int .i64 k1) := hB1 3
  have q4 : w1.cell? ⟨w.heap.size, 4, none⟩ = some (.string s1) := hB1 4
  have q5 : w1.cell? ⟨w.heap.size, 5, none⟩ = some (.slice p1 m1 c1) := hB1 5
  have q6 : w1.cell? ⟨w.heap.size, 6, none⟩ = some (.int .i64 a1) := hB1 6
  have cP1 := cP.out _ BF.out
  clear hB1 hBF cP
  go_wp2_with fail
  refine cP1.mono ?_
  rintro e' w2 ⟨rfl, b2⟩
  have B2 : Aside (Below (w.heap.size + 1) (w.alloc (.cells #[.string o1, .string n1, .int .i64 t1, .int .i64 k1, .string s1, .slice p1 m1 c1, .int .i64 a1] 26)) w2) := BF.out.trans (b2.mono hzF)
  obtain ⟨hB2, hz2, _⟩ := E0.out _ B2.out
  clear cP1 b2 q0 q1 q2 q3 q4 q5 q6 g0 BF
  have g0 : w2.cell? ⟨w.heap.size, 0, none⟩ = some (.string o1) := hB2 0
  have g1 : w2.cell? ⟨w.heap.size, 1, none⟩ = some (.string n1) := hB2 1
  have g2 : w2.cell? ⟨w.heap.size, 2, none⟩ = some (.int .i64 t1) := hB2 2
  have g3 : w2.cell? ⟨w.heap.size, 3, none⟩ = some (.int .i64 k1) := hB2 3
  have g4 : w2.cell? ⟨w.heap.size, 4, none⟩ = some (.string s1) := hB2 4
  have g5 : w2.cell? ⟨w.heap.size, 5, none⟩ = some (.slice p1 m1 c1) := hB2 5
  have g6 : w2.cell? ⟨w.heap.size, 6, none⟩ = some (.int .i64 a1) := hB2 6
  go_upto_region 5 with fail
  go_cut [58] (fun s58 wx => s58 = .bool false ∧ Aside (Below (w.heap.size + 1) (w.alloc (.cells #[.string o1, .string n1, .int .i64 t1, .int .i64 k1, .string s1, .slice p1 m1 c1, .int .i64 a1] 26)) wx))
  case first => as_aux_lemma =>
    go_region_with (go_at_call 11; refine (cC.out _ (by repeat (first | exact B2.out | apply Below.drew))).mono ?_; rintro e' w3 ⟨rfl, b3⟩)
    all_goals
      go_wp2_with fail
      go_meet
      case rel => exact ⟨by first | rfl | simp, (show Aside _ by repeat (first | exact b3 | apply below_drewN | refine Below.drew ?_))⟩
  case rest => as_aux_lemma =>
    obtain ⟨rfl, B3⟩ := hcut
    rename World => w3
    clear g0 g1 g2 g3 g4 g5 g6 hB2 cC B2
    obtain ⟨hB3, hz3, _⟩ := E0.out _ B3.out
    by_cases hK0 : K = 0
    · have qK : (K == 0) = true := by simpa using hK0
      have HK0 : Hid (K = 0) := hK0
      clear hK0
      go_upto_if 65 with fail
      go_cut [9, 10] (fun _ _ wx => Aside (Below (w.heap.size + 1) (w.alloc (.cells #[.string o1, .string n1, .int .i64 t1, .int .i64 k1, .string s1, .slice p1 m1 c1, .int .i64 a1] 26)) wx))
      case first => as_aux_lemma =>
        by_cases hl : X.size ≤ 400
        · have hlz : (X.size : Int) ≤ 400 := by omega
          obtain ⟨e, hse, hes, cX1⟩ := cX.out HK0.out hl
          have cX2 := cX1 w3 B3.out
          clear cX cX1 cS
          go_wp2_with fail
          refine cX2.mono ?_
          rintro e' w4 ⟨⟨ve, rfl, hve⟩, b4⟩
          have hve2 : ExIn w4 (fun _ => True) ve e := ExIn.low (fun _ _ _ => trivial) _ _ hve.out
          obtain ⟨o2, n2, t2, k2, s2, p2, m2, c2, a2, rfl⟩ := hve2.agg
          have B4 : Below (w.heap.size + 1) (w.alloc (.cells #[.string o1, .string n1, .int .i64 t1, .int .i64 k1, .string s1, .slice p1 m1 c1, .int .i64 a1] 26)) w4 := B3.out.trans (b4.mono hz3)
          obtain ⟨hB4, hz4, _⟩ := E0.out _ B4
          have B5 : Aside (Below (w.heap.size + 1) (w.alloc (.cells #[.string o1, .string n1, .int .i64 t1, .int .i64 k1, .string s1, .slice p1 m1 c1, .int .i64 a1] 26)) ((w4.alloc (.cells #[.string o2, .string n2, .int .i64 t2, .int .i64 k2, .string s2, .slice p2 m2 c2, .int .i64 a2] 26)).alloc (.cells #[.int .i64 0, .int .i64 ((0 : Nat) : Int)] 31))) := (B4.alloc hz4 _).alloc (by simp; omega) _
          have cE := treeSame_any e x (fun _ => True) _ _ ((w4.alloc (.cells #[.string o2, .string n2, .int .i64 t2, .int .i64 k2, .string s2, .slice p2 m2 c2, .int .i64 a2] 26)).alloc (.cells #[.int .i64 0, .int .i64 ((0 : Nat) : Int)] 31)) (hve2.on (((Below.refl _ _).alloc (Nat.le_refl _) _).alloc (by simp) _)) (HXT.out _ B5.out) hes
          rw [hse] at cE
          clear b4 hve
          have g0 : w4.cell? ⟨w.heap.size, 0, none⟩ = some (.string o1) := hB4 0
          have g1 : w4.cell? ⟨w.heap.size, 1, none⟩ = some (.string n1) := hB4 1
          have g2 : w4.cell? ⟨w.heap.size, 2, none⟩ = some (.int .i64 t1) := hB4 2
          have g3 : w4.cell? ⟨w.heap.size, 3, none⟩ = some (.int .i64 k1) := hB4 3
          have g4 : w4.cell? ⟨w.heap.size, 4, none⟩ = some (.string s1) := hB4 4
          have g5 : w4.cell? ⟨w.heap.size, 5, none⟩ = some (.slice p1 m1 c1) := hB4 5
          have g6 : w4.cell? ⟨w.heap.size, 6, none⟩ = some (.int .i64 a1) := hB4 6
          clear hB4
          go_wp2_with fail
          refine cE.mono ?_
          rintro e' w5 ⟨rfl, b5⟩
          have B6 : Below (w.heap.size + 1) (w.alloc (.cells #[.string o1, .string n1, .int .i64 t1, .int .i64 k1, .string s1, .slice p1 m1 c1, .int .i64 a1] 26)) w5 := B5.out.trans (b5.mono (by simp; omega))
          clear cE b5
          go_wp2
          go_meet
          case rel => exact B6
        · have hlz : ¬ (X.size : Int) ≤ 400 := by omega
          go_wp2
          go_meet
          case rel => exact B3
      case rest => as_aux_lemma =>
        have B4 : Aside (Below (w.heap.size + 1) (w.alloc (.cells #[.string o1, .string n1, .int .i64 t1, .int .i64 k1, .string s1, .slice p1 m1 c1, .int .i64 a1] 26)) _) := hcut
        rename World => w4
        clear hcut cX he1 he2 qKK B3 hB3 qK HK0
        have hz4 := (E0.out _ B4.out).2.1
        have cS4 := cS.out _ B4.out
        clear cS
        go_wp2_with fail
        refine cS4.mono ?_
        rintro e' w5 ⟨⟨vy, rfl, hvy⟩, b5⟩
        have hvy2 : ExIn w5 (fun _ => True) vy y := ExIn.low (fun _ _ _ => trivial) _ _ hvy.out
        obtain ⟨o2, n2, t2, k2, s2, p2, m2, c2, a2, rfl⟩ := hvy2.agg
        have B5 : Below (w.heap.size + 1) (w.alloc (.cells #[.string o1, .string n1, .int .i64 t1, .int .i64 k1, .string s1, .slice p1 m1 c1, .int .i64 a1] 26)) w5 := B4.out.trans (b5.mono hz4)
        have hz5 := (E0.out _ B5).2.1
        have B6 : Aside (Below (w.heap.size + 1) (w.alloc (.cells #[.string o1, .string n1, .int .i64 t1, .int .i64 k1, .string s1, .slice p1 m1 c1, .int .i64 a1] 26)) ((w5.alloc (.cells #[.string o2, .string n2, .int .i64 t2, .int .i64 k2, .string s2, .slice p2 m2 c2, .int .i64 a2] 26)).alloc (.cells #[.int .i64 Ey, .int .i64 (Py : Int)] 31))) := (B5.alloc hz5 _).alloc (by simp; omega) _
        have HY6 : Aside (ExIn ((w5.alloc (.cells #[.string o2, .string n2, .int .i64 t2, .int .i64 k2, .string s2, .slice p2 m2 c2, .int .i64 a2] 26)).alloc (.cells #[.int .i64 Ey, .int .i64 (Py : Int)] 31)) (fun _ => True) (.agg #[.string o2, .string n2, .int .i64 t2, .int .i64 k2, .string s2, .slice p2 m2 c2, .int .i64 a2]) y) := hvy2.on (((Below.refl _ _).alloc (Nat.le_refl _) _).alloc (by simp) _)
        clear cS4 b5 hvy hvy2 B4
        by_cases hE : Ey = 0
        · subst hE
          obtain ⟨hck, hyb, hyl, hp0⟩ := parse_right HPY.out
          clear hp0
          have hysz : (y.pre 1).length = y.size := size_pre y 1
          have hy1 : 1 ≤ y.size := by
            obtain ⟨oo, nn, tt, kk, ss, pp, ll⟩ := y
            rw [Ex.size]; omega
          have AY : Aside (At7 ((w5.alloc (.cells #[.string o2, .string n2, .int .i64 t2, .int .i64 k2, .string s2, .slice p2 m2 c2, .int .i64 a2] 26)).alloc (.cells #[.int .i64 0, .int .i64 (Py : Int)] 31)) w5.heap.size #[.string o2, .string n2, .int .i64 t2, .int .i64 k2, .string s2, .slice p2 m2 c2, .int .i64 a2]) := (At7.new w5 #[.string o2, .string n2, .int .i64 t2, .int .i64 k2, .string s2, .slice p2 m2 c2, .int .i64 a2] 26).on ((Below.refl _ _).alloc (Nat.le_refl _) _)
          have cC6 := check_tree y (fun _ => True) _ _ (HTE.out _ B6.out).1 HY6.out (by omega)
          rw [hck, show errV 0 = .nilIface from rfl] at cC6
          go_wp2_with fail
          refine cC6.mono ?_
          rintro e' w7 ⟨rfl, b7⟩
          have B7 : Aside (Below (w.heap.size + 1) (w.alloc (.cells #[.string o1, .string n1, .int .i64 t1, .int .i64 k1, .string s1, .slice p1 m1 c1, .int .i64 a1] 26)) w7) := B6.out.trans (b7.mono (by simp; omega))
          have HY7 : Aside (ExIn w7 (fun _ => True) (.agg #[.string o2, .string n2, .int .i64 t2, .int .i64 k2, .string s2, .slice p2 m2 c2, .int .i64 a2]) y) := HY6.out.on b7
          have AY7 : Aside (At7 w7 w5.heap.size #[.string o2, .string n2, .int .i64 t2, .int .i64 k2, .string s2, .slice p2 m2 c2, .int .i64 a2]) := AY.out.on b7
          have hz7 := (E0.out _ B7.out).2.1
          obtain ⟨hA7, hl7⟩ := AY7.out
          have g0 : w7.cell? ⟨w5.heap.size, 0, none⟩ = some (.string o2) := hA7 0
          have g1 : w7.cell? ⟨w5.heap.size, 1, none⟩ = some (.string n2) := hA7 1
          have g2 : w7.cell? ⟨w5.heap.size, 2, none⟩ = some (.int .i64 t2) := hA7 2
          have g3 : w7.cell? ⟨w5.heap.size, 3, none⟩ = some (.int .i64 k2) := hA7 3
          have g4 : w7.cell? ⟨w5.heap.size, 4, none⟩ = some (.string s2) := hA7 4
          have g5 : w7.cell? ⟨w5.heap.size, 5, none⟩ = some (.slice p2 m2 c2) := hA7 5
          have g6 : w7.cell? ⟨w5.heap.size, 6, none⟩ = some (.int .i64 a2) := hA7 6
          have cZ7 := size_any y (fun _ => True) _ w7 HY7.out (by omega)
          rw [hysz] at cZ7
          have hyz1 : ¬ (y.size : Int) < 1 := by omega
          have hyz2 : ¬ (200 : Int) < (y.size : Int) := by omega
          clear cC6 b7 hA7 AY HY6 B6
          go_wp2_with fail
          refine cZ7.mono ?_
          rintro e' w8 ⟨rfl, b8⟩
          have B8 : Aside (Below (w.heap.size + 1) (w.alloc (.cells #[.string o1, .string n1, .int .i64 t1, .int .i64 k1, .string s1, .slice p1 m1 c1, .int .i64 a1] 26)) w8) := B7.out.trans (b8.mono hz7)
          have HY8 : Aside (ExIn w8 (fun _ => True) (.agg #[.string o2, .string n2, .int .i64 t2, .int .i64 k2, .string s2, .slice p2 m2 c2, .int .i64 a2]) y) := HY7.out.on b8
          have AY8 : Aside (At7 w8 w5.heap.size #[.string o2, .string n2, .int .i64 t2, .int .i64 k2, .string s2, .slice p2 m2 c2, .int .i64 a2]) := AY7.out.on b8
          have hz8 := (E0.out _ B8.out).2.1
          clear g0 g1 g2 g3 g4 g5 g6 cZ7 b8 AY7 HY7 B7 hl7
          obtain ⟨hA8, hl8⟩ := AY8.out
          have g0 : w8.cell? ⟨w5.heap.size, 0, none⟩ = some (.string o2) := hA8 0
          have g1 : w8.cell? ⟨w5.heap.size, 1, none⟩ = some (.string n2) := hA8 1
          have g2 : w8.cell? ⟨w5.heap.size, 2, none⟩ = some (.int .i64 t2) := hA8 2
          have g3 : w8.cell? ⟨w5.heap.size, 3, none⟩ = some (.int .i64 k2) := hA8 3
          have g4 : w8.cell? ⟨w5.heap.size, 4, none⟩ = some (.string s2) := hA8 4
          have g5 : w8.cell? ⟨w5.heap.size, 5, none⟩ = some (.slice p2 m2 c2) := hA8 5
          have g6 : w8.cell? ⟨w5.heap.size, 6, none⟩ = some (.int .i64 a2) := hA8 6
          have cZ8 := size_any y (fun _ => True) _ w8 HY8.out (by omega)
          rw [hysz] at cZ8
          clear hA8
          go_wp2_with fail
          refine cZ8.mono ?_
          rintro e' w9 ⟨rfl, b9⟩
          have B9 : Aside (Below (w.heap.size + 1) (w.alloc (.cells #[.string o1, .string n1, .int .i64 t1, .int .i64 k1, .string s1, .slice p1 m1 c1, .int .i64 a1] 26)) w9) := B8.out.trans (b9.mono hz8)
          have HY9 : Aside (ExIn w9 (fun _ => True) (.agg #[.string o2, .string n2, .int .i64 t2, .int .i64 k2, .string s2, .slice p2 m2 c2, .int .i64 a2]) y) := HY8.out.on b9
          have AY9 : Aside (At7 w9 w5.heap.size #[.string o2, .string n2, .int .i64 t2, .int .i64 k2, .string s2, .slice p2 m2 c2, .int .i64 a2]) := AY8.out.on b9
          have hz9 := (E0.out _ B9.out).2.1
          clear g0 g1 g2 g3 g4 g5 g6 cZ8 b9 AY8 HY8 B8 hl8
          go_upto_if 113 with fail
          go_cut [13, 14] (fun _ _ wx => Aside (Below w9.heap.size w9 wx))
          case first => as_aux_lemma =>
            by_cases hl : s.size ≤ 398
            · have hlz : (s.size : Int) ≤ 398 := by omega
              obtain ⟨g, hg, hgs⟩ := parse_bracket HPY.out (by simpa using hl)
              have hsz2 : ((⟨#[40]⟩ : ByteArray) ++ s ++ ⟨#[41]⟩).size ≤ maxLen := by
                rw [ByteArray.size_append, ByteArray.size_append]
                have : (⟨#[40]⟩ : ByteArray).size = 1 := rfl
                have : (⟨#[41]⟩ : ByteArray).size = 1 := rfl
                unfold maxLen; omega
              have cG := parse_tree ((⟨#[40]⟩ : ByteArray) ++ s ++ ⟨#[41]⟩) w9 (HTE.out _ B9.out).1 (HTE.out _ B9.out).2 g 0 0 (by rw [show ((⟨#[40]⟩ : ByteArray) ++ s ++ ⟨#[41]⟩).data.toList = 40 :: (s.data.toList ++ [41]) by simp]; exact hg) hsz2
              go_wp2_with fail
              refine cG.mono ?_
              rintro e' w10 ⟨⟨vg, rfl, hvg⟩, b10⟩
              have hvg2 : ExIn w10 (fun _ => True) vg g := ExIn.low (fun _ _ _ => trivial) _ _ hvg.out
              obtain ⟨o3, n3, t3, k3, s3, p3, m3, c3, a3, rfl⟩ := hvg2.agg
              obtain ⟨hA10, hl10⟩ := AY9.out.on b10
              have g0 : w10.cell? ⟨w5.heap.size, 0, none⟩ = some (.string o2) := hA10 0
              have g1 : w10.cell? ⟨w5.heap.size, 1, none⟩ = some (.string n2) := hA10 1
              have g2 : w10.cell? ⟨w5.heap.size, 2, none⟩ = some (.int .i64 t2) := hA10 2
              have g3 : w10.cell? ⟨w5.heap.size, 3, none⟩ = some (.int .i64 k2) := hA10 3
              have g4 : w10.cell? ⟨w5.heap.size, 4, none⟩ = some (.string s2) := hA10 4
              have g5 : w10.cell? ⟨w5.heap.size, 5, none⟩ = some (.slice p2 m2 c2) := hA10 5
              have g6 : w10.cell? ⟨w5.heap.size, 6, none⟩ = some (.int .i64 a2) := hA10 6
              have b11 : Below w9.heap.size w9 ((w10.alloc (.cells #[.string o3, .string n3, .int .i64 t3, .int .i64 k3, .string s3, .slice p3 m3 c3, .int .i64 a3] 26)).alloc (.cells #[.int .i64 0, .int .i64 ((0 : Nat) : Int)] 31)) := (b10.alloc b10.size _).alloc (by have := b10.size; simp; omega) _
              have cE := treeSame_any g y (fun _ => True) _ _ ((w10.alloc (.cells #[.string o3, .string n3, .int .i64 t3, .int .i64 k3, .string s3, .slice p3 m3 c3, .int .i64 a3] 26)).alloc (.cells #[.int .i64 0, .int .i64 ((0 : Nat) : Int)] 31)) (hvg2.on (((Below.refl _ _).alloc (Nat.le_refl _) _).alloc (by simp) _)) (HY9.out.on b11) (by rw [(same_size g y hgs).1]; omega)
              rw [hgs] at cE
              clear cG hvg hA10
              go_wp2_with fail
              refine cE.mono ?_
              rintro e' w12 ⟨rfl, b12⟩
              have b13 := b11.trans (b12.mono b11.size)
              clear cE b12 b11
              go_wp2
              go_meet
              case rel => exact b13
            · have hlz : ¬ (s.size : Int) ≤ 398 := by omega
              go_wp2
              go_meet
              case rel => exact (show Aside _ from Below.refl _ _)
          case rest => as_aux_lemma =>
            have b10 : Aside (Below w9.heap.size w9 _) := hcut
            rename World => w10
            clear hcut
            have B10 : Aside (Below (w.heap.size + 1) (w.alloc (.cells #[.string o1, .string n1, .int .i64 t1, .int .i64 k1, .string s1, .slice p1 m1 c1, .int .i64 a1] 26)) w10) := B9.out.trans (b10.out.mono hz9)
            have HY10 : Aside (ExIn w10 (fun _ => True) (.agg #[.string o2, .string n2, .int .i64 t2, .int .i64 k2, .string s2, .slice p2 m2 c2, .int .i64 a2]) y) := HY9.out.on b10.out
            have AY10 : Aside (At7 w10 w5.heap.size #[.string o2, .string n2, .int .i64 t2, .int .i64 k2, .string s2, .slice p2 m2 c2, .int .i64 a2]) := AY9.out.on b10.out
            have hz10 := (E0.out _ B10.out).2.1
            clear b10 HY9 AY9 B9
            obtain ⟨hA10, hl10⟩ := AY10.out
            have g0 : w10.cell? ⟨w5.heap.size, 0, none⟩ = some (.string o2) := hA10 0
            have g1 : w10.cell? ⟨w5.heap.size, 1, none⟩ = some (.string n2) := hA10 1
            have g2 : w10.cell? ⟨w5.heap.size, 2, none⟩ = some (.int .i64 t2) := hA10 2
            have g3 : w10.cell? ⟨w5.heap.size, 3, none⟩ = some (.int .i64 k2) := hA10 3
            have g4 : w10.cell? ⟨w5.heap.size, 4, none⟩ = some (.string s2) := hA10 4
            have g5 : w10.cell? ⟨w5.heap.size, 5, none⟩ = some (.slice p2 m2 c2) := hA10 5
            have g6 : w10.cell? ⟨w5.heap.size, 6, none⟩ = some (.int .i64 a2) := hA10 6
            obtain ⟨T, hT⟩ : ∃ T : ByteArray, T.data.toList = txP y := ⟨⟨(txP y).toArray⟩, rfl⟩
            have hTs : T.size = T.data.toList.length := by simp
            have cP10 := treePrint_any y (fun _ => True) _ w10 (HTE.out _ B10.out).1 (fun W' hW' => (HTE.out W' (B10.out.trans (hW'.mono hz10))).1.env) HY10.out (by omega) hyb T 0 hck (by rw [hck, if_pos rfl]; exact hT)
            have hTm : T.size ≤ 20000 := by
              have h1 := tx_len y 1 (ckP_zero hck).2 hyb
              rw [hTs, hT]; omega
            rw [show errV 0 = .nilIface from rfl] at cP10
            obtain ⟨z, Ez, Pz, hpz⟩ : ∃ z Ez Pz, parseP T.data.toList = (z, Ez, Pz) := ⟨_, _, _, rfl⟩
            have HZ : Hid (T.size ≤ 400 → Ez = 0 ∧ sameE false z y = true ∧ z.size ≤ 1048576) := fun h => by
              obtain ⟨e, he, hse⟩ := parse_tx hck hyb (by rw [← hT, ← hTs]; exact h)
              rw [hT, he] at hpz
              simp only [Prod.mk.injEq] at hpz
              obtain ⟨rfl, rfl, _⟩ := hpz
              exact ⟨rfl, hse, by rw [(same_size _ _ hse).1]; omega⟩
            clear hT hA10 hTs
            go_wp2_with fail
            refine cP10.mono ?_
            rintro e' w11 ⟨rfl, b11⟩
            have B11 : Aside (Below (w.heap.size + 1) (w.alloc (.cells #[.string o1, .string n1, .int .i64 t1, .int .i64 k1, .string s1, .slice p1 m1 c1, .int .i64 a1] 26)) w11) := B10.out.trans (b11.mono hz10)
            have HY11 : Aside (ExIn w11 (fun _ => True) (.agg #[.string o2, .string n2, .int .i64 t2, .int .i64 k2, .string s2, .slice p2 m2 c2, .int .i64 a2]) y) := HY10.out.on b11
            have AY11 : Aside (At7 w11 w5.heap.size #[.string o2, .string n2, .int .i64 t2, .int .i64 k2, .string s2, .slice p2 m2 c2, .int .i64 a2]) := AY10.out.on b11
            have hz11 := (E0.out _ B11.out).2.1
            have cZ11 := parse_tree T w11 (HTE.out _ B11.out).1 (HTE.out _ B11.out).2 z Ez Pz hpz (by unfold maxLen; omega)
            clear cP10 b11 g0 g1 g2 g3 g4 g5 g6 HY10 AY10 B10 hl10 hpz
            go_wp2_with fail
            refine cZ11.mono ?_
            rintro e' w12 ⟨⟨vz, rfl, hvz⟩, b12⟩
            have hvz2 : ExIn w12 (fun _ => True) vz z := ExIn.low (fun _ _ _ => trivial) _ _ hvz.out
            obtain ⟨o3, n3, t3, k3, s3, p3, m3, c3, a3, rfl⟩ := hvz2.agg
            have B12 : Below (w.heap.size + 1) (w.alloc (.cells #[.string o1, .string n1, .int .i64 t1, .int .i64 k1, .string s1, .slice p1 m1 c1, .int .i64 a1] 26)) w12 := B11.out.trans (b12.mono hz11)
            have hz12 := (E0.out _ B12).2.1
            have B13 : Aside (Below (w.heap.size + 1) (w.alloc (.cells #[.string o1, .string n1, .int .i64 t1, .int .i64 k1, .string s1, .slice p1 m1 c1, .int .i64 a1] 26)) ((w12.alloc (.cells #[.string o3, .string n3, .int .i64 t3, .int .i64 k3, .string s3, .slice p3 m3 c3, .int .i64 a3] 26)).alloc (.cells #[.int .i64 Ez, .int .i64 (Pz : Int)] 31))) := (B12.alloc hz12 _).alloc (by simp; omega) _
            by_cases hl : T.size ≤ 400
            · have hlz : ¬ (400 : Int) < (T.size : Int) := by omega
              obtain ⟨rfl, hzs, hzz⟩ := HZ.out hl
              have b13 : Below w11.heap.size w11 ((w12.alloc (.cells #[.string o3, .string n3, .int .i64 t3, .int .i64 k3, .string s3, .slice p3 m3 c3, .int .i64 a3] 26)).alloc (.cells #[.int .i64 0, .int .i64 (Pz : Int)] 31)) := (b12.alloc b12.size _).alloc (by have := b12.size; simp; omega) _
              have cE := treeSame_any z y (fun _ => True) _ _ ((w12.alloc (.cells #[.string o3, .string n3, .int .i64 t3, .int .i64 k3, .string s3, .slice p3 m3 c3, .int .i64 a3] 26)).alloc (.cells #[.int .i64 0, .int .i64 (Pz : Int)] 31)) (hvz2.on (((Below.refl _ _).alloc (Nat.le_refl _) _).alloc (by simp) _)) (HY11.out.on b13) hzz
              rw [hzs] at cE
              obtain ⟨hA12, hl12⟩ := AY11.out.on b12
              have g0 : w12.cell? ⟨w5.heap.size, 0, none⟩ = some (.string o2) := hA12 0
              have g1 : w12.cell? ⟨w5.heap.size, 1, none⟩ = some (.string n2) := hA12 1
              have g2 : w12.cell? ⟨w5.heap.size, 2, none⟩ = some (.int .i64 t2) := hA12 2
              have g3 : w12.cell? ⟨w5.heap.size, 3, none⟩ = some (.int .i64 k2) := hA12 3
              have g4 : w12.cell? ⟨w5.heap.size, 4, none⟩ = some (.string s2) := hA12 4
              have g5 : w12.cell? ⟨w5.heap.size, 5, none⟩ = some (.slice p2 m2 c2) := hA12 5
              have g6 : w12.cell? ⟨w5.heap.size, 6, none⟩ = some (.int .i64 a2) := hA12 6
              clear hvz hA12 b13
              go_wp2_with fail
              refine cE.mono ?_
              rintro e' w14 ⟨rfl, b14⟩
              have B14 := (E0.out _ (B13.out.trans (b14.mono (by simp; omega)))).2.2
              clear cE b14
              go_wp2
              go_ret
              exact ⟨rfl, B14⟩
            · have hlz : (400 : Int) < (T.size : Int) := by omega
              have B14 := (E0.out _ B13.out).2.2
              go_wp2
              go_ret
              exact ⟨rfl, B14⟩
        · have hEb : (Ey != 0) = true := by simpa using hE
          have B14 := (E0.out _ B6.out).2.2
          go_wp2
          go_ret
          exact ⟨rfl, B14⟩
    · have qK : (K == 0) = false := by simpa using hK0
      have B4 := B3


      clear cX qKK B3 hB3 hK0
      have hz4 := (E0.out _ B4.out).2.1
      have cS4 := cS.out _ B4.out
      clear cS
      go_wp2_with fail
      refine cS4.mono ?_
      rintro e' w5 ⟨⟨vy, rfl, hvy⟩, b5⟩
      have hvy2 : ExIn w5 (fun _ => True) vy y := ExIn.low (fun _ _ _ => trivial) _ _ hvy.out
      obtain ⟨o2, n2, t2, k2, s2, p2, m2, c2, a2, rfl⟩ := hvy2.agg
      have B5 : Below (w.heap.size + 1) (w.alloc (.cells #[.string o1, .string n1, .int .i64 t1, .int .i64 k1, .string s1, .slice p1 m1 c1, .int .i64 a1] 26)) w5 := B4.out.trans (b5.mono hz4)
      have hz5 := (E0.out _ B5).2.1
      have B6 : Aside (Below (w.heap.size + 1) (w.alloc (.cells #[.string o1, .string n1, .int .i64 t1, .int .i64 k1, .string s1, .slice p1 m1 c1, .int .i64 a1] 26)) ((w5.alloc (.cells #[.string o2, .string n2, .int .i64 t2, .int .i64 k2, .string s2, .slice p2 m2 c2, .int .i64 a2] 26)).alloc (.cells #[.int .i64 Ey, .int .i64 (Py : Int)] 31))) := (B5.alloc hz5 _).alloc (by simp; omega) _
      have HY6 : Aside (ExIn ((w5.alloc (.cells #[.string o2, .string n2, .int .i64 t2, .int .i64 k2, .string s2, .slice p2 m2 c2, .int .i64 a2] 26)).alloc (.cells #[.int .i64 Ey, .int .i64 (Py : Int)] 31)) (fun _ => True) (.agg #[.string o2, .string n2, .int .i64 t2, .int .i64 k2, .string s2, .slice p2 m2 c2, .int .i64 a2]) y) := hvy2.on (((Below.refl _ _).alloc (Nat.le_refl _) _).alloc (by simp) _)
      clear cS4 b5 hvy hvy2 B4
      by_cases hE : Ey = 0
      · subst hE
        obtain ⟨hck, hyb, hyl, hp0⟩ := parse_right HPY.out
        clear hp0
        have hysz : (y.pre 1).length = y.size := size_pre y 1
        have hy1 : 1 ≤ y.size := by
          obtain ⟨oo, nn, tt, kk, ss, pp, ll⟩ := y
          rw [Ex.size]; omega
        have AY : Aside (At7 ((w5.alloc (.cells #[.string o2, .string n2, .int .i64 t2, .int .i64 k2, .string s2, .slice p2 m2 c2, .int .i64 a2] 26)).alloc (.cells #[.int .i64 0, .int .i64 (Py : Int)] 31)) w5.heap.size #[.string o2, .string n2, .int .i64 t2, .int .i64 k2, .string s2, .slice p2 m2 c2, .int .i64 a2]) := (At7.new w5 #[.string o2, .string n2, .int .i64 t2, .int .i64 k2, .string s2, .slice p2 m2 c2, .int .i64 a2] 26).on ((Below.refl _ _).alloc (Nat.le_refl _) _)
        have cC6 := check_tree y (fun _ => True) _ _ (HTE.out _ B6.out).1 HY6.out (by omega)
        rw [hck, show errV 0 = .nilIface from rfl] at cC6
        go_wp2_with fail
        refine cC6.mono ?_
        rintro e' w7 ⟨rfl, b7⟩
        have B7 : Aside (Below (w.heap.size + 1) (w.alloc (.cells #[.string o1, .string n1, .int .i64 t1, .int .i64 k1, .string s1, .slice p1 m1 c1, .int .i64 a1] 26)) w7) := B6.out.trans (b7.mono (by simp; omega))
        have HY7 : Aside (ExIn w7 (fun _ => True) (.agg #[.string o2, .string n2, .int .i64 t2, .int .i64 k2, .string s2, .slice p2 m2 c2, .int .i64 a2]) y) := HY6.out.on b7
        have AY7 : Aside (At7 w7 w5.heap.size #[.string o2, .string n2, .int .i64 t2, .int .i64 k2, .string s2, .slice p2 m2 c2, .int .i64 a2]) := AY.out.on b7
        have hz7 := (E0.out _ B7.out).2.1
        obtain ⟨hA7, hl7⟩ := AY7.out
        have g0 : w7.cell? ⟨w5.heap.size, 0, none⟩ = some (.string o2) := hA7 0
        have g1 : w7.cell? ⟨w5.heap.size, 1, none⟩ = some (.string n2) := hA7 1
        have g2 : w7.cell? ⟨w5.heap.size, 2, none⟩ = some (.int .i64 t2) := hA7 2
        have g3 : w7.cell? ⟨w5.heap.size, 3, none⟩ = some (.int .i64 k2) := hA7 3
        have g4 : w7.cell? ⟨w5.heap.size, 4, none⟩ = some (.string s2) := hA7 4
        have g5 : w7.cell? ⟨w5.heap.size, 5, none⟩ = some (.slice p2 m2 c2) := hA7 5
        have g6 : w7.cell? ⟨w5.heap.size, 6, none⟩ = some (.int .i64 a2) := hA7 6
        have cZ7 := size_any y (fun _ => True) _ w7 HY7.out (by omega)
        rw [hysz] at cZ7
        have hyz1 : ¬ (y.size : Int) < 1 := by omega
        have hyz2 : ¬ (200 : Int) < (y.size : Int) := by omega
        clear cC6 b7 hA7 AY HY6 B6
        go_wp2_with fail
        refine cZ7.mono ?_
        rintro e' w8 ⟨rfl, b8⟩
        have B8 : Aside (Below (w.heap.size + 1) (w.alloc (.cells #[.string o1, .string n1, .int .i64 t1, .int .i64 k1, .string s1, .slice p1 m1 c1, .int .i64 a1] 26)) w8) := B7.out.trans (b8.mono hz7)
        have HY8 : Aside (ExIn w8 (fun _ => True) (.agg #[.string o2, .string n2, .int .i64 t2, .int .i64 k2, .string s2, .slice p2 m2 c2, .int .i64 a2]) y) := HY7.out.on b8
        have AY8 : Aside (At7 w8 w5.heap.size #[.string o2, .string n2, .int .i64 t2, .int .i64 k2, .string s2, .slice p2 m2 c2, .int .i64 a2]) := AY7.out.on b8
        have hz8 := (E0.out _ B8.out).2.1
        clear g0 g1 g2 g3 g4 g5 g6 cZ7 b8 AY7 HY7 B7 hl7
        obtain ⟨hA8, hl8⟩ := AY8.out
        have g0 : w8.cell? ⟨w5.heap.size, 0, none⟩ = some (.string o2) := hA8 0
        have g1 : w8.cell? ⟨w5.heap.size, 1, none⟩ = some (.string n2) := hA8 1
        have g2 : w8.cell? ⟨w5.heap.size, 2, none⟩ = some (.int .i64 t2) := hA8 2
        have g3 : w8.cell? ⟨w5.heap.size, 3, none⟩ = some (.int .i64 k2) := hA8 3
        have g4 : w8.cell? ⟨w5.heap.size, 4, none⟩ = some (.string s2) := hA8 4
        have g5 : w8.cell? ⟨w5.heap.size, 5, none⟩ = some (.slice p2 m2 c2) := hA8 5
        have g6 : w8.cell? ⟨w5.heap.size, 6, none⟩ = some (.int .i64 a2) := hA8 6
        have cZ8 := size_any y (fun _ => True) _ w8 HY8.out (by omega)
        rw [hysz] at cZ8
        clear hA8
        go_wp2_with fail
        refine cZ8.mono ?_
        rintro e' w9 ⟨rfl, b9⟩
        have B9 : Aside (Below (w.heap.size + 1) (w.alloc (.cells #[.string o1, .string n1, .int .i64 t1, .int .i64 k1, .string s1, .slice p1 m1 c1, .int .i64 a1] 26)) w9) := B8.out.trans (b9.mono hz8)
        have HY9 : Aside (ExIn w9 (fun _ => True) (.agg #[.string o2, .string n2, .int .i64 t2, .int .i64 k2, .string s2, .slice p2 m2 c2, .int .i64 a2]) y) := HY8.out.on b9
        have AY9 : Aside (At7 w9 w5.heap.size #[.string o2, .string n2, .int .i64 t2, .int .i64 k2, .string s2, .slice p2 m2 c2, .int .i64 a2]) := AY8.out.on b9
        have hz9 := (E0.out _ B9.out).2.1
        clear g0 g1 g2 g3 g4 g5 g6 cZ8 b9 AY8 HY8 B8 hl8
        go_upto_if 113 with fail
        go_cut [13, 14] (fun _ _ wx => Aside (Below w9.heap.size w9 wx))
        case first => as_aux_lemma =>
          by_cases hl : s.size ≤ 398
          · have hlz : (s.size : Int) ≤ 398 := by omega
            obtain ⟨g, hg, hgs⟩ := parse_bracket HPY.out (by simpa using hl)
            have hsz2 : ((⟨#[40]⟩ : ByteArray) ++ s ++ ⟨#[41]⟩).size ≤ maxLen := by
              rw [ByteArray.size_append, ByteArray.size_append]
              have : (⟨#[40]⟩ : ByteArray).size = 1 := rfl
              have : (⟨#[41]⟩ : ByteArray).size = 1 := rfl
              unfold maxLen; omega
            have cG := parse_tree ((⟨#[40]⟩ : ByteArray) ++ s ++ ⟨#[41]⟩) w9 (HTE.out _ B9.out).1 (HTE.out _ B9.out).2 g 0 0 (by rw [show ((⟨#[40]⟩ : ByteArray) ++ s ++ ⟨#[41]⟩).data.toList = 40 :: (s.data.toList ++ [41]) by simp]; exact hg) hsz2
            go_wp2_with fail
            refine cG.mono ?_
            rintro e' w10 ⟨⟨vg, rfl, hvg⟩, b10⟩
            have hvg2 : ExIn w10 (fun _ => True) vg g := ExIn.low (fun _ _ _ => trivial) _ _ hvg.out
            obtain ⟨o3, n3, t3, k3, s3, p3, m3, c3, a3, rfl⟩ := hvg2.agg
            obtain ⟨hA10, hl10⟩ := AY9.out.on b10
            have g0 : w10.cell? ⟨w5.heap.size, 0, none⟩ = some (.string o2) := hA10 0
            have g1 : w10.cell? ⟨w5.heap.size, 1, none⟩ = some (.string n2) := hA10 1
            have g2 : w10.cell? ⟨w5.heap.size, 2, none⟩ = some (.int .i64 t2) := hA10 2
            have g3 : w10.cell? ⟨w5.heap.size, 3, none⟩ = some (.int .i64 k2) := hA10 3
            have g4 : w10.cell? ⟨w5.heap.size, 4, none⟩ = some (.string s2) := hA10 4
            have g5 : w10.cell? ⟨w5.heap.size, 5, none⟩ = some (.slice p2 m2 c2) := hA10 5
            have g6 : w10.cell? ⟨w5.heap.size, 6, none⟩ = some (.int .i64 a2) := hA10 6
            have b11 : Below w9.heap.size w9 ((w10.alloc (.cells #[.string o3, .string n3, .int .i64 t3, .int .i64 k3, .string s3, .slice p3 m3 c3, .int .i64 a3] 26)).alloc (.cells #[.int .i64 0, .int .i64 ((0 : Nat) : Int)] 31)) := (b10.alloc b10.size _).alloc (by have := b10.size; simp; omega) _
            have cE := treeSame_any g y (fun _ => True) _ _ ((w10.alloc (.cells #[.string o3, .string n3, .int .i64 t3, .int .i64 k3, .string s3, .slice p3 m3 c3, .int .i64 a3] 26)).alloc (.cells #[.int .i64 0, .int .i64 ((0 : Nat) : Int)] 31)) (hvg2.on (((Below.refl _ _).alloc (Nat.le_refl _) _).alloc (by simp) _)) (HY9.out.on b11) (by rw [(same_size g y hgs).1]; omega)
            rw [hgs] at cE
            clear cG hvg hA10
            go_wp2_with fail
            refine cE.mono ?_
            rintro e' w12 ⟨rfl, b12⟩
            have b13 := b11.trans (b12.mono b11.size)
            clear cE b12 b11
            go_wp2
            go_meet
            case rel => exact b13
          · have hlz : ¬ (s.size : Int) ≤ 398 := by omega
            go_wp2
            go_meet
            case rel => exact (show Aside _ from Below.refl _ _)
        case rest => as_aux_lemma =>
          have b10 : Aside (Below w9.heap.size w9 _) := hcut
          rename World => w10
          clear hcut
          have B10 : Aside (Below (w.heap.size + 1) (w.alloc (.cells #[.string o1, .string n1, .int .i64 t1, .int .i64 k1, .string s1, .slice p1 m1 c1, .int .i64 a1] 26)) w10) := B9.out.trans (b10.out.mono hz9)
          have HY10 : Aside (ExIn w10 (fun _ => True) (.agg #[.string o2, .string n2, .int .i64 t2, .int .i64 k2, .string s2, .slice p2 m2 c2, .int .i64 a2]) y) := HY9.out.on b10.out
          have AY10 : Aside (At7 w10 w5.heap.size #[.string o2, .string n2, .int .i64 t2, .int .i64 k2, .string s2, .slice p2 m2 c2, .int .i64 a2]) := AY9.out.on b10.out
          have hz10 := (E0.out _ B10.out).2.1
          clear b10 HY9 AY9 B9
          obtain ⟨hA10, hl10⟩ := AY10.out
          have g0 : w10.cell? ⟨w5.heap.size, 0, none⟩ = some (.string o2) := hA10 0
          have g1 : w10.cell? ⟨w5.heap.size, 1, none⟩ = some (.string n2) := hA10 1
          have g2 : w10.cell? ⟨w5.heap.size, 2, none⟩ = some (.int .i64 t2) := hA10 2
          have g3 : w10.cell? ⟨w5.heap.size, 3, none⟩ = some (.int .i64 k2) := hA10 3
          have g4 : w10.cell? ⟨w5.heap.size, 4, none⟩ = some (.string s2) := hA10 4
          have g5 : w10.cell? ⟨w5.heap.size, 5, none⟩ = some (.slice p2 m2 c2) := hA10 5
          have g6 : w10.cell? ⟨w5.heap.size, 6, none⟩ = some (.int .i64 a2) := hA10 6
          obtain ⟨T, hT⟩ : ∃ T : ByteArray, T.data.toList = txP y := ⟨⟨(txP y).toArray⟩, rfl⟩
          have hTs : T.size = T.data.toList.length := by simp
          have cP10 := treePrint_any y (fun _ => True) _ w10 (HTE.out _ B10.out).1 (fun W' hW' => (HTE.out W' (B10.out.trans (hW'.mono hz10))).1.env) HY10.out (by omega) hyb T 0 hck (by rw [hck, if_pos rfl]; exact hT)
          have hTm : T.size ≤ 20000 := by
            have h1 := tx_len y 1 (ckP_zero hck).2 hyb
            rw [hTs, hT]; omega
          rw [show errV 0 = .nilIface from rfl] at cP10
          obtain ⟨z, Ez, Pz, hpz⟩ : ∃ z Ez Pz, parseP T.data.toList = (z, Ez, Pz) := ⟨_, _, _, rfl⟩
          have HZ : Hid (T.size ≤ 400 → Ez = 0 ∧ sameE false z y = true ∧ z.size ≤ 1048576) := fun h => by
            obtain ⟨e, he, hse⟩ := parse_tx hck hyb (by rw [← hT, ← hTs]; exact h)
            rw [hT, he] at hpz
            simp only [Prod.mk.injEq] at hpz
            obtain ⟨rfl, rfl, _⟩ := hpz
            exact ⟨rfl, hse, by rw [(same_size _ _ hse).1]; omega⟩
          clear hT hA10 hTs
          go_wp2_with fail
          refine cP10.mono ?_
          rintro e' w11 ⟨rfl, b11⟩
          have B11 : Aside (Below (w.heap.size + 1) (w.alloc (.cells #[.string o1, .string n1, .int .i64 t1, .int .i64 k1, .string s1, .slice p1 m1 c1, .int .i64 a1] 26)) w11) := B10.out.trans (b11.mono hz10)
          have HY11 : Aside (ExIn w11 (fun _ => True) (.agg #[.string o2, .string n2, .int .i64 t2, .int .i64 k2, .string s2, .slice p2 m2 c2, .int .i64 a2]) y) := HY10.out.on b11
          have AY11 : Aside (At7 w11 w5.heap.size #[.string o2, .string n2, .int .i64 t2, .int .i64 k2, .string s2, .slice p2 m2 c2, .int .i64 a2]) := AY10.out.on b11
          have hz11 := (E0.out _ B11.out).2.1
          have cZ11 := parse_tree T w11 (HTE.out _ B11.out).1 (HTE.out _ B11.out).2 z Ez Pz hpz (by unfold maxLen; omega)
          clear cP10 b11 g0 g1 g2 g3 g4 g5 g6 HY10 AY10 B10 hl10 hpz
          go_wp2_with fail
          refine cZ11.mono ?_
          rintro e' w12 ⟨⟨vz, rfl, hvz⟩, b12⟩
          have hvz2 : ExIn w12 (fun _ => True) vz z := ExIn.low (fun _ _ _ => trivial) _ _ hvz.out
          obtain ⟨o3, n3, t3, k3, s3, p3, m3, c3, a3, rfl⟩ := hvz2.agg
          have B12 : Below (w.heap.size + 1) (w.alloc (.cells #[.string o1, .string n1, .int .i64 t1, .int .i64 k1, .string s1, .slice p1 m1 c1, .int .i64 a1] 26)) w12 := B11.out.trans (b12.mono hz11)
          have hz12 := (E0.out _ B12).2.1
          have B13 : Aside (Below (w.heap.size + 1) (w.alloc (.cells #[.string o1, .string n1, .int .i64 t1, .int .i64 k1, .string s1, .slice p1 m1 c1, .int .i64 a1] 26)) ((w12.alloc (.cells #[.string o3, .string n3, .int .i64 t3, .int .i64 k3, .string s3, .slice p3 m3 c3, .int .i64 a3] 26)).alloc (.cells #[.int .i64 Ez, .int .i64 (Pz : Int)] 31))) := (B12.alloc hz12 _).alloc (by simp; omega) _
          by_cases hl : T.size ≤ 400
          · have hlz : ¬ (400 : Int) < (T.size : Int) := by omega
            obtain ⟨rfl, hzs, hzz⟩ := HZ.out hl
            have b13 : Below w11.heap.size w11 ((w12.alloc (.cells #[.string o3, .string n3, .int .i64 t3, .int .i64 k3, .string s3, .slice p3 m3 c3, .int .i64 a3] 26)).alloc (.cells #[.int .i64 0, .int .i64 (Pz : Int)] 31)) := (b12.alloc b12.size _).alloc (by have := b12.size; simp; omega) _
            have cE := treeSame_any z y (fun _ => True) _ _ ((w12.alloc (.cells #[.string o3, .string n3, .int .i64 t3, .int .i64 k3, .string s3, .slice p3 m3 c3, .int .i64 a3] 26)).alloc (.cells #[.int .i64 0, .int .i64 (Pz : Int)] 31)) (hvz2.on (((Below.refl _ _).alloc (Nat.le_refl _) _).alloc (by simp) _)) (HY11.out.on b13) hzz
            rw [hzs] at cE
            obtain ⟨hA12, hl12⟩ := AY11.out.on b12
            have g0 : w12.cell? ⟨w5.heap.size, 0, none⟩ = some (.string o2) := hA12 0
            have g1 : w12.cell? ⟨w5.heap.size, 1, none⟩ = some (.string n2) := hA12 1
            have g2 : w12.cell? ⟨w5.heap.size, 2, none⟩ = some (.int .i64 t2) := hA12 2
            have g3 : w12.cell? ⟨w5.heap.size, 3, none⟩ = some (.int .i64 k2) := hA12 3
            have g4 : w12.cell? ⟨w5.heap.size, 4, none⟩ = some (.string s2) := hA12 4
            have g5 : w12.cell? ⟨w5.heap.size, 5, none⟩ = some (.slice p2 m2 c2) := hA12 5
            have g6 : w12.cell? ⟨w5.heap.size, 6, none⟩ = some (.int .i64 a2) := hA12 6
            clear hvz hA12 b13
            go_wp2_with fail
            refine cE.mono ?_
            rintro e' w14 ⟨rfl, b14⟩
            have B14 := (E0.out _ (B13.out.trans (b14.mono (by simp; omega)))).2.2
            clear cE b14
            go_wp2
            go_ret
            exact ⟨rfl, B14⟩
          · have hlz : (400 : Int) < (T.size : Int) := by omega
            have B14 := (E0.out _ B13.out).2.2
            go_wp2
            go_ret
            exact ⟨rfl, B14⟩
      · have hEb : (Ey != 0) = true := by simpa using hE
        have B14 := (E0.out _ B6.out).2.2
        go_wp2
        go_ret
        exact ⟨rfl, B14⟩
end Go.Proofs.YtpgadbpkednjkaaGreatDoor
