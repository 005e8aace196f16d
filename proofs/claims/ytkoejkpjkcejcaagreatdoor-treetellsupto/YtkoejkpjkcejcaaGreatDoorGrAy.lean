/-
  TreeOz, RefTx, VlB, Arith, EvV, in one text.
-/
import Derived.Test.YtkoejkpjkcejcaaGreatDoorGrAw
import Derived.Test.YtkoejkpjkcejcaaGreatDoorGrAx
import Derived.Test.YtkoejkpjkcejcaaGreatDoorGrAq
import Derived.Test.YtkoejkpjkcejcaaGreatDoorGrAj
import Derived.Test.YtkoejkpjkcejcaaGreatDoorGrAp
import Derived.Test.YtkoejkpjkcejcaaGreatDoorGrAr
import Derived.Test.YtkoejkpjkcejcaaGreatDoorGrAu
import Derived.Test.YtkoejkpjkcejcaaGreatDoorGrAa
import Derived.OwnWalk
import Derived.Deep.Heap
import Derived.RowKit
import Derived.Test.YtkoejkpjkcejcaaGreatDoorQKdRuleC
namespace Go.Proofs.YtkoejkpjkcejcaaGreatDoor
open Go.RowKit
set_option linter.unusedVariables false

/-- No more nodes than four for each word, and one. -/
def Bd (ts : List Tok) (sub : St → Ex × St) : Prop := ∀ st, st.i ≤ ts.length → (sub st).1.size + 4 * st.i ≤ 4 * (sub st).2.i + 1
theorem sizes_add : ∀ a b : List Ex, Ex.sizes (a ++ b) = Ex.sizes a + Ex.sizes b
  | [], b => by rw [List.nil_append, Ex.sizes]; omega
  | x :: a, b => by rw [List.cons_append, Ex.sizes, Ex.sizes, sizes_add a b]; omega
theorem size_op1 (op : List UInt8) (pos : Int) (l : List Ex) : (op1 op pos l).size = 1 + Ex.sizes l := by rw [op1, Ex.size]
theorem pLoop_b {ts : List Tok} {en : Nat} {sub : St → Ex × St} (hs : Mono ts sub) (hb : Bd ts sub) (lv i0 : Nat) : ∀ (k : Nat) (e : Ex) (st : St), st.i ≤ ts.length → e.size + 4 * i0 ≤ 4 * st.i + 1 → (pLoop ts en sub lv k e st).1.size + 4 * i0 ≤ 4 * (pLoop ts en sub lv k e st).2.i + 1
  | 0, e, st, h, he => by rw [pLoop]; exact he
  | k + 1, e, st, h, he => by
    rw [pLoop]
    cases hf : firstT ts st (sgl lv) with
    | none => exact he
    | some g =>
      have h1 := isT_lt (firstT_is hf).2
      have hai : (adv st).i = st.i + 1 := rfl
      have h2 := hs (adv st) (by rw [hai]; omega)
      have h3 := hb (adv st) (by rw [hai]; omega)
      rw [hai] at h2 h3
      have h4 : (op1 g (posAt ts en st.i) [e, (sub (adv st)).1]).size + 4 * i0 ≤ 4 * (sub (adv st)).2.i + 1 := by
        rw [size_op1, Ex.sizes, Ex.sizes, Ex.sizes]; omega
      simp only
      split
      · exact h4
      · exact pLoop_b hs hb lv i0 k _ _ h2.2 h4
theorem pArgs_b {ts : List Tok} {en : Nat} {sub : St → Ex × St} (hs : Mono ts sub) (hb : Bd ts sub) (i0 : Nat) : ∀ (k : Nat) (l : List Ex) (st : St), st.i ≤ ts.length → Ex.sizes l + 4 * i0 ≤ 4 * st.i + l.length → Ex.sizes (pArgs ts en sub k l st).1 + 4 * i0 ≤ 4 * (pArgs ts en sub k l st).2.i + l.length + k
  | 0, l, st, h, he => by rw [pArgs]; exact he
  | k + 1, l, st, h, he => by
    rw [pArgs]
    have h1 : st.i ≤ (if l = [] then st else needT ts en st [44]).i ∧ (if l = [] then st else needT ts en st [44]).i ≤ ts.length := by
      split
      · exact ⟨Nat.le_refl _, h⟩
      · exact needT_i en _ h
    generalize (if l = [] then st else needT ts en st [44]) = s2 at h1
    have h2 := hs _ h1.2
    have h3 := hb _ h1.2
    have h4 := pArgs_b (en := en) hs hb i0 k (l ++ [(sub s2).1]) (sub s2).2 h2.2 (by rw [sizes_add, Ex.sizes, Ex.sizes, List.length_append, List.length_singleton]; omega)
    rw [List.length_append, List.length_singleton] at h4
    omega
theorem pCall_b {ts : List Tok} {en : Nat} {sub : St → Ex × St} (hs : Mono ts sub) (hb : Bd ts sub) (op : List UInt8) (many : Nat) (hm : many ≤ 3) (pos : Int) (st : St) (h : st.i ≤ ts.length) : (pCall ts en sub op many pos st).1.size + 4 * st.i ≤ 4 * (pCall ts en sub op many pos st).2.i + 4 := by
  rw [pCall]
  have h1 := needT_i en [40] h
  have h2 := pArgs_i (en := en) hs many [] (needT ts en st [40]) h1.2
  have h3 := needT_i en [41] h2.2
  have h4 := pArgs_b (en := en) hs hb (needT ts en st [40]).i many [] (needT ts en st [40]) h1.2 (by rw [Ex.sizes]; simp)
  simp only [List.length_nil] at h4 ⊢
  rw [size_op1]
  omega
theorem leaf_size (op nm : ByteArray) (t n : Int) (s : ByteArray) (pos : Int) : (Ex.node op nm t n s pos []).size = 1 := by rw [Ex.size, Ex.sizes]
theorem pOne_b {ts : List Tok} {en : Nat} {sub : St → Ex × St} {rv : ByteArray → Int × Int × List UInt8 × Int} (hs : Mono ts sub) (hb : Bd ts sub) : Bd ts (pOne ts en sub rv) := by
  intro st h
  have hai : (adv st).i = st.i + 1 := rfl
  rw [pOne]
  split
  · rename_i h1
    have h1 := isT_lt h1
    have h2 := hs (adv st) (by rw [hai]; omega)
    have h3 := needT_i en [41] h2.2
    have h4 := hb (adv st) (by rw [hai]; omega)
    rw [hai] at h2 h4
    simp only
    omega
  · split
    · rename_i h1
      have h1 := isT_lt h1
      have h2 := pCall_b (en := en) hs hb [108, 101, 110] 1 (by decide) (posAt ts en st.i) (adv st) (by rw [hai]; omega)
      rw [hai] at h2
      omega
    · split
      · rename_i h1
        have h1 := isT_lt h1
        have h2 := pCall_b (en := en) hs hb [105, 102] 3 (by decide) (posAt ts en st.i) (adv st) (by rw [hai]; omega)
        rw [hai] at h2
        omega
      · have hc : (pCol ts en st).1.size + 4 * st.i ≤ 4 * (pCol ts en st).2.i + 1 := by
          have := (takeT_i en (st := st) h).1
          rw [pCol, leaf_size]
          simp only
          omega
        cases ht : ts[st.i]? with
        | none => exact hc
        | some t =>
          simp only
          split
          · rw [leaf_size, hai]; omega
          · exact hc
theorem ex0_size : ex0.size = 1 := by rw [ex0, leaf_size]
theorem pE_b {ts : List Tok} {en : Nat} {rv : ByteArray → Int × Int × List UInt8 × Int} : ∀ (f lv : Nat), Bd ts (pE ts en rv f lv)
  | 0, lv => fun st h => by rw [pE, ex0_size]; simp only; omega
  | f + 1, lv => fun st h => by
    have hai : (adv st).i = st.i + 1 := rfl
    rw [pE]
    split
    · rw [ex0_size]; simp only; omega
    · split
      · rename_i h1
        have h1 := isT_lt h1.2
        have h2 := pE_b (ts := ts) (en := en) (rv := rv) f 2 (adv st) (by rw [hai]; omega)
        rw [hai] at h2
        simp only
        rw [size_op1, Ex.sizes, Ex.sizes]
        omega
      · split
        · split
          · rename_i h1
            have h1 := isT_lt h1
            have h2 := pE_b (ts := ts) (en := en) (rv := rv) f 5 (adv st) (by rw [hai]; omega)
            rw [hai] at h2
            simp only
            rw [size_op1, Ex.sizes, Ex.sizes]
            omega
          · exact pOne_b (pE_i f 0) (pE_b f 0) st h
        · exact pLoop_b (pE_i f (lv + 1)) (pE_b f (lv + 1)) lv st.i _ _ _ (pE_i f (lv + 1) st h).2 (pE_b f (lv + 1) st h)
theorem lex_fit {l : List UInt8} (h : (lexAll l).2.1 = 0) : l.length ≤ 400 ∧ (lexAll l).1.length ≤ 400 ∧ ∀ t ∈ (lexAll l).1, t.2.1.size ≤ 400 := by
  have hl : lexAll l = ((lexAll l).1, 0, (lexAll l).2.2) := by rw [← h]
  exact ⟨(lexAll_ok hl).1, (lexAll_fitQ hl).1, fun t ht => (lexAll_fitQ hl).2 t ht⟩
/-- The document's Parse gives what the program's does. -/
theorem refParse_any (s : ByteArray) (w : World) (x : Ex) (E : Int) (P : Nat) (hp : parseP s.data.toList = (x, E, P)) :
    Calls Tryz.prog 6 #[.string s] w fun e w' => (∃ v, e = .returned (.tuple #[v, .int .i64 E, .int .i64 (P : Int)]) ∧ ExIn w' (fun b => w.heap.size ≤ b) v x) ∧ Below w.heap.size w w' := by
  obtain ⟨R, E0, P0, hL⟩ : ∃ R E0 P0, lexAll s.data.toList = (R, E0, P0) := ⟨_, _, _, rfl⟩
  have cT := fun W => refTok_any s R E0 P0 W hL
  have ha := parse_agree (R.length * 6 + 6) s.data.toList (by rw [hL]; exact Nat.le_refl _)
  rw [hp] at ha
  simp only at ha
  have hd : s.data.toList.length = s.size := by simp
  by_cases h0 : E0 = 0
  · subst h0
    obtain ⟨f1, f2, f3⟩ := lex_fit (l := s.data.toList) (by rw [hL])
    rw [hL] at f2 f3
    simp only at f2 f3
    rw [parseD, hL, if_neg (by simp)] at ha
    simp only at ha
    rw [hd] at ha f1
    have hi := (pE_i (ts := R) (en := s.size) (rv := readV) (R.length * 6 + 6) 0 ⟨0, -1⟩ (Nat.zero_le _)).2
    have hb := pE_b (ts := R) (en := s.size) (rv := readV) (R.length * 6 + 6) 0 ⟨0, -1⟩ (Nat.zero_le _)
    refine refParse_good s w R P0 _ _ f2 f1 (by omega) (by omega) cT (fun r tp tc => gives_all r tp tc R s.size f2 f3 (R.length * 6 + 6) 0 ⟨0, -1⟩ (by decide) (Nat.zero_le _) (by show (R.length - 0) * 6 + 6 ≤ _; omega)) E (P : Int) x ?_
    rw [← ha]
    rw [tg_small]
    split
    · rfl
    · cases (pE R s.size readV (R.length * 6 + 6) 0 ⟨0, -1⟩).1.small <;> rfl
  · rw [parseD, hL, if_pos h0] at ha
    simp only [Prod.mk.injEq] at ha
    obtain ⟨rfl, rfl, hP⟩ := ha
    obtain rfl : P0 = P := by omega
    exact refParse_bad s w R E0 P0 h0 cT
end Go.Proofs.YtkoejkpjkcejcaaGreatDoor
namespace Go.Proofs.YtkoejkpjkcejcaaGreatDoor
open Go.RowKit Go.BigFrame
set_option linter.unusedVariables false

theorem boxT_at (w : World) (cs : Array Value) (t : TypeId) {W : World} {n : Nat} (hb : Below n (w.alloc (.cells cs t)) W) (hn : w.heap.size < n) : (∀ i, W.cell? ⟨w.heap.size, i, none⟩ = cs[i]?) ∧ w.heap.size < W.heap.size := by
  have hz := hb.size
  simp at hz
  exact ⟨fun i => by rw [hb.cell (p := ⟨w.heap.size, i, none⟩) hn, World.cell?_alloc_at _ _ _ _ rfl], by omega⟩
theorem bytesT {X Y : ByteArray} (h : X.data.toList = Y.data.toList) : X = Y := by
  apply ByteArray.ext
  exact Array.toList_inj.1 h
theorem sizeT {X : ByteArray} {l : List UInt8} (h : X.data.toList = l) : X.size = l.length := by
  rw [← h, Array.length_toList]; rfl
theorem inter_part (bt : List UInt8) : ∀ (ts : List (List UInt8)) (k : Nat) (h : k < ts.length), ts[k].length ≤ (inter bt ts).length
  | [], k, h => by simp at h
  | [t], 0, _ => by simp [inter]
  | [t], k + 1, h => by simp at h
  | t :: u :: ts, 0, _ => by simp [inter]
  | t :: u :: ts, k + 1, h => by
    have := inter_part bt (u :: ts) k (by simpa using h)
    simp only [inter, List.length_append, List.getElem_cons_succ]
    omega
theorem two_map {l : List Ex} (h : l.length = 2) : l.map txP = [txP (l[0]'(by omega)), txP (l[1]'(by omega))] := by
  match l, h with
  | [a, b], _ => rfl
set_option maxHeartbeats 8000000 in
set_option maxRecDepth 20000 in
theorem refText_any : ∀ (x : Ex) (d : Nat) (lo : Nat → Prop) (v : Value) (w : World) (X : ByteArray), (∀ q ∈ x.pre d, nodeE q.1 = 0) → (∀ q ∈ x.pre d, inI q.1.vn) → (txP x).length ≤ 1000000 → ExIn w lo v x → X.data.toList = txP x →
    Calls Tryz.prog 12 #[v] w fun e w' => e = .returned (.string X) ∧ Below w.heap.size w w' := by
  refine Ex.ind fun op nm vt vn vs pos l ih d lo v w X hpre hin hlen hx hX => ?_
  rw [ExIn] at hx
  obtain ⟨p, ca, rfl, ⟨hm, hmc⟩, ho, hnm, hvs, hparts⟩ := hx
  unfold maxLen at hm
  have hself := hpre (.node op nm vt vn vs pos l, d) (by rw [Ex.pre]; exact List.mem_cons_self ..)
  have hvn : inI vn := hin (.node op nm vt vn vs pos l, d) (by rw [Ex.pre]; exact List.mem_cons_self ..)
  obtain ⟨ha1, ha2, ha3⟩ := node_ok hself
  simp only [Ex.op, Ex.args, Ex.vt, Ex.vn, Ex.vs] at ha1 ha2 ha3
  have hol := apL_len _ ha1
  have hl3 : l.length ≤ 3 := by have := (apL_le _ ha1).1; omega
  have hsub : ∀ y ∈ l, ∀ q ∈ y.pre (d + 1), q ∈ (Ex.node op nm vt vn vs pos l).pre d := fun y hy q hq => by
    rw [Ex.pre]; exact List.mem_cons_of_mem _ (pres_mem hy q hq)
  have b1 : Below w.heap.size w (w.alloc (.cells #[.string op, .string nm, .int .i64 vt, .int .i64 vn, .string vs, .slice p l.length ca, .int .i64 pos] 26)) := (Below.refl _ w).alloc (Nat.le_refl _) _
  have HI : Aside (∀ y ∈ l, ∀ (lo : Nat → Prop) (v : Value) (w : World) (X : ByteArray), (txP y).length ≤ 1000000 → ExIn w lo v y → X.data.toList = txP y → Calls Tryz.prog 12 #[v] w fun e w' => e = .returned (.string X) ∧ Below w.heap.size w w') := fun y hy lo v w X h1 h2 h3 => ih y hy (d + 1) lo v w X (fun q hq => hpre q (hsub y hy q hq)) (fun q hq => hin q (hsub y hy q hq)) h1 h2 h3
  have HPA : Aside (l.length = 0 ∨ ∃ b off, p = some ⟨b, off, none⟩ ∧ b < w.heap.size ∧ lo b ∧ ExsIn w lo b off l) := hparts
  have box : Hid (∀ wr, Below (w.heap.size + 1) (w.alloc (.cells #[.string op, .string nm, .int .i64 vt, .int .i64 vn, .string vs, .slice p l.length ca, .int .i64 pos] 26)) wr → (wr.cell? ⟨w.heap.size, 0, none⟩ = some (.string op) ∧ wr.cell? ⟨w.heap.size, 1, none⟩ = some (.string nm) ∧ wr.cell? ⟨w.heap.size, 2, none⟩ = some (.int .i64 vt) ∧ wr.cell? ⟨w.heap.size, 3, none⟩ = some (.int .i64 vn) ∧ wr.cell? ⟨w.heap.size, 4, none⟩ = some (.string vs) ∧ wr.cell? ⟨w.heap.size, 5, none⟩ = some (.slice p l.length ca)) ∧ w.heap.size < wr.heap.size ∧ Below w.heap.size w wr) := fun wr hb => by
    obtain ⟨h1, h3⟩ := boxT_at w _ _ hb (Nat.lt_succ_self _)
    exact ⟨⟨h1 0, h1 1, h1 2, h1 3, h1 4, h1 5⟩, h3, b1.trans (hb.mono (Nat.le_succ _))⟩
  have HOP : Hid (op.data.toList.length ≤ 3) := hol
  have hos : op.size ≤ 3 := by rw [sizeT rfl]; exact hol
  have hck : op.data.toList = [118, 97, 108] → ckV vt vn vs.data.toList = 0 := fun h => ha3 (by rw [Lib.toList_data]; simpa using h)
  clear ih hparts hpre hin hsub hself ha3 hol
  by_cases hq1 : op.data.toList = [118, 97, 108]
  · have hc0 := hck hq1
    have hch : chk vt vn vs.data.toList = 0 := by
      rw [ckV] at hc0
      split at hc0
      · rename_i h; exact absurd hc0 h
      · rename_i h; simpa using h
    have g1 : (op.toList == [99, 111, 108]) = false := by rw [Lib.toList_data, hq1]; decide
    have g2 : (op.toList == [118, 97, 108]) = true := by rw [Lib.toList_data, hq1]; decide
    have hsh : (⟨(shown vt vn vs.data.toList).toArray⟩ : ByteArray) = X := bytesT (by rw [hX, txP, if_pos hq1, prS, if_pos hch])
    have cS := show_any vt vn vs (w.alloc (.cells #[.string op, .string nm, .int .i64 vt, .int .i64 vn, .string vs, .slice p l.length ca, .int .i64 pos] 26)) hvn hch
    rw [hsh] at cS
    obtain ⟨⟨k0, k1, k2, k3, k4, k5⟩, hl1, bw⟩ := box.out _ (Below.refl _ _)
    clear hsh hch hc0 hck hX HI HPA box
    go_enter Tryz.func12, Tryz.ntmps12
    go_wp2_with fail
    refine cS.mono ?_
    rintro e w1 ⟨rfl, b2⟩
    go_wp2
    go_ret
    exact ⟨rfl, b1.trans (b2.mono (by simp))⟩
  by_cases hq2 : op.data.toList = [99, 111, 108]
  · have g1 : (op.toList == [99, 111, 108]) = true := by rw [Lib.toList_data, hq2]; decide
    have hsh : nm = X := bytesT (by rw [hX, txP, if_neg hq1, if_pos hq2])
    subst hsh
    obtain ⟨⟨k0, k1, k2, k3, k4, k5⟩, hl1, bw⟩ := box.out _ (Below.refl _ _)
    clear hck hX HI HPA box
    go_enter Tryz.func12, Tryz.ntmps12
    go_wp2
    go_ret
    exact ⟨rfl, b1⟩
  have g1 : (op.toList == [99, 111, 108]) = false := by rw [Lib.toList_data]; simpa using hq2
  have g2 : (op.toList == [118, 97, 108]) = false := by rw [Lib.toList_data]; simpa using hq1
  have hkd := op_kinds ha1 ha2 hq1 hq2
  rw [txP, if_neg hq1, if_neg hq2, txsP_map] at hX hlen
  clear hck ha1 ha2 hq1 hq2
  have h1 : 1 ≤ l.length := by rcases hkd with ⟨_, h⟩ | ⟨_, h⟩ | ⟨_, h⟩ | ⟨_, h⟩ | ⟨_, h, _⟩ <;> omega
  rcases HPA.out with h | ⟨ba, oa, rfl, hbl, hlo, hE⟩
  · exact absurd h (by omega)
  clear HPA
  by_cases hcall : op.data.toList = [108, 101, 110] ∨ op.data.toList = [105, 102]
  · rw [if_pos hcall] at hX hlen
    clear hkd
    have HX : Hid (X.data.toList = op.data.toList ++ argsT [44, 32] (l.map txP)) := hX
    have HL : Hid ((op.data.toList ++ argsT [44, 32] (l.map txP)).length ≤ 1000000) := hlen
    have hsm : ∀ k, k ≤ l.length → (inter [44, 32] ((l.map txP).take k)).length ≤ 1000000 - 2 - op.data.toList.length := fun k hk => by
      have h1 := inter_take_len (bt := [44, 32]) (ts := l.map txP) k (by rw [List.length_map]; exact hk)
      simp only [argsT, List.length_append, List.length_cons, List.length_nil] at hlen
      omega
    have HSM : Hid (∀ k, k ≤ l.length → (inter [44, 32] ((l.map txP).take k)).length ≤ 1000000 - 2 - op.data.toList.length) := hsm
    have HE : Aside (ExsIn w lo ba oa l) := hE
    clear hX hlen hsm hE
    by_cases hq3 : op.data.toList = [108, 101, 110]
    · have g3 : (op.toList == [108, 101, 110]) = true := by rw [Lib.toList_data, hq3]; decide
      clear hcall hq3
      go_enter Tryz.func12, Tryz.ntmps12
      obtain ⟨⟨k0, k1, k2, k3, k4, k5⟩, hl1, bw⟩ := box.out _ (Below.refl _ _)
      go_wp2
      go_loopg [3, 4, 5] l.length (fun gg s2 s3 _ wr => ∃ (kk : Nat) (S : ByteArray), kk ≤ l.length ∧ l.length - kk ≤ gg ∧ s3 = .int .i64 kk ∧ s2 = .string S ∧ Hid (S.data.toList = op.data.toList ++ 40 :: inter [44, 32] ((l.map txP).take kk)) ∧ Aside (Below (w.heap.size + 1) (w.alloc (.cells #[.string op, .string nm, .int .i64 vt, .int .i64 vn, .string vs, .slice (some ⟨ba, oa, none⟩) l.length ca, .int .i64 pos] 26)) wr))
      case atStart => exact ⟨0, _, Nat.zero_le _, by omega, rfl, rfl, (show Hid _ from by show _ = _; simp [inter]), (show Aside _ from Below.refl _ _)⟩
      case round =>
        obtain ⟨kk, S, hkk, hg, rfl, rfl, HS, BW⟩ := hrel
        obtain ⟨⟨r0, r1, r2, r3, r4, r5⟩, hlr, bwr⟩ := box.out wr BW.out
        have hSs : S.size ≤ 1000000 := by
          rw [sizeT HS.out]
          have := HSM.out kk hkk
          have := HOP.out
          simp only [List.length_append, List.length_cons]
          omega
        clear k0 k1 k2 k3 k4 k5
        by_cases hltkk : kk < l.length
        · have hltz : (kk : Int) < (l.length : Int) := by omega
          have h0z : (0 : Int) ≤ (kk : Int) := by omega
          have hE := HE.out
          obtain ⟨v0, v1, v2, v3, v4, v5, v6, e0, e1, e2, e3, e4, e5, e6, hy⟩ := exsIn_at w lo ba l oa hE kk hltkk
          obtain ⟨u0, u1, u2, u3, u4, u5, u6, u7, u8, huu⟩ := hy.agg
          injection huu with huu
          simp only [Array.mk.injEq, List.cons.injEq, and_true] at huu
          obtain ⟨rfl, rfl, rfl, rfl, rfl, rfl, rfl⟩ := huu
          have kA : ∀ o, wr.cell? ⟨ba, o, none⟩ = w.cell? ⟨ba, o, none⟩ := fun o => bwr.cell (p := ⟨ba, o, none⟩) hbl
          rw [← kA] at e0 e1 e2 e3 e4 e5 e6
          have hblr : ba < wr.heap.size := by have := bwr.size; omega
          obtain ⟨Y, hY⟩ : ∃ Y : ByteArray, Y.data.toList = txP l[kk] := ⟨⟨(txP l[kk]).toArray⟩, rfl⟩
          have hpt : (txP l[kk]).length ≤ 1000000 := by
            have h2 := inter_part [44, 32] (l.map txP) kk (by rw [List.length_map]; exact hltkk)
            have h3 := HSM.out l.length (Nat.le_refl _)
            rw [List.take_of_length_le (by rw [List.length_map]; exact Nat.le_refl _)] at h3
            rw [List.getElem_map] at h2
            omega
          have hYs : Y.size ≤ 1000000 := by rw [sizeT hY]; exact hpt
          have cY := HI.out _ (List.getElem_mem hltkk) lo _ wr Y hpt (hy.on bwr) hY
          have HKL : Hid (kk < l.length) := hltkk
          have hstep : Hid ((inter [44, 32] ((l.map txP).take (kk + 1))) = (if kk = 0 then [] else inter [44, 32] ((l.map txP).take kk) ++ [44, 32]) ++ Y.data.toList) := by
            show _ = _
            rw [inter_take (by rw [List.length_map]; exact hltkk), List.getElem_map, hY]
          clear hE kA hy hY hpt HI
          by_cases hk0 : kk = 0
          · subst hk0
            simp only [Nat.zero_mul, Nat.add_zero] at e0 e1 e2 e3 e4 e5 e6
            go_wp2_with fail
            refine cY.mono ?_
            rintro e w4 ⟨rfl, b4⟩
            have BW4 : Aside (Below (w.heap.size + 1) (w.alloc (.cells #[.string op, .string nm, .int .i64 vt, .int .i64 vn, .string vs, .slice (some ⟨ba, oa, none⟩) l.length ca, .int .i64 pos] 26)) w4) := BW.out.trans (b4.mono hlr)
            clear cY b4
            go_wp2
            go_roundg (l.length - (0 + 1))
            case measure => have := HKL.out; omega
            case rel => exact ⟨0 + 1, S ++ Y, by have := HKL.out; omega, by omega, by go_num, rfl, (show Hid _ from by show _ = _; rw [hstep.out]; simp [HS.out, inter]), BW4⟩
          · have hz0 : (0 : Int) < (kk : Int) := by omega
            go_wp2_with fail
            refine cY.mono ?_
            rintro e w4 ⟨rfl, b4⟩
            have BW4 : Aside (Below (w.heap.size + 1) (w.alloc (.cells #[.string op, .string nm, .int .i64 vt, .int .i64 vn, .string vs, .slice (some ⟨ba, oa, none⟩) l.length ca, .int .i64 pos] 26)) w4) := BW.out.trans (b4.mono hlr)
            clear cY b4
            go_wp2
            go_roundg (l.length - (kk + 1))
            case measure => have := HKL.out; omega
            case rel => exact ⟨kk + 1, (S ++ ⟨#[44, 32]⟩) ++ Y, by have := HKL.out; omega, by omega, by go_num, rfl, (show Hid _ from by show _ = _; rw [hstep.out]; simp [HS.out, hk0]), BW4⟩
        · have hltz : ¬ (kk : Int) < (l.length : Int) := by omega
          have hfin : S ++ ⟨#[41]⟩ = X := bytesT (by
            rw [HX.out]
            have hke : kk = l.length := by omega
            have h3 : (l.map txP).take kk = l.map txP := List.take_of_length_le (by rw [List.length_map]; omega)
            simp [HS.out, h3, argsT])
          clear HX HS HL HSM
          go_wp2
          go_ret
          exact ⟨by rw [← hfin]; rfl, bwr⟩
    · have g3 : (op.toList == [108, 101, 110]) = false := by rw [Lib.toList_data]; simpa using hq3
      have g4 : (op.toList == [105, 102]) = true := by
        rcases hcall with h | h
        · exact absurd h hq3
        · rw [Lib.toList_data, h]; decide
      clear hcall hq3
      go_enter Tryz.func12, Tryz.ntmps12
      obtain ⟨⟨k0, k1, k2, k3, k4, k5⟩, hl1, bw⟩ := box.out _ (Below.refl _ _)
      go_wp2
      go_loopg [3, 4, 5] l.length (fun gg s2 s3 _ wr => ∃ (kk : Nat) (S : ByteArray), kk ≤ l.length ∧ l.length - kk ≤ gg ∧ s3 = .int .i64 kk ∧ s2 = .string S ∧ Hid (S.data.toList = op.data.toList ++ 40 :: inter [44, 32] ((l.map txP).take kk)) ∧ Aside (Below (w.heap.size + 1) (w.alloc (.cells #[.string op, .string nm, .int .i64 vt, .int .i64 vn, .string vs, .slice (some ⟨ba, oa, none⟩) l.length ca, .int .i64 pos] 26)) wr))
      case atStart => exact ⟨0, _, Nat.zero_le _, by omega, rfl, rfl, (show Hid _ from by show _ = _; simp [inter]), (show Aside _ from Below.refl _ _)⟩
      case round =>
        obtain ⟨kk, S, hkk, hg, rfl, rfl, HS, BW⟩ := hrel
        obtain ⟨⟨r0, r1, r2, r3, r4, r5⟩, hlr, bwr⟩ := box.out wr BW.out
        have hSs : S.size ≤ 1000000 := by
          rw [sizeT HS.out]
          have := HSM.out kk hkk
          have := HOP.out
          simp only [List.length_append, List.length_cons]
          omega
        clear k0 k1 k2 k3 k4 k5
        by_cases hltkk : kk < l.length
        · have hltz : (kk : Int) < (l.length : Int) := by omega
          have h0z : (0 : Int) ≤ (kk : Int) := by omega
          have hE := HE.out
          obtain ⟨v0, v1, v2, v3, v4, v5, v6, e0, e1, e2, e3, e4, e5, e6, hy⟩ := exsIn_at w lo ba l oa hE kk hltkk
          obtain ⟨u0, u1, u2, u3, u4, u5, u6, u7, u8, huu⟩ := hy.agg
          injection huu with huu
          simp only [Array.mk.injEq, List.cons.injEq, and_true] at huu
          obtain ⟨rfl, rfl, rfl, rfl, rfl, rfl, rfl⟩ := huu
          have kA : ∀ o, wr.cell? ⟨ba, o, none⟩ = w.cell? ⟨ba, o, none⟩ := fun o => bwr.cell (p := ⟨ba, o, none⟩) hbl
          rw [← kA] at e0 e1 e2 e3 e4 e5 e6
          have hblr : ba < wr.heap.size := by have := bwr.size; omega
          obtain ⟨Y, hY⟩ : ∃ Y : ByteArray, Y.data.toList = txP l[kk] := ⟨⟨(txP l[kk]).toArray⟩, rfl⟩
          have hpt : (txP l[kk]).length ≤ 1000000 := by
            have h2 := inter_part [44, 32] (l.map txP) kk (by rw [List.length_map]; exact hltkk)
            have h3 := HSM.out l.length (Nat.le_refl _)
            rw [List.take_of_length_le (by rw [List.length_map]; exact Nat.le_refl _)] at h3
            rw [List.getElem_map] at h2
            omega
          have hYs : Y.size ≤ 1000000 := by rw [sizeT hY]; exact hpt
          have cY := HI.out _ (List.getElem_mem hltkk) lo _ wr Y hpt (hy.on bwr) hY
          have HKL : Hid (kk < l.length) := hltkk
          have hstep : Hid ((inter [44, 32] ((l.map txP).take (kk + 1))) = (if kk = 0 then [] else inter [44, 32] ((l.map txP).take kk) ++ [44, 32]) ++ Y.data.toList) := by
            show _ = _
            rw [inter_take (by rw [List.length_map]; exact hltkk), List.getElem_map, hY]
          clear hE kA hy hY hpt HI
          by_cases hk0 : kk = 0
          · subst hk0
            simp only [Nat.zero_mul, Nat.add_zero] at e0 e1 e2 e3 e4 e5 e6
            go_wp2_with fail
            refine cY.mono ?_
            rintro e w4 ⟨rfl, b4⟩
            have BW4 : Aside (Below (w.heap.size + 1) (w.alloc (.cells #[.string op, .string nm, .int .i64 vt, .int .i64 vn, .string vs, .slice (some ⟨ba, oa, none⟩) l.length ca, .int .i64 pos] 26)) w4) := BW.out.trans (b4.mono hlr)
            clear cY b4
            go_wp2
            go_roundg (l.length - (0 + 1))
            case measure => have := HKL.out; omega
            case rel => exact ⟨0 + 1, S ++ Y, by have := HKL.out; omega, by omega, by go_num, rfl, (show Hid _ from by show _ = _; rw [hstep.out]; simp [HS.out, inter]), BW4⟩
          · have hz0 : (0 : Int) < (kk : Int) := by omega
            go_wp2_with fail
            refine cY.mono ?_
            rintro e w4 ⟨rfl, b4⟩
            have BW4 : Aside (Below (w.heap.size + 1) (w.alloc (.cells #[.string op, .string nm, .int .i64 vt, .int .i64 vn, .string vs, .slice (some ⟨ba, oa, none⟩) l.length ca, .int .i64 pos] 26)) w4) := BW.out.trans (b4.mono hlr)
            clear cY b4
            go_wp2
            go_roundg (l.length - (kk + 1))
            case measure => have := HKL.out; omega
            case rel => exact ⟨kk + 1, (S ++ ⟨#[44, 32]⟩) ++ Y, by have := HKL.out; omega, by omega, by go_num, rfl, (show Hid _ from by show _ = _; rw [hstep.out]; simp [HS.out, hk0]), BW4⟩
        · have hltz : ¬ (kk : Int) < (l.length : Int) := by omega
          have hfin : S ++ ⟨#[41]⟩ = X := bytesT (by
            rw [HX.out]
            have hke : kk = l.length := by omega
            have h3 : (l.map txP).take kk = l.map txP := List.take_of_length_le (by rw [List.length_map]; omega)
            simp [HS.out, h3, argsT])
          clear HX HS HL HSM
          go_wp2
          go_ret
          exact ⟨by rw [← hfin]; rfl, bwr⟩
  rw [if_neg hcall] at hX hlen
  have g3 : (op.toList == [108, 101, 110]) = false := by rw [Lib.toList_data]; simpa using fun h => hcall (.inl h)
  have g4 : (op.toList == [105, 102]) = false := by rw [Lib.toList_data]; simpa using fun h => hcall (.inr h)
  have hlt0 : 0 < l.length := h1
  have hp0 : (0 : Int) < (l.length : Int) := by omega
  obtain ⟨Y, hY⟩ : ∃ Y : ByteArray, Y.data.toList = txP l[0] := ⟨⟨(txP l[0]).toArray⟩, rfl⟩
  have hhd : (l.map txP).headD [] = txP l[0] := by
    cases l with
    | nil => simp at h1
    | cons a t => rfl
  obtain ⟨⟨k0, k1, k2, k3, k4, k5⟩, hl1, bw⟩ := box.out _ (Below.refl _ _)
  by_cases hq5 : op.data.toList = [110, 111, 116]
  · rw [if_pos hq5] at hX hlen
    have g5 : (op.toList == [110, 111, 116]) = true := by rw [Lib.toList_data, hq5]; decide
    clear hq5 hcall
    rw [hhd] at hX hlen
    have hpt : (txP l[0]).length ≤ 1000000 := by simp only [aheadT, List.length_append, List.length_cons, List.length_nil] at hlen; omega
    have hfin : ((⟨#[40, 110, 111, 116, 32]⟩ : ByteArray) ++ Y) ++ ⟨#[41]⟩ = X := bytesT (by rw [hX]; simp [aheadT, hY])
    have hYs : Y.size ≤ 1000000 := by rw [sizeT hY]; omega
    obtain ⟨v0, v1, v2, v3, v4, v5, v6, e0, e1, e2, e3, e4, e5, e6, hy⟩ := exsIn_at w lo ba l oa hE 0 hlt0
    obtain ⟨u0, u1, u2, u3, u4, u5, u6, u7, u8, huu⟩ := hy.agg
    injection huu with huu
    simp only [Array.mk.injEq, List.cons.injEq, and_true] at huu
    obtain ⟨rfl, rfl, rfl, rfl, rfl, rfl, rfl⟩ := huu
    have kA : ∀ o, (w.alloc (.cells #[.string op, .string nm, .int .i64 vt, .int .i64 vn, .string vs, .slice (some ⟨ba, oa, none⟩) l.length ca, .int .i64 pos] 26)).cell? ⟨ba, o, none⟩ = w.cell? ⟨ba, o, none⟩ := fun o => bw.cell (p := ⟨ba, o, none⟩) hbl
    rw [← kA] at e0 e1 e2 e3 e4 e5 e6
    have hblr : ba < (w.alloc (.cells #[.string op, .string nm, .int .i64 vt, .int .i64 vn, .string vs, .slice (some ⟨ba, oa, none⟩) l.length ca, .int .i64 pos] 26)).heap.size := by have := bw.size; omega
    have cY := HI.out _ (List.getElem_mem hlt0) lo _ _ Y (by omega) (hy.on bw) hY
    simp only [Nat.zero_mul, Nat.add_zero] at e0 e1 e2 e3 e4 e5 e6
    clear hE kA hy hY hpt HI hX hlen hhd hkd
    go_enter Tryz.func12, Tryz.ntmps12
    go_wp2_with fail
    refine cY.mono ?_
    rintro e w4 ⟨rfl, b4⟩
    obtain ⟨⟨r0, r1, r2, r3, r4, r5⟩, hlr, bwr⟩ := box.out w4 (b4.mono (by simp))
    clear cY
    go_wp2
    go_ret
    exact ⟨by rw [← hfin]; rfl, bwr⟩
  rw [if_neg hq5] at hX hlen
  have g5 : (op.toList == [110, 111, 116]) = false := by rw [Lib.toList_data]; simpa using hq5
  by_cases hq6 : op.data.toList = [110, 101, 103]
  · rw [if_pos hq6] at hX hlen
    have g6 : (op.toList == [110, 101, 103]) = true := by rw [Lib.toList_data, hq6]; decide
    clear hq6 hq5 hcall
    rw [hhd] at hX hlen
    have hpt : (txP l[0]).length ≤ 1000000 := by simp only [aheadT, List.length_append, List.length_cons, List.length_nil] at hlen; omega
    have hfin : ((⟨#[40, 45, 32]⟩ : ByteArray) ++ Y) ++ ⟨#[41]⟩ = X := bytesT (by rw [hX]; simp [aheadT, hY])
    have hYs : Y.size ≤ 1000000 := by rw [sizeT hY]; omega
    obtain ⟨v0, v1, v2, v3, v4, v5, v6, e0, e1, e2, e3, e4, e5, e6, hy⟩ := exsIn_at w lo ba l oa hE 0 hlt0
    obtain ⟨u0, u1, u2, u3, u4, u5, u6, u7, u8, huu⟩ := hy.agg
    injection huu with huu
    simp only [Array.mk.injEq, List.cons.injEq, and_true] at huu
    obtain ⟨rfl, rfl, rfl, rfl, rfl, rfl, rfl⟩ := huu
    have kA : ∀ o, (w.alloc (.cells #[.string op, .string nm, .int .i64 vt, .int .i64 vn, .string vs, .slice (some ⟨ba, oa, none⟩) l.length ca, .int .i64 pos] 26)).cell? ⟨ba, o, none⟩ = w.cell? ⟨ba, o, none⟩ := fun o => bw.cell (p := ⟨ba, o, none⟩) hbl
    rw [← kA] at e0 e1 e2 e3 e4 e5 e6
    have hblr : ba < (w.alloc (.cells #[.string op, .string nm, .int .i64 vt, .int .i64 vn, .string vs, .slice (some ⟨ba, oa, none⟩) l.length ca, .int .i64 pos] 26)).heap.size := by have := bw.size; omega
    have cY := HI.out _ (List.getElem_mem hlt0) lo _ _ Y (by omega) (hy.on bw) hY
    simp only [Nat.zero_mul, Nat.add_zero] at e0 e1 e2 e3 e4 e5 e6
    clear hE kA hy hY hpt HI hX hlen hhd hkd
    go_enter Tryz.func12, Tryz.ntmps12
    go_wp2_with fail
    refine cY.mono ?_
    rintro e w4 ⟨rfl, b4⟩
    obtain ⟨⟨r0, r1, r2, r3, r4, r5⟩, hlr, bwr⟩ := box.out w4 (b4.mono (by simp))
    clear cY
    go_wp2
    go_ret
    exact ⟨by rw [← hfin]; rfl, bwr⟩
  rw [if_neg hq6] at hX hlen
  have g6 : (op.toList == [110, 101, 103]) = false := by rw [Lib.toList_data]; simpa using hq6
  have hl2 : l.length = 2 := by
    rcases hkd with ⟨h, _⟩ | ⟨h, _⟩ | ⟨h, _⟩ | ⟨h, _⟩ | ⟨_, h, _⟩
    · exact absurd (.inl h) hcall
    · exact absurd (.inr h) hcall
    · exact absurd h hq5
    · exact absurd h hq6
    · exact h
  have hlt1 : 1 < l.length := by omega
  have hp1 : (1 : Int) < (l.length : Int) := by omega
  obtain ⟨Z, hZ⟩ : ∃ Z : ByteArray, Z.data.toList = txP l[1] := ⟨⟨(txP l[1]).toArray⟩, rfl⟩
  have hmap : l.map txP = [Y.data.toList, Z.data.toList] := by rw [hY, hZ]; exact two_map hl2
  rw [hmap] at hX hlen
  have hlens : Y.data.toList.length + Z.data.toList.length + op.data.toList.length + 4 ≤ 1000000 := by simp only [argsT, inter, List.length_append, List.length_cons, List.length_nil] at hlen; omega
  have hfin : ((((((⟨#[40]⟩ : ByteArray) ++ Y) ++ ⟨#[32]⟩) ++ op) ++ ⟨#[32]⟩) ++ Z) ++ ⟨#[41]⟩ = X := bytesT (by rw [hX]; simp [argsT, inter])
  have hYs : Y.size + Z.size ≤ 1000000 := by rw [sizeT (X := Y) rfl, sizeT (X := Z) rfl]; omega
  have hp0L : (txP l[0]).length ≤ 1000000 := by rw [← hY]; omega
  have hp1L : (txP l[1]).length ≤ 1000000 := by rw [← hZ]; omega
  have HE : Aside (ExsIn w lo ba oa l) := hE
  obtain ⟨v0, v1, v2, v3, v4, v5, v6, e0, e1, e2, e3, e4, e5, e6, hy⟩ := exsIn_at w lo ba l oa hE 0 hlt0
  obtain ⟨u0, u1, u2, u3, u4, u5, u6, u7, u8, huu⟩ := hy.agg
  injection huu with huu
  simp only [Array.mk.injEq, List.cons.injEq, and_true] at huu
  obtain ⟨rfl, rfl, rfl, rfl, rfl, rfl, rfl⟩ := huu
  have kA : ∀ o, (w.alloc (.cells #[.string op, .string nm, .int .i64 vt, .int .i64 vn, .string vs, .slice (some ⟨ba, oa, none⟩) l.length ca, .int .i64 pos] 26)).cell? ⟨ba, o, none⟩ = w.cell? ⟨ba, o, none⟩ := fun o => bw.cell (p := ⟨ba, o, none⟩) hbl
  rw [← kA] at e0 e1 e2 e3 e4 e5 e6
  have hblr : ba < (w.alloc (.cells #[.string op, .string nm, .int .i64 vt, .int .i64 vn, .string vs, .slice (some ⟨ba, oa, none⟩) l.length ca, .int .i64 pos] 26)).heap.size := by have := bw.size; omega
  have cY := HI.out _ (List.getElem_mem hlt0) lo _ _ Y hp0L (hy.on bw) hY
  simp only [Nat.zero_mul, Nat.add_zero] at e0 e1 e2 e3 e4 e5 e6
  clear hE kA hy hY hX hlen hhd hkd hmap hp0L hcall hq5 hq6 hlens hl2
  go_enter Tryz.func12, Tryz.ntmps12
  go_wp2_with fail
  refine cY.mono ?_
  rintro e w4 ⟨rfl, b4⟩
  obtain ⟨⟨r0, r1, r2, r3, r4, r5⟩, hlr, bwr⟩ := box.out w4 (b4.mono (by simp))
  clear cY e0 e1 e2 e3 e4 e5 e6 k0 k1 k2 k3 k4 k5 hblr
  have hE := HE.out
  obtain ⟨v0, v1, v2, v3, v4, v5, v6, e0, e1, e2, e3, e4, e5, e6, hy⟩ := exsIn_at w lo ba l oa hE 1 hlt1
  obtain ⟨u0, u1, u2, u3, u4, u5, u6, u7, u8, huu⟩ := hy.agg
  injection huu with huu
  simp only [Array.mk.injEq, List.cons.injEq, and_true] at huu
  obtain ⟨rfl, rfl, rfl, rfl, rfl, rfl, rfl⟩ := huu
  have kA : ∀ o, w4.cell? ⟨ba, o, none⟩ = w.cell? ⟨ba, o, none⟩ := fun o => bwr.cell (p := ⟨ba, o, none⟩) hbl
  rw [← kA] at e0 e1 e2 e3 e4 e5 e6
  have hblr : ba < w4.heap.size := by have := bwr.size; omega
  have cZ := HI.out _ (List.getElem_mem hlt1) lo _ w4 Z hp1L (hy.on bwr) hZ
  clear hE kA hy hZ HI HE hp1L
  simp only [Nat.one_mul] at e0 e1 e2 e3 e4 e5 e6
  go_wp2_with fail
  refine cZ.mono ?_
  rintro e w5 ⟨rfl, b5⟩
  have bw5 : Below w.heap.size w w5 := bwr.trans (b5.mono bwr.size)
  obtain ⟨⟨s0, s1, s2, s3, s4, s5⟩, _, _⟩ := box.out w5 ((b4.mono (by simp)).trans (b5.mono hlr))
  clear cZ e0 e1 e2 e3 e4 e5 e6 r0 r1 r2 r3 r4 r5
  go_wp2
  go_ret
  exact ⟨by rw [← hfin]; rfl, bw5⟩
end Go.Proofs.YtkoejkpjkcejcaaGreatDoor
namespace Go.Proofs.YtkoejkpjkcejcaaGreatDoor
open Go.RowKit
set_option linter.unusedVariables false

/-- A value: its type, number and text. -/
abbrev V3 := Int × Int × ByteArray
def inB (n : Int) : Prop := -9223372036854775808 ≤ n ∧ n ≤ 9223372036854775807
def noV : V3 := (0, 0, ⟨#[]⟩)
/-- A value that is right. -/
def okV (t : Int) (v : V3) : Prop := v.1 = t ∧ chk v.1 v.2.1 v.2.2.data.toList = 0 ∧ inB v.2.1
theorem chk_two {n : Int} {l : List UInt8} (h : chk 2 n l = 0) : (n = 0 ∨ n = 1) ∧ l = [] := by
  unfold chk at h
  by_cases h0 : n = 0 ∨ n = 1
  · refine ⟨h0, ?_⟩
    by_cases hl : l = []
    · exact hl
    · simp [hl] at h
      split at h <;> omega
  · rw [if_pos (by right; simp at h0; exact ⟨rfl, h0⟩)] at h
    omega
theorem chk_one {n : Int} {l : List UInt8} (h : chk 1 n l = 0) : l = [] := by
  unfold chk at h
  by_cases hl : l = []
  · exact hl
  · simp [hl] at h
theorem chk_three {n : Int} {l : List UInt8} (h : chk 3 n l = 0) : l.length ≤ 40 ∧ n = 0 := by
  rw [chk_text, chkT] at h
  split at h
  · omega
  · split at h
    · omega
    · split at h
      · omega
      · rename_i h1 _ h3
        exact ⟨by omega, by simpa using h3⟩
theorem chk_size {t n : Int} {l : List UInt8} (h : chk t n l = 0) : l.length ≤ 40 := by
  by_cases h1 : t = 1
  · subst h1; rw [chk_one h]; simp
  · by_cases h2 : t = 2
    · subst h2; rw [(chk_two h).2]; simp
    · by_cases h3 : t = 3
      · subst h3; exact (chk_three h).1
      · unfold chk at h
        rw [if_pos (by left; omega)] at h
        omega
/-- What lies in a block that was made stays, where only later blocks turn. -/
theorem box_at (w : World) (cs : Array Value) (t : TypeId) {W : World} {n : Nat} (hb : Below n (w.alloc (.cells cs t)) W) (hn : w.heap.size < n) : (∀ i, W.cell? ⟨w.heap.size, i, none⟩ = cs[i]?) ∧ (∀ o, W.frozen? ⟨w.heap.size, o, none⟩ = false) ∧ w.heap.size < W.heap.size := by
  have hz := hb.size
  simp at hz
  exact ⟨fun i => by rw [hb.cell (p := ⟨w.heap.size, i, none⟩) hn, World.cell?_alloc_at _ _ _ _ rfl], fun o => by rw [hb.frozen (p := ⟨w.heap.size, o, none⟩) hn, World.frozen?_alloc_at _ _ _ _ rfl], by omega⟩
theorem alB (w : World) (o : Obj) : Below w.heap.size w (w.alloc o) := (Below.refl _ _).alloc (Nat.le_refl _) o
/-- Values one behind the other. -/
def ValsAt (w : World) (p : Option Addr) (vs : List V3) : Prop := vs.length = 0 ∨ ∃ b off, p = some ⟨b, off, none⟩ ∧ b < w.heap.size ∧ ∀ j (h : j < vs.length), w.cell? ⟨b, off + j * 3, none⟩ = some (.int .i64 vs[j].1) ∧ w.cell? ⟨b, off + j * 3 + 1, none⟩ = some (.int .i64 vs[j].2.1) ∧ w.cell? ⟨b, off + j * 3 + 2, none⟩ = some (.string vs[j].2.2)
theorem ValsAt.on {w w' : World} {p : Option Addr} {vs : List V3} (h : ValsAt w p vs) (hb : Below w.heap.size w w') : ValsAt w' p vs := by
  rcases h with h | ⟨b, off, e, hl, h⟩
  · exact .inl h
  · refine .inr ⟨b, off, e, by have := hb.size; omega, fun j hj => ?_⟩
    obtain ⟨h1, h2, h3⟩ := h j hj
    exact ⟨by rw [hb.cell (p := ⟨b, _, none⟩) hl]; exact h1, by rw [hb.cell (p := ⟨b, _, none⟩) hl]; exact h2, by rw [hb.cell (p := ⟨b, _, none⟩) hl]; exact h3⟩
/-- One value at a place. -/
def One (w : World) (b o : Nat) (t n : Int) (s : ByteArray) : Prop := w.cell? ⟨b, o, none⟩ = some (.int .i64 t) ∧ w.cell? ⟨b, o + 1, none⟩ = some (.int .i64 n) ∧ w.cell? ⟨b, o + 2, none⟩ = some (.string s)
theorem One.on {w w' : World} {b o : Nat} {t n : Int} {s : ByteArray} (h : One w b o t n s) (hl : b < w.heap.size) (hb : Below w.heap.size w w') : One w' b o t n s :=
  ⟨by rw [hb.cell (p := ⟨b, _, none⟩) hl]; exact h.1, by rw [hb.cell (p := ⟨b, _, none⟩) hl]; exact h.2.1, by rw [hb.cell (p := ⟨b, _, none⟩) hl]; exact h.2.2⟩
/-- A slice of values. -/
def ValsV (w : World) (v : Value) (rs : List V3) : Prop := ∃ q c, v = .slice q rs.length c ∧ rs.length ≤ maxLen ∧ ValsAt w q rs
theorem ValsV.on {w w' : World} {v : Value} {rs : List V3} (h : ValsV w v rs) (hb : Below w.heap.size w w') : ValsV w' v rs := by
  obtain ⟨q, c, e, h1, h2⟩ := h
  exact ⟨q, c, e, h1, h2.on hb⟩
/-- Texts and numbers as a machine has them. -/
def SizedV (rs : List V3) : Prop := ∀ r ∈ rs, r.2.2.size ≤ maxLen ∧ inB r.2.1
def vcells : List V3 → List Value
  | [] => []
  | v :: vs => .int .i64 v.1 :: .int .i64 v.2.1 :: .string v.2.2 :: vcells vs
theorem vcells_at : ∀ {vs : List V3} {j : Nat} (h : j < vs.length), (vcells vs)[j * 3]? = some (.int .i64 vs[j].1) ∧ (vcells vs)[j * 3 + 1]? = some (.int .i64 vs[j].2.1) ∧ (vcells vs)[j * 3 + 2]? = some (.string vs[j].2.2)
  | v :: vs, 0, _ => ⟨rfl, rfl, rfl⟩
  | v :: vs, j + 1, h => by
    have := vcells_at (vs := vs) (j := j) (by simpa using h)
    rw [vcells, show (j + 1) * 3 = j * 3 + 3 by omega]
    simpa using this
  | [], _, h => absurd h (by simp)
theorem vcells_len : ∀ vs : List V3, (vcells vs).length = vs.length * 3
  | [] => rfl
  | v :: vs => by rw [vcells]; simp [vcells_len vs]; omega
theorem vcells_append : ∀ (a b : List V3), vcells (a ++ b) = vcells a ++ vcells b
  | [], b => rfl
  | v :: vs, b => by rw [List.cons_append, vcells, vcells, vcells_append vs b]; rfl
theorem ownVals {W : World} {B : Nat} {q : Option Addr} {c n : Nat} {vs : List V3} (hn : vs.length = n) (h : W.ownsRow B 23 3 (.slice q n c) n (vcells vs)) : ValsAt W q vs := by
  by_cases h0 : vs.length = 0
  · exact .inl h0
  · refine .inr ?_
    rcases h.2 with ⟨e1, _⟩ | ⟨g, cap, cur, e1, hb, hg, hm, hx, hs, ht⟩
    · injection e1 with e1 e2; omega
    · injection e1 with e1 e2 e3
      subst e1
      refine ⟨g, 0, rfl, (Array.getElem?_eq_some_iff.1 hg).1, fun j hj => ?_⟩
      obtain ⟨a0, a1, a2⟩ := vcells_at hj
      have h1 := h.cells (g := g) rfl _ _ a0
      have h2 := h.cells (g := g) rfl _ _ a1
      have h3 := h.cells (g := g) rfl _ _ a2
      rw [Go.WideShapes.add_plain] at h1 h2 h3
      exact ⟨by simpa using h1, by simpa [Nat.add_assoc] using h2, by simpa [Nat.add_assoc] using h3⟩
theorem info_val : (Tryz.prog.info? 23).map (fun i => (i.zero, i.size, i.bytes)) = some (some (.agg #[.int .i64 0, .int .i64 0, .string ⟨#[]⟩]), 3, 32) := by kernel_rfl
end Go.Proofs.YtkoejkpjkcejcaaGreatDoor
namespace Go.Proofs.YtkoejkpjkcejcaaGreatDoor
open Go.RowKit

theorem wrap_in (n : Int) (h : -9223372036854775808 ≤ n ∧ n ≤ 9223372036854775807) : wrap64 n = n := by unfold wrap64; omega
theorem wrap_bd (n : Int) : -9223372036854775808 ≤ wrap64 n ∧ wrap64 n ≤ 9223372036854775807 := by unfold wrap64; omega
theorem wrap_mod (n : Int) : ∃ k : Int, wrap64 n = n + k * 18446744073709551616 := by
  unfold wrap64
  exact ⟨-((n + 9223372036854775808) / 18446744073709551616), by omega⟩

theorem tdiv_near (p b : Int) (hb : b ≠ 0) : -(b.natAbs : Int) < p - p.tdiv b * b ∧ p - p.tdiv b * b < b.natAbs := by
  have h1 := Int.mul_tdiv_add_tmod p b
  have h2 : p - p.tdiv b * b = p.tmod b := by rw [Int.mul_comm]; omega
  rw [h2]
  have h3 : (p.tmod b).natAbs < b.natAbs := by
    rw [Int.natAbs_tmod]
    exact Nat.mod_lt _ (by omega)
  omega

theorem tdiv_bd (p b : Int) (hp : -9223372036854775808 ≤ p ∧ p ≤ 9223372036854775807) (h : ¬ (p = -9223372036854775808 ∧ b = -1)) :
    -9223372036854775808 ≤ p.tdiv b ∧ p.tdiv b ≤ 9223372036854775807 := by
  have h3 : (p.tdiv b).natAbs = p.natAbs / b.natAbs := Int.natAbs_tdiv p b
  have h4 : p.natAbs / b.natAbs ≤ p.natAbs := Nat.div_le_self _ _
  by_cases hm : p = -9223372036854775808
  · have hb : b ≠ -1 := fun e => h ⟨hm, e⟩
    by_cases h1 : b = 1
    · subst h1; rw [Int.tdiv_one]; exact hp
    · have h5 : p.natAbs / b.natAbs ≤ p.natAbs / 2 ∨ b = 0 := by
        by_cases h0 : b = 0
        · exact Or.inr h0
        · exact Or.inl (Nat.div_le_div_left (by omega) (by omega))
      rcases h5 with h5 | h5
      · have : p.natAbs = 9223372036854775808 := by omega
        omega
      · subst h5; rw [Int.tdiv_zero]; omega
  · omega

theorem mul_back (a b : Int) (ha : -9223372036854775808 ≤ a ∧ a ≤ 9223372036854775807) (hb : b ≠ 0)
    (h : -9223372036854775808 ≤ a * b ∧ a * b ≤ 9223372036854775807) : wrap64 ((wrap64 (a * b)).tdiv b) = a := by
  rw [wrap_in _ h, Int.mul_tdiv_cancel _ hb, wrap_in _ ha]

theorem mul_min (a b : Int) (h : -9223372036854775808 ≤ a * b ∧ a * b ≤ 9223372036854775807) : ¬ (a = -9223372036854775808 ∧ b = -1) := by
  rintro ⟨rfl, rfl⟩; omega

theorem mul_over (a b : Int) (ha : -9223372036854775808 ≤ a ∧ a ≤ 9223372036854775807) (hb : -9223372036854775808 ≤ b ∧ b ≤ 9223372036854775807) (h0 : b ≠ 0)
    (h : ¬ (-9223372036854775808 ≤ a * b ∧ a * b ≤ 9223372036854775807)) (hm : ¬ (a = -9223372036854775808 ∧ b = -1)) : wrap64 ((wrap64 (a * b)).tdiv b) ≠ a := by
  intro e
  by_cases hb1 : b = -1
  · subst hb1; omega
  · have hw := wrap_bd (a * b)
    rw [wrap_in _ (tdiv_bd _ b hw (fun x => hb1 x.2))] at e
    obtain ⟨k, hk⟩ := wrap_mod (a * b)
    have hn := tdiv_near (wrap64 (a * b)) b h0
    rw [e] at hn
    have : k = 0 := by omega
    subst this
    omega
end Go.Proofs.YtkoejkpjkcejcaaGreatDoor
namespace Go.Proofs.YtkoejkpjkcejcaaGreatDoor
open Go.RowKit
set_option linter.unusedVariables false
--BEGIN
def truP (b : Bool) : V3 := (2, if b = true then 1 else 0, ⟨#[]⟩)
def overP (n : Int) : Int × Int := if -9223372036854775808 ≤ n ∧ n ≤ 9223372036854775807 then (n, 0) else (0, 9)
/-- What Reckon comes to: of the five operations. -/
def rkP (op : List UInt8) (a b : Int) : Int × Int :=
  if op = [43] then overP (a + b) else if op = [45] then overP (a - b) else if op = [42] then overP (a * b) else if op = [47] then (if b = 0 ∨ (a = -9223372036854775808 ∧ b = -1) then (0, 9) else (a.tdiv b, 0)) else if b = 0 then (0, 9) else (a.tmod b, 0)
def rkV (op : List UInt8) (a b : Int) : V3 × Int := if (rkP op a b).2 ≠ 0 then (noV, (rkP op a b).2) else ((1, (rkP op a b).1, ⟨#[]⟩), 0)
/-- Whether a comparison is so of two that stand in that order. -/
def holdsP (op : List UInt8) (o : Int) : Bool :=
  if op = [61] then o == 0 else if op = [60, 62] then o != 0 else if op = [60] then decide (o < 0) else if op = [60, 61] then decide (o ≤ 0) else if op = [62] then decide (0 < o) else decide (0 ≤ o)
def isY (v : V3) : Bool := v.2.1 == 1
def cmpV (op : List UInt8) (a b : V3) : V3 × Int :=
  if cmpE a.1 a.2.1 a.2.2.data.toList b.1 b.2.1 b.2.2.data.toList ≠ 0 then (noV, cmpE a.1 a.2.1 a.2.2.data.toList b.1 b.2.1 b.2.2.data.toList)
  else (truP (holdsP op (cmpN a.1 a.2.1 a.2.2.data.toList b.1 b.2.1 b.2.2.data.toList)), 0)
def ops5 : List (List UInt8) := [[43], [45], [42], [47], [37]]
/-- An operation of values that its rule lets through. -/
def appP (op : List UInt8) (vs : List V3) : V3 × Int :=
  if op = [111, 114] then (truP (isY (vs[0]?.getD noV) || isY (vs[1]?.getD noV)), 0)
  else if op = [97, 110, 100] then (truP (isY (vs[0]?.getD noV) && isY (vs[1]?.getD noV)), 0)
  else if op = [110, 111, 116] then (truP (!isY (vs[0]?.getD noV)), 0)
  else if ops5.contains op = true then rkV op (vs[0]?.getD noV).2.1 (vs[1]?.getD noV).2.1
  else if op = [110, 101, 103] then rkV [45] 0 (vs[0]?.getD noV).2.1
  else if op = [108, 101, 110] then ((1, ((vs[0]?.getD noV).2.2.size : Int), ⟨#[]⟩), 0)
  else if op = [105, 102] then (if isY (vs[0]?.getD noV) = true then vs[1]?.getD noV else vs[2]?.getD noV, 0)
  else cmpV op (vs[0]?.getD noV) (vs[1]?.getD noV)
/-- What is wrong with the first value that is wrong. -/
def vlE : List V3 → Int
  | [] => 0
  | r :: rs => if chk r.1 r.2.1 r.2.2.data.toList ≠ 0 then chk r.1 r.2.1 r.2.2.data.toList else vlE rs
/-- Do of any operation and any values. -/
def doP (op : List UInt8) (vs : List V3) : V3 × Int :=
  if vlE vs ≠ 0 then (noV, vlE vs) else if (ruleP op (vs.map (·.1))).2 ≠ 0 then (noV, (ruleP op (vs.map (·.1))).2) else appP op vs
/-- What follows of what the parts come to. -/
def firstE : List (V3 × Int) → Int
  | [] => 0
  | r :: rs => if r.2 ≠ 0 then r.2 else firstE rs
def combP (op : List UInt8) : List (V3 × Int) → V3 × Int
  | [] => (noV, 0)
  | f :: rest => if f.2 ≠ 0 then (noV, f.2)
    else if ((decide (op = [97, 110, 100]) && !isY f.1) || (decide (op = [111, 114]) && isY f.1)) = true then (f.1, 0)
    else if op = [105, 102] then (if isY f.1 = true then rest[0]?.getD (noV, 0) else rest[1]?.getD (noV, 0))
    else if firstE rest ≠ 0 then (noV, firstE rest) else doP op (f.1 :: rest.map (·.1))
/-- What comes: a value of the type, or a number goes over. -/
def comes (t : Int) (r : V3 × Int) : Prop := (r.2 = 0 ∧ okV t r.1) ∨ r = (noV, 9)
theorem vlE_zero : ∀ {vs : List V3}, vlE vs = 0 ↔ ∀ v ∈ vs, chk v.1 v.2.1 v.2.2.data.toList = 0
  | [] => by simp [vlE]
  | v :: vs => by
    rw [vlE]
    by_cases h : chk v.1 v.2.1 v.2.2.data.toList = 0
    · rw [if_neg (fun hh => hh h), vlE_zero]; simp [h]
    · rw [if_pos h]; simp [h]
theorem okV_tru (b : Bool) : okV 2 (truP b) := by
  cases b
  · exact ⟨rfl, by decide, by unfold inB truP; decide⟩
  · exact ⟨rfl, by decide, by unfold inB truP; decide⟩
theorem okV_int {n : Int} (h : inB n) : okV 1 (1, n, ⟨#[]⟩) := ⟨rfl, by simp [chk], h⟩
theorem over_bd (n : Int) : ((overP n).2 = 0 ∧ inB (overP n).1 ∧ (overP n).1 = n) ∨ overP n = (0, 9) := by
  unfold overP
  split
  · rename_i h; exact .inl ⟨rfl, h, rfl⟩
  · exact .inr rfl
theorem rkP_bd (op : List UInt8) (a b : Int) (ha : inB a) (hb : inB b) : ((rkP op a b).2 = 0 ∧ inB (rkP op a b).1) ∨ rkP op a b = (0, 9) := by
  unfold rkP
  split
  · rcases over_bd (a + b) with h | h
    · exact .inl ⟨h.1, h.2.1⟩
    · exact .inr h
  · split
    · rcases over_bd (a - b) with h | h
      · exact .inl ⟨h.1, h.2.1⟩
      · exact .inr h
    · split
      · rcases over_bd (a * b) with h | h
        · exact .inl ⟨h.1, h.2.1⟩
        · exact .inr h
      · split
        · split
          · exact .inr rfl
          · rename_i h
            exact .inl ⟨rfl, tdiv_bd a b ha (fun hh => h (.inr hh))⟩
        · split
          · exact .inr rfl
          · rename_i h
            refine .inl ⟨rfl, ?_⟩
            have h1 : (a.tmod b).natAbs ≤ a.natAbs := by rw [Int.natAbs_tmod]; exact Nat.mod_le _ _
            have h2 : 0 ≤ a → 0 ≤ a.tmod b := fun h => Int.tmod_nonneg b h
            have h3 : a ≤ 0 → a.tmod b ≤ 0 := fun h => by
              have := Int.tmod_nonneg b (show 0 ≤ -a by omega)
              rw [Int.neg_tmod] at this
              omega
            unfold inB at ha hb ⊢
            simp only
            omega
theorem rkV_comes (op : List UInt8) (a b : Int) (ha : inB a) (hb : inB b) : comes 1 (rkV op a b) := by
  unfold rkV
  rcases rkP_bd op a b ha hb with ⟨h, h2⟩ | h
  · rw [if_neg (fun hh => hh h)]
    exact .inl ⟨rfl, okV_int h2⟩
  · rw [h, if_pos (by decide)]
    exact .inr rfl
theorem cmpV_comes (op : List UInt8) (a b : V3) (ha : chk a.1 a.2.1 a.2.2.data.toList = 0) (hb : chk b.1 b.2.1 b.2.2.data.toList = 0) (ht : a.1 = b.1) : comes 2 (cmpV op a b) ∧ (cmpV op a b).2 = 0 := by
  unfold cmpV
  have h : cmpE a.1 a.2.1 a.2.2.data.toList b.1 b.2.1 b.2.2.data.toList = 0 := by
    rw [cmpE, if_neg (fun hh => hh ha), if_neg (fun hh => hh hb), if_neg (fun hh => hh ht)]
  rw [if_neg (fun hh => hh h)]
  exact ⟨.inl ⟨rfl, okV_tru _⟩, rfl⟩
theorem ruleP_in {op : List UInt8} {ts : List Int} {T : Int} (hr : ruleP op ts = (T, 0)) : ∃ r, kdFind op kdRules = some r ∧ ts.length = kdCnt r ∧ kdAll (ts.getLast?.getD 0) ts [r.2.1, r.2.2.1, r.2.2.2.1] = true ∧ kdMeant (ts.getLast?.getD 0) r.2.2.2.2 = T := by
  unfold ruleP at hr
  split at hr
  · simp at hr
  · rename_i r hf
    split at hr
    · simp at hr
    · split at hr
      · simp at hr
      · rename_i hlen
        split at hr
        · rename_i hall
          exact ⟨r, hf, by simpa using hlen, hall, by simpa using hr⟩
        · simp at hr
/-- Of values that are right, and that the rule lets through, an operation comes to its type. -/
theorem app_comes {op : List UInt8} {vs : List V3} {T : Int} (hv : ∀ v ∈ vs, chk v.1 v.2.1 v.2.2.data.toList = 0) (hb : ∀ v ∈ vs, inB v.2.1) (hr : ruleP op (vs.map (·.1)) = (T, 0)) : comes T (appP op vs) := by
  obtain ⟨r, hf, hlen, hall, hT⟩ := ruleP_in hr
  rw [List.length_map] at hlen
  obtain ⟨hm, he⟩ := kdFind_mem hf
  subst he
  simp only [kdRules, List.mem_cons, List.not_mem_nil, or_false] at hm
  have len1 : ∀ {l : List V3}, l.length = 1 → ∃ a, l = [a] := fun {l} h => by
    match l, h with
    | [a], _ => exact ⟨a, rfl⟩
  have len2 : ∀ {l : List V3}, l.length = 2 → ∃ a b, l = [a, b] := fun {l} h => by
    match l, h with
    | [a, b], _ => exact ⟨a, b, rfl⟩
  have len3 : ∀ {l : List V3}, l.length = 3 → ∃ a b c, l = [a, b, c] := fun {l} h => by
    match l, h with
    | [a, b, c], _ => exact ⟨a, b, c, rfl⟩
  rcases hm with rfl | rfl | rfl | rfl | rfl | rfl | rfl | rfl | rfl | rfl | rfl | rfl | rfl | rfl | rfl | rfl | rfl
  · obtain rfl : T = 2 := hT.symm
    exact .inl ⟨rfl, okV_tru _⟩
  · obtain rfl : T = 2 := hT.symm
    exact .inl ⟨rfl, okV_tru _⟩
  · obtain rfl : T = 2 := hT.symm
    exact .inl ⟨rfl, okV_tru _⟩
  · obtain ⟨a, b, rfl⟩ := len2 hlen
    obtain rfl : T = 2 := hT.symm
    exact (cmpV_comes _ a b (hv a (by simp)) (hv b (by simp)) (by simpa [kdAll, kdMeant] using hall)).1
  · obtain ⟨a, b, rfl⟩ := len2 hlen
    obtain rfl : T = 2 := hT.symm
    exact (cmpV_comes _ a b (hv a (by simp)) (hv b (by simp)) (by simpa [kdAll, kdMeant] using hall)).1
  · obtain ⟨a, b, rfl⟩ := len2 hlen
    obtain rfl : T = 2 := hT.symm
    exact (cmpV_comes _ a b (hv a (by simp)) (hv b (by simp)) (by simpa [kdAll, kdMeant] using hall)).1
  · obtain ⟨a, b, rfl⟩ := len2 hlen
    obtain rfl : T = 2 := hT.symm
    exact (cmpV_comes _ a b (hv a (by simp)) (hv b (by simp)) (by simpa [kdAll, kdMeant] using hall)).1
  · obtain ⟨a, b, rfl⟩ := len2 hlen
    obtain rfl : T = 2 := hT.symm
    exact (cmpV_comes _ a b (hv a (by simp)) (hv b (by simp)) (by simpa [kdAll, kdMeant] using hall)).1
  · obtain ⟨a, b, rfl⟩ := len2 hlen
    obtain rfl : T = 2 := hT.symm
    exact (cmpV_comes _ a b (hv a (by simp)) (hv b (by simp)) (by simpa [kdAll, kdMeant] using hall)).1
  · obtain ⟨a, b, rfl⟩ := len2 hlen
    obtain rfl : T = 1 := hT.symm
    exact rkV_comes _ a.2.1 b.2.1 (hb a (by simp)) (hb b (by simp))
  · obtain ⟨a, b, rfl⟩ := len2 hlen
    obtain rfl : T = 1 := hT.symm
    exact rkV_comes _ a.2.1 b.2.1 (hb a (by simp)) (hb b (by simp))
  · obtain ⟨a, b, rfl⟩ := len2 hlen
    obtain rfl : T = 1 := hT.symm
    exact rkV_comes _ a.2.1 b.2.1 (hb a (by simp)) (hb b (by simp))
  · obtain ⟨a, b, rfl⟩ := len2 hlen
    obtain rfl : T = 1 := hT.symm
    exact rkV_comes _ a.2.1 b.2.1 (hb a (by simp)) (hb b (by simp))
  · obtain ⟨a, b, rfl⟩ := len2 hlen
    obtain rfl : T = 1 := hT.symm
    exact rkV_comes _ a.2.1 b.2.1 (hb a (by simp)) (hb b (by simp))
  · obtain ⟨a, rfl⟩ := len1 hlen
    obtain rfl : T = 1 := hT.symm
    exact rkV_comes [45] 0 a.2.1 (by unfold inB; omega) (hb a (by simp))
  · obtain ⟨a, rfl⟩ := len1 hlen
    obtain rfl : T = 1 := hT.symm
    have h40 := chk_size (hv a (by simp))
    refine .inl ⟨rfl, okV_int ?_⟩
    simp at h40
    unfold inB
    simp
    omega
  · obtain ⟨a, b, c, rfl⟩ := len3 hlen
    simp [kdAll, kdMeant] at hall hT
    refine .inl ⟨rfl, ?_⟩
    show okV T (if isY a = true then b else c)
    split
    · exact ⟨by rw [← hT]; exact hall.2, hv b (by simp), hb b (by simp)⟩
    · exact ⟨hT, hv c (by simp), hb c (by simp)⟩
theorem firstE_zero : ∀ {cs : List (V3 × Int)}, firstE cs = 0 ↔ ∀ r ∈ cs, r.2 = 0
  | [] => by simp [firstE]
  | r :: rs => by
    rw [firstE]
    by_cases h : r.2 = 0
    · rw [if_neg (fun hh => hh h), firstE_zero]; simp [h]
    · rw [if_pos h]; simp [h]
theorem firstE_nine : ∀ {cs : List (V3 × Int)}, (∀ r ∈ cs, r.2 = 0 ∨ r.2 = 9) → firstE cs = 0 ∨ firstE cs = 9
  | [], _ => .inl rfl
  | r :: rs, h => by
    rw [firstE]
    split
    · rename_i h0
      exact .inr ((h r (by simp)).resolve_left h0)
    · exact firstE_nine fun q hq => h q (by simp [hq])
theorem comes_err {t : Int} {r : V3 × Int} (h : comes t r) : r.2 = 0 ∨ r.2 = 9 := by
  rcases h with h | h
  · exact .inl h.1
  · exact .inr (by rw [h])
theorem comb_comes {α : Type} {op : List UInt8} {l : List α} {f : α → Int} {g : α → V3 × Int} {T : Int} (h : ∀ y ∈ l, comes (f y) (g y)) (hr : ruleP op (l.map f) = (T, 0)) : comes T (combP op (l.map g)) := by
  obtain ⟨r, hf, hlen, hall, hT⟩ := ruleP_in hr
  rw [List.length_map] at hlen
  match l, h, hr, hlen, hall, hT with
  | [], h, hr, hlen, hall, hT =>
    have := (kdCnt_ok r (kdFind_mem hf).1).1
    simp at hlen
    omega
  | y :: ys, h, hr, hlen, hall, hT =>
    rw [List.map_cons, combP]
    rcases h y (by simp) with ⟨h0, hok⟩ | h9
    · rw [if_neg (fun hh => hh h0)]
      split
      · rename_i hs
        have hop : op = [97, 110, 100] ∨ op = [111, 114] := by
          rcases Bool.or_eq_true_iff.1 hs with h | h
          · exact .inl (of_decide_eq_true (Bool.and_eq_true_iff.1 h).1)
          · exact .inr (of_decide_eq_true (Bool.and_eq_true_iff.1 h).1)
        have hr2 : r.2.1 = 2 ∧ r.2.2.2.2 = 2 := by
          rcases hop with rfl | rfl
          · obtain rfl := Option.some.inj (hf.symm.trans (show kdFind [97, 110, 100] kdRules = some ([97, 110, 100], 2, 2, 0, 2) from rfl))
            exact ⟨rfl, rfl⟩
          · obtain rfl := Option.some.inj (hf.symm.trans (show kdFind [111, 114] kdRules = some ([111, 114], 2, 2, 0, 2) from rfl))
            exact ⟨rfl, rfl⟩
        rw [hr2.2] at hT
        rw [hr2.1, List.map_cons, kdAll] at hall
        have hy : f y = 2 := by
          have := of_decide_eq_true (Bool.and_eq_true_iff.1 hall).1
          rw [this]; rfl
        obtain rfl : T = 2 := hT.symm
        rw [hy] at hok
        exact .inl ⟨rfl, hok⟩
      · split
        · rename_i hif
          subst hif
          obtain rfl := Option.some.inj (hf.symm.trans (show kdFind [105, 102] kdRules = some ([105, 102], 2, -1, -1, -1) from rfl))
          have hl2 : ys.length = 2 := by
            have : (y :: ys).length = 3 := hlen
            simpa using this
          match ys, hl2, h, hall, hT with
          | [b, c], _, h, hall, hT =>
            simp [kdAll, kdMeant] at hall hT
            show comes T (if isY (g y).1 = true then g b else g c)
            split
            · have := h b (by simp)
              rw [hall.2, hT] at this
              exact this
            · have := h c (by simp)
              rw [hT] at this
              exact this
        · split
          · rename_i hfe
            have := firstE_nine (cs := ys.map g) fun q hq => by
              obtain ⟨z, hz, rfl⟩ := List.mem_map.1 hq
              exact comes_err (h z (by simp [hz]))
            rw [this.resolve_left hfe]
            exact .inr rfl
          · rename_i hfe
            have hz := firstE_zero.1 (show firstE (ys.map g) = 0 from by simpa using hfe)
            have hall2 : ∀ z ∈ y :: ys, okV (f z) (g z).1 := fun z hz2 => by
              rcases h z hz2 with hgz | hgz
              · exact hgz.2
              · exfalso
                rcases List.mem_cons.1 hz2 with rfl | hz3
                · rw [hgz] at h0; exact absurd h0 (by decide)
                · have := hz (g z) (List.mem_map.2 ⟨z, hz3, rfl⟩)
                  rw [hgz] at this; exact absurd this (by decide)
            have hmap : ((g y).1 :: (ys.map g).map (·.1)) = (y :: ys).map (fun z => (g z).1) := by simp
            have htys : ((y :: ys).map (fun z => (g z).1)).map (·.1) = (y :: ys).map f := by
              rw [List.map_map]
              exact List.map_congr_left fun z hz => (hall2 z hz).1
            have hvl : vlE ((y :: ys).map (fun z => (g z).1)) = 0 := vlE_zero.2 fun v hv => by
              obtain ⟨z, hz, rfl⟩ := List.mem_map.1 hv
              exact (hall2 z hz).2.1
            rw [hmap, doP, if_neg (fun hh => hh hvl), htys, hr, if_neg (by simp)]
            exact app_comes (fun v hv => vlE_zero.1 hvl v hv) (fun v hv => by
              obtain ⟨z, hz, rfl⟩ := List.mem_map.1 hv
              exact (hall2 z hz).2.2) (by rw [htys]; exact hr)
    · rw [h9, if_pos (by decide)]
      exact .inr rfl
/-- A row that is right over columns. -/
def RowR (zs : List (ByteArray × Int)) (rs : List V3) : Prop := rs.length = zs.length ∧ ∀ k (h : k < zs.length) (h2 : k < rs.length), okV zs[k].2 rs[k]
--END
end Go.Proofs.YtkoejkpjkcejcaaGreatDoor
