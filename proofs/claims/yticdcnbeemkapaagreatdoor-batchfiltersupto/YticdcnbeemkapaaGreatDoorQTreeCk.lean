/-
  Check of package tree, at any expression.
-/
import Derived.Test.YticdcnbeemkapaaGreatDoorGrAg
import Derived.Laws.StructEq
namespace Go.Proofs.YticdcnbeemkapaaGreatDoor
open Go.RowKit Go.BigFrame
set_option linter.unusedVariables false

theorem errK_neq (k : Int) (W : World) : Sem.run Tryz.prog (binOp .neq 33 (errV k) .nilIface) W = .ok (.bool (k != 0)) W := by
  rw [errV]
  split
  · rename_i h; subst h; kernel_rfl
  · rename_i h
    rw [show (k != 0) = true by simpa using h]
    kernel_rfl
theorem errK_gneq (k : Int) (W : World) (j : Nat) : Sem.run Tryz.prog (eqGuard .neq 33 (.tmp j) (.const .nilIface) (errV k) .nilIface) W = .ok () W := by
  rw [errV]
  split <;> kernel_rfl
theorem errK_eql (k : Int) (W : World) : Sem.run Tryz.prog (binOp .eql 33 (errV k) .nilIface) W = .ok (.bool (k == 0)) W := by
  rw [errV]
  split
  · rename_i h; subst h; kernel_rfl
  · rename_i h
    rw [show (k == 0) = false by simpa using h]
    kernel_rfl
theorem errK_geql (k : Int) (W : World) (j : Nat) : Sem.run Tryz.prog (eqGuard .eql 33 (.tmp j) (.const .nilIface) (errV k) .nilIface) W = .ok () W := by
  rw [errV]
  split <;> kernel_rfl
/-- What is wrong with the value of a node. -/
def ckV (t n : Int) (l : List UInt8) : Int := if chk t n l ≠ 0 then chk t n l else if t = 1 ∧ n < 0 then 1 else 0
set_option maxHeartbeats 1000000 in
theorem checkVal_any (t n : Int) (s : ByteArray) (w : World) (hs : s.size ≤ maxLen) :
    Calls Tryz.prog 34 #[.agg #[.int .i64 t, .int .i64 n, .string s]] w fun e w' => e = .returned (errV (ckV t n s.data.toList)) ∧ Below w.heap.size w w' := by
  have b1 : Below w.heap.size w (w.alloc (.cells #[.int .i64 t, .int .i64 n, .string s] 23)) := (Below.refl _ w).alloc (Nat.le_refl _) _
  have cC := check_any t n s (w.alloc (.cells #[.int .i64 t, .int .i64 n, .string s] 23)) hs
  obtain ⟨K, hK⟩ : ∃ K, ckV t n s.data.toList = K := ⟨_, rfl⟩
  have HK : Hid (ckV t n s.data.toList = K) := hK
  rw [hK]
  clear hK
  have hn1 := errK_neq (chk t n s.data.toList)
  have hn2 := errK_gneq (chk t n s.data.toList)
  obtain ⟨E, hE⟩ : ∃ E, chk t n s.data.toList = E := ⟨_, rfl⟩
  have HE : Hid (chk t n s.data.toList = E) := hE
  rw [hE] at cC hn1 hn2
  clear hE
  by_cases h0 : E = 0
  · subst h0
    have hb : ((0 : Int) != 0) = false := rfl
    rw [show errV 0 = .nilIface from rfl] at cC
    clear hn1 hn2
    by_cases h1 : t = 1
    · subst h1
      by_cases h2 : n < 0
      · have hk : (.iface 42 (.int .i64 1) : Value) = errV K := by rw [← HK.out, ckV, if_neg (by rw [HE.out]; simp), if_pos ⟨rfl, h2⟩]; rfl
        have HV : Hid ((.iface 42 (.int .i64 1) : Value) = errV K) := hk
        clear HK hk HE
        generalize errV K = V at HV ⊢
        go_enter Tryz.func34, Tryz.ntmps34
        go_wp2_with fail
        refine cC.mono ?_
        rintro e w1 ⟨rfl, b2⟩
        have c0 : w1.cell? ⟨w.heap.size, 0, none⟩ = some (.int .i64 1) := by rw [b2.cell (p := ⟨w.heap.size, 0, none⟩) (by simp), World.cell?_alloc_at _ _ _ _ rfl]; rfl
        have c1 : w1.cell? ⟨w.heap.size, 1, none⟩ = some (.int .i64 n) := by rw [b2.cell (p := ⟨w.heap.size, 1, none⟩) (by simp), World.cell?_alloc_at _ _ _ _ rfl]; rfl
        have hl : w.heap.size < w1.heap.size := by have := b2.size; simp at this; omega
        go_wp2
        go_ret
        exact ⟨by rw [← HV.out]; rfl, b1.trans (b2.mono (by simp))⟩
      · have hk : (.nilIface : Value) = errV K := by rw [← HK.out, ckV, if_neg (by rw [HE.out]; simp), if_neg (fun h => h2 h.2)]; rfl
        have HV : Hid ((.nilIface : Value) = errV K) := hk
        clear HK hk HE
        generalize errV K = V at HV ⊢
        go_enter Tryz.func34, Tryz.ntmps34
        go_wp2_with fail
        refine cC.mono ?_
        rintro e w1 ⟨rfl, b2⟩
        have c0 : w1.cell? ⟨w.heap.size, 0, none⟩ = some (.int .i64 1) := by rw [b2.cell (p := ⟨w.heap.size, 0, none⟩) (by simp), World.cell?_alloc_at _ _ _ _ rfl]; rfl
        have c1 : w1.cell? ⟨w.heap.size, 1, none⟩ = some (.int .i64 n) := by rw [b2.cell (p := ⟨w.heap.size, 1, none⟩) (by simp), World.cell?_alloc_at _ _ _ _ rfl]; rfl
        have hl : w.heap.size < w1.heap.size := by have := b2.size; simp at this; omega
        go_wp2
        go_ret
        exact ⟨by rw [← HV.out]; rfl, b1.trans (b2.mono (by simp))⟩
    · have hk : (.nilIface : Value) = errV K := by rw [← HK.out, ckV, if_neg (by rw [HE.out]; simp), if_neg (fun h => h1 h.1)]; rfl
      have HV : Hid ((.nilIface : Value) = errV K) := hk
      have h1z : (t == 1) = false := by simpa using h1
      clear HK hk HE
      generalize errV K = V at HV ⊢
      go_enter Tryz.func34, Tryz.ntmps34
      go_wp2_with fail
      refine cC.mono ?_
      rintro e w1 ⟨rfl, b2⟩
      have c0 : w1.cell? ⟨w.heap.size, 0, none⟩ = some (.int .i64 t) := by rw [b2.cell (p := ⟨w.heap.size, 0, none⟩) (by simp), World.cell?_alloc_at _ _ _ _ rfl]; rfl
      have hl : w.heap.size < w1.heap.size := by have := b2.size; simp at this; omega
      go_wp2
      go_ret
      exact ⟨by rw [← HV.out]; rfl, b1.trans (b2.mono (by simp))⟩
  · have hk : errV E = errV K := by rw [← HK.out, ckV, HE.out, if_pos h0]
    have HV : Hid (errV E = errV K) := hk
    have hb : (E != 0) = true := by simpa using h0
    rw [hb] at hn1
    clear HK hk HE h0 hb
    generalize errV K = V at HV ⊢
    generalize errV E = U at *
    go_enter Tryz.func34, Tryz.ntmps34
    go_wp2_with fail
    refine cC.mono ?_
    rintro e w1 ⟨rfl, b2⟩
    go_wp2
    go_ret
    exact ⟨by rw [← HV.out]; rfl, b1.trans (b2.mono (by simp))⟩
/-- What is wrong with a node, by what was asked of it. -/
def nodeB (ok ic nt ln nn iv vn : Bool) (cv : Int) : Int := if (!ok || (ic && !nt)) = true then 2 else if (ln || ((!ic && nn) || (!iv && vn))) = true then 3 else if iv = true then cv else 0
/-- What is wrong with a node, its parts left. -/
def nodeE (x : Ex) : Int := nodeB (apL x.op.data.toList opsL).2 (x.op.toList == [99, 111, 108]) (nameT x.nm.data.toList) ((x.args.length : Int) != (apL x.op.data.toList opsL).1) (!(x.nm.toList == [])) (x.op.toList == [118, 97, 108]) (!((x.vt == 0) && ((x.vn == 0) && (x.vs.toList == [])))) (ckV x.vt x.vn x.vs.data.toList)
theorem valK_eqIn (t n t2 n2 : Int) (s s2 : ByteArray) (W : World) : (Op.equalIn 10000 23 (.agg #[.int .i64 t, .int .i64 n, .string s]) (.agg #[.int .i64 t2, .int .i64 n2, .string s2])).run Tryz.prog W = .ok ((t == t2) && ((n == n2) && (s.toList == s2.toList))) W := by
  rw [show (10000 : Nat) = 9999 + 1 from rfl, run_equalIn_agg W 9999 23 _ _ (by kernel_rfl) (by kernel_rfl)]
  simp only [Program.fieldsOf, Tryz.underlying23]
  go_simp
  by_cases h1 : t = t2 <;> by_cases h2 : n = n2 <;> by_cases h3 : s.toList = s2.toList <;> simp [h1, h2, h3]
theorem valK_neq (t n t2 n2 : Int) (s s2 : ByteArray) (W : World) : Sem.run Tryz.prog (binOp .neq 23 (.agg #[.int .i64 t, .int .i64 n, .string s]) (.agg #[.int .i64 t2, .int .i64 n2, .string s2])) W = .ok (.bool !((t == t2) && ((n == n2) && (s.toList == s2.toList)))) W := by
  rw [run_neq_struct, valK_eqIn]; rfl
theorem ExIn.whole {w : World} {lo : Nat → Prop} {v : Value} {x : Ex} (h : ExIn w lo v x) : ∃ p c, v = .agg #[.string x.op, .string x.nm, .int .i64 x.vt, .int .i64 x.vn, .string x.vs, .slice p x.args.length c, .int .i64 x.pos] ∧ x.args.length ≤ maxLen ∧ x.op.size ≤ maxLen ∧ x.nm.size ≤ maxLen ∧ x.vs.size ≤ maxLen := by
  cases x with
  | node op nm vt vn vs pos l =>
    rw [ExIn] at h
    obtain ⟨p, c, e, h1, h2, h3, h4, _⟩ := h
    exact ⟨p, c, e, h1.1, h2, h3, h4⟩
set_option maxHeartbeats 4000000 in
set_option maxRecDepth 20000 in
theorem checkNode_any (x : Ex) (lo : Nat → Prop) (v : Value) (w : World) (henv : TEnv w) (hx : ExIn w lo v x) :
    Calls Tryz.prog 17 #[v] w fun e w' => e = .returned (errV (nodeE x)) ∧ Below w.heap.size w w' := by
  obtain ⟨p, c, rfl, hm, hso, hsn, hss⟩ := hx.whole
  unfold maxLen at hm
  have b1 : Below w.heap.size w (w.alloc (.cells #[.string x.op, .string x.nm, .int .i64 x.vt, .int .i64 x.vn, .string x.vs, .slice p x.args.length c, .int .i64 x.pos] 26)) := (Below.refl _ w).alloc (Nat.le_refl _) _
  obtain ⟨n, ok, hap⟩ : ∃ n ok, apL x.op.data.toList opsL = (n, ok) := ⟨_, _, rfl⟩
  have cA := argsOf_any x.op (w.alloc (.cells #[.string x.op, .string x.nm, .int .i64 x.vt, .int .i64 x.vn, .string x.vs, .slice p x.args.length c, .int .i64 x.pos] 26)) (henv.on b1) n ok hap
  have cN := fun W (hb : Below w.heap.size w W) => isColumn_any x.nm W (henv.on hb) hsn
  have cV := fun W => checkVal_any x.vt x.vn x.vs W hss
  obtain ⟨K, hK⟩ : ∃ K, errV (nodeE x) = K := ⟨_, rfl⟩
  have HK : Hid (errV (nodeE x) = K) := hK
  rw [hK]
  rw [nodeE, hap] at HK
  simp only at HK
  have hvn := valK_neq x.vt x.vn 0 0 x.vs ⟨#[]⟩
  rw [show (⟨#[]⟩ : ByteArray).toList = [] by rw [Lib.toList_data]] at hvn
  clear hK hap henv hx
  generalize x.op = OP at *
  generalize x.nm = NM at *
  generalize x.vs = VS at *
  generalize x.vt = VT at *
  generalize x.vn = VN at *
  generalize x.pos = PS at *
  generalize x.args.length = M at *
  generalize nameT NM.data.toList = NT at cN HK
  generalize hic : (OP.toList == [99, 111, 108]) = IC at HK
  generalize hiv : (OP.toList == [118, 97, 108]) = IV at HK
  generalize hln : ((M : Int) != n) = LN at HK
  generalize hnn : (NM.toList == []) = NN at HK
  generalize hvv : ((VT == 0) && ((VN == 0) && (VS.toList == []))) = VV at HK hvn
  generalize ckV VT VN VS.data.toList = CV at cV HK
  clear hvv
  have key : ∀ (k : Int), nodeB ok IC NT LN (!NN) IV (!VV) CV = k → Hid (errV k = K) := fun k h => by show _ = _; rw [← h]; exact HK.out
  clear HK
  cases ok
  · have HV := key 2 rfl
    go_enter Tryz.func17, Tryz.ntmps17
    go_wp2_with fail
    refine cA.mono ?_
    rintro e w1 ⟨rfl, b2⟩
    go_wp2
    go_ret
    exact ⟨by rw [← HV.out]; rfl, b1.trans (b2.mono (by simp))⟩
  · cases IC
    · cases LN
      · cases NN
        · have HV := key 3 rfl
          go_enter Tryz.func17, Tryz.ntmps17
          go_wp2_with fail
          refine cA.mono ?_
          rintro e w1 ⟨rfl, b2⟩
          have hz1 : w.heap.size < w1.heap.size := by have := b2.size; simp at this; omega
          have gB : ∀ i, w1.cell? ⟨w.heap.size, i, none⟩ = (#[.string OP, .string NM, .int .i64 VT, .int .i64 VN, .string VS, .slice p M c, .int .i64 PS] : Array Value)[i]? := fun i => by rw [b2.cell (p := ⟨w.heap.size, i, none⟩) (by simp), World.cell?_alloc_at _ _ _ _ rfl]
          have g0 : w1.cell? ⟨w.heap.size, 0, none⟩ = some (.string OP) := gB 0
          have g1 : w1.cell? ⟨w.heap.size, 1, none⟩ = some (.string NM) := gB 1
          have g2 : w1.cell? ⟨w.heap.size, 2, none⟩ = some (.int .i64 VT) := gB 2
          have g3 : w1.cell? ⟨w.heap.size, 3, none⟩ = some (.int .i64 VN) := gB 3
          have g4 : w1.cell? ⟨w.heap.size, 4, none⟩ = some (.string VS) := gB 4
          have g5 : w1.cell? ⟨w.heap.size, 5, none⟩ = some (.slice p M c) := gB 5
          have b3 : Below w.heap.size w w1 := b1.trans (b2.mono (by simp))
          clear gB
          go_wp2
          go_ret
          exact ⟨by rw [← HV.out]; rfl, b3⟩
        · cases IV
          · cases VV
            · have HV := key 3 rfl
              go_enter Tryz.func17, Tryz.ntmps17
              go_wp2_with fail
              refine cA.mono ?_
              rintro e w1 ⟨rfl, b2⟩
              have hz1 : w.heap.size < w1.heap.size := by have := b2.size; simp at this; omega
              have gB : ∀ i, w1.cell? ⟨w.heap.size, i, none⟩ = (#[.string OP, .string NM, .int .i64 VT, .int .i64 VN, .string VS, .slice p M c, .int .i64 PS] : Array Value)[i]? := fun i => by rw [b2.cell (p := ⟨w.heap.size, i, none⟩) (by simp), World.cell?_alloc_at _ _ _ _ rfl]
              have g0 : w1.cell? ⟨w.heap.size, 0, none⟩ = some (.string OP) := gB 0
              have g1 : w1.cell? ⟨w.heap.size, 1, none⟩ = some (.string NM) := gB 1
              have g2 : w1.cell? ⟨w.heap.size, 2, none⟩ = some (.int .i64 VT) := gB 2
              have g3 : w1.cell? ⟨w.heap.size, 3, none⟩ = some (.int .i64 VN) := gB 3
              have g4 : w1.cell? ⟨w.heap.size, 4, none⟩ = some (.string VS) := gB 4
              have g5 : w1.cell? ⟨w.heap.size, 5, none⟩ = some (.slice p M c) := gB 5
              have b3 : Below w.heap.size w w1 := b1.trans (b2.mono (by simp))
              clear gB
              go_wp2
              go_ret
              exact ⟨by rw [← HV.out]; rfl, b3⟩
            · have HV := key 0 rfl
              go_enter Tryz.func17, Tryz.ntmps17
              go_wp2_with fail
              refine cA.mono ?_
              rintro e w1 ⟨rfl, b2⟩
              have hz1 : w.heap.size < w1.heap.size := by have := b2.size; simp at this; omega
              have gB : ∀ i, w1.cell? ⟨w.heap.size, i, none⟩ = (#[.string OP, .string NM, .int .i64 VT, .int .i64 VN, .string VS, .slice p M c, .int .i64 PS] : Array Value)[i]? := fun i => by rw [b2.cell (p := ⟨w.heap.size, i, none⟩) (by simp), World.cell?_alloc_at _ _ _ _ rfl]
              have g0 : w1.cell? ⟨w.heap.size, 0, none⟩ = some (.string OP) := gB 0
              have g1 : w1.cell? ⟨w.heap.size, 1, none⟩ = some (.string NM) := gB 1
              have g2 : w1.cell? ⟨w.heap.size, 2, none⟩ = some (.int .i64 VT) := gB 2
              have g3 : w1.cell? ⟨w.heap.size, 3, none⟩ = some (.int .i64 VN) := gB 3
              have g4 : w1.cell? ⟨w.heap.size, 4, none⟩ = some (.string VS) := gB 4
              have g5 : w1.cell? ⟨w.heap.size, 5, none⟩ = some (.slice p M c) := gB 5
              have b3 : Below w.heap.size w w1 := b1.trans (b2.mono (by simp))
              clear gB
              go_wp2
              go_ret
              exact ⟨by rw [← HV.out]; rfl, b3⟩
          · have HV := key CV rfl
            go_enter Tryz.func17, Tryz.ntmps17
            go_wp2_with fail
            refine cA.mono ?_
            rintro e w1 ⟨rfl, b2⟩
            have hz1 : w.heap.size < w1.heap.size := by have := b2.size; simp at this; omega
            have gB : ∀ i, w1.cell? ⟨w.heap.size, i, none⟩ = (#[.string OP, .string NM, .int .i64 VT, .int .i64 VN, .string VS, .slice p M c, .int .i64 PS] : Array Value)[i]? := fun i => by rw [b2.cell (p := ⟨w.heap.size, i, none⟩) (by simp), World.cell?_alloc_at _ _ _ _ rfl]
            have g0 : w1.cell? ⟨w.heap.size, 0, none⟩ = some (.string OP) := gB 0
            have g1 : w1.cell? ⟨w.heap.size, 1, none⟩ = some (.string NM) := gB 1
            have g2 : w1.cell? ⟨w.heap.size, 2, none⟩ = some (.int .i64 VT) := gB 2
            have g3 : w1.cell? ⟨w.heap.size, 3, none⟩ = some (.int .i64 VN) := gB 3
            have g4 : w1.cell? ⟨w.heap.size, 4, none⟩ = some (.string VS) := gB 4
            have g5 : w1.cell? ⟨w.heap.size, 5, none⟩ = some (.slice p M c) := gB 5
            have b3 : Below w.heap.size w w1 := b1.trans (b2.mono (by simp))
            clear gB
            go_wp2_with fail
            refine (cV _).mono ?_
            rintro e w2 ⟨rfl, b4⟩
            go_wp2
            go_ret
            exact ⟨by rw [← HV.out]; rfl, b3.trans (b4.mono b3.size)⟩
      · have HV := key 3 rfl
        go_enter Tryz.func17, Tryz.ntmps17
        go_wp2_with fail
        refine cA.mono ?_
        rintro e w1 ⟨rfl, b2⟩
        have hz1 : w.heap.size < w1.heap.size := by have := b2.size; simp at this; omega
        have gB : ∀ i, w1.cell? ⟨w.heap.size, i, none⟩ = (#[.string OP, .string NM, .int .i64 VT, .int .i64 VN, .string VS, .slice p M c, .int .i64 PS] : Array Value)[i]? := fun i => by rw [b2.cell (p := ⟨w.heap.size, i, none⟩) (by simp), World.cell?_alloc_at _ _ _ _ rfl]
        have g0 : w1.cell? ⟨w.heap.size, 0, none⟩ = some (.string OP) := gB 0
        have g1 : w1.cell? ⟨w.heap.size, 1, none⟩ = some (.string NM) := gB 1
        have g2 : w1.cell? ⟨w.heap.size, 2, none⟩ = some (.int .i64 VT) := gB 2
        have g3 : w1.cell? ⟨w.heap.size, 3, none⟩ = some (.int .i64 VN) := gB 3
        have g4 : w1.cell? ⟨w.heap.size, 4, none⟩ = some (.string VS) := gB 4
        have g5 : w1.cell? ⟨w.heap.size, 5, none⟩ = some (.slice p M c) := gB 5
        have b3 : Below w.heap.size w w1 := b1.trans (b2.mono (by simp))
        clear gB
        go_wp2
        go_ret
        exact ⟨by rw [← HV.out]; rfl, b3⟩
    · cases NT
      · have HV := key 2 rfl
        go_enter Tryz.func17, Tryz.ntmps17
        go_wp2_with fail
        refine cA.mono ?_
        rintro e w1 ⟨rfl, b2⟩
        have hz1 : w.heap.size < w1.heap.size := by have := b2.size; simp at this; omega
        have gB : ∀ i, w1.cell? ⟨w.heap.size, i, none⟩ = (#[.string OP, .string NM, .int .i64 VT, .int .i64 VN, .string VS, .slice p M c, .int .i64 PS] : Array Value)[i]? := fun i => by rw [b2.cell (p := ⟨w.heap.size, i, none⟩) (by simp), World.cell?_alloc_at _ _ _ _ rfl]
        have g0 : w1.cell? ⟨w.heap.size, 0, none⟩ = some (.string OP) := gB 0
        have g1 : w1.cell? ⟨w.heap.size, 1, none⟩ = some (.string NM) := gB 1
        have g2 : w1.cell? ⟨w.heap.size, 2, none⟩ = some (.int .i64 VT) := gB 2
        have g3 : w1.cell? ⟨w.heap.size, 3, none⟩ = some (.int .i64 VN) := gB 3
        have g4 : w1.cell? ⟨w.heap.size, 4, none⟩ = some (.string VS) := gB 4
        have g5 : w1.cell? ⟨w.heap.size, 5, none⟩ = some (.slice p M c) := gB 5
        have b3 : Below w.heap.size w w1 := b1.trans (b2.mono (by simp))
        clear gB
        go_wp2_with fail
        refine (cN _ b3).mono ?_
        rintro e w2 ⟨rfl, b4⟩
        have hz2 : w.heap.size < w2.heap.size := by have := b4.size; omega
        have k0 : w2.cell? ⟨w.heap.size, 0, none⟩ = some (.string OP) := by rw [b4.cell (p := ⟨w.heap.size, 0, none⟩) hz1]; exact g0
        have k1 : w2.cell? ⟨w.heap.size, 1, none⟩ = some (.string NM) := by rw [b4.cell (p := ⟨w.heap.size, 1, none⟩) hz1]; exact g1
        have k2 : w2.cell? ⟨w.heap.size, 2, none⟩ = some (.int .i64 VT) := by rw [b4.cell (p := ⟨w.heap.size, 2, none⟩) hz1]; exact g2
        have k3 : w2.cell? ⟨w.heap.size, 3, none⟩ = some (.int .i64 VN) := by rw [b4.cell (p := ⟨w.heap.size, 3, none⟩) hz1]; exact g3
        have k4 : w2.cell? ⟨w.heap.size, 4, none⟩ = some (.string VS) := by rw [b4.cell (p := ⟨w.heap.size, 4, none⟩) hz1]; exact g4
        have k5 : w2.cell? ⟨w.heap.size, 5, none⟩ = some (.slice p M c) := by rw [b4.cell (p := ⟨w.heap.size, 5, none⟩) hz1]; exact g5
        have b5 : Below w.heap.size w w2 := b3.trans (b4.mono b3.size)
        go_wp2
        go_ret
        exact ⟨by rw [← HV.out]; rfl, b5⟩
      · cases LN
        · cases IV
          · cases VV
            · have HV := key 3 rfl
              go_enter Tryz.func17, Tryz.ntmps17
              go_wp2_with fail
              refine cA.mono ?_
              rintro e w1 ⟨rfl, b2⟩
              have hz1 : w.heap.size < w1.heap.size := by have := b2.size; simp at this; omega
              have gB : ∀ i, w1.cell? ⟨w.heap.size, i, none⟩ = (#[.string OP, .string NM, .int .i64 VT, .int .i64 VN, .string VS, .slice p M c, .int .i64 PS] : Array Value)[i]? := fun i => by rw [b2.cell (p := ⟨w.heap.size, i, none⟩) (by simp), World.cell?_alloc_at _ _ _ _ rfl]
              have g0 : w1.cell? ⟨w.heap.size, 0, none⟩ = some (.string OP) := gB 0
              have g1 : w1.cell? ⟨w.heap.size, 1, none⟩ = some (.string NM) := gB 1
              have g2 : w1.cell? ⟨w.heap.size, 2, none⟩ = some (.int .i64 VT) := gB 2
              have g3 : w1.cell? ⟨w.heap.size, 3, none⟩ = some (.int .i64 VN) := gB 3
              have g4 : w1.cell? ⟨w.heap.size, 4, none⟩ = some (.string VS) := gB 4
              have g5 : w1.cell? ⟨w.heap.size, 5, none⟩ = some (.slice p M c) := gB 5
              have b3 : Below w.heap.size w w1 := b1.trans (b2.mono (by simp))
              clear gB
              go_wp2_with fail
              refine (cN _ b3).mono ?_
              rintro e w2 ⟨rfl, b4⟩
              have hz2 : w.heap.size < w2.heap.size := by have := b4.size; omega
              have k0 : w2.cell? ⟨w.heap.size, 0, none⟩ = some (.string OP) := by rw [b4.cell (p := ⟨w.heap.size, 0, none⟩) hz1]; exact g0
              have k1 : w2.cell? ⟨w.heap.size, 1, none⟩ = some (.string NM) := by rw [b4.cell (p := ⟨w.heap.size, 1, none⟩) hz1]; exact g1
              have k2 : w2.cell? ⟨w.heap.size, 2, none⟩ = some (.int .i64 VT) := by rw [b4.cell (p := ⟨w.heap.size, 2, none⟩) hz1]; exact g2
              have k3 : w2.cell? ⟨w.heap.size, 3, none⟩ = some (.int .i64 VN) := by rw [b4.cell (p := ⟨w.heap.size, 3, none⟩) hz1]; exact g3
              have k4 : w2.cell? ⟨w.heap.size, 4, none⟩ = some (.string VS) := by rw [b4.cell (p := ⟨w.heap.size, 4, none⟩) hz1]; exact g4
              have k5 : w2.cell? ⟨w.heap.size, 5, none⟩ = some (.slice p M c) := by rw [b4.cell (p := ⟨w.heap.size, 5, none⟩) hz1]; exact g5
              have b5 : Below w.heap.size w w2 := b3.trans (b4.mono b3.size)
              go_wp2
              go_ret
              exact ⟨by rw [← HV.out]; rfl, b5⟩
            · have HV := key 0 rfl
              go_enter Tryz.func17, Tryz.ntmps17
              go_wp2_with fail
              refine cA.mono ?_
              rintro e w1 ⟨rfl, b2⟩
              have hz1 : w.heap.size < w1.heap.size := by have := b2.size; simp at this; omega
              have gB : ∀ i, w1.cell? ⟨w.heap.size, i, none⟩ = (#[.string OP, .string NM, .int .i64 VT, .int .i64 VN, .string VS, .slice p M c, .int .i64 PS] : Array Value)[i]? := fun i => by rw [b2.cell (p := ⟨w.heap.size, i, none⟩) (by simp), World.cell?_alloc_at _ _ _ _ rfl]
              have g0 : w1.cell? ⟨w.heap.size, 0, none⟩ = some (.string OP) := gB 0
              have g1 : w1.cell? ⟨w.heap.size, 1, none⟩ = some (.string NM) := gB 1
              have g2 : w1.cell? ⟨w.heap.size, 2, none⟩ = some (.int .i64 VT) := gB 2
              have g3 : w1.cell? ⟨w.heap.size, 3, none⟩ = some (.int .i64 VN) := gB 3
              have g4 : w1.cell? ⟨w.heap.size, 4, none⟩ = some (.string VS) := gB 4
              have g5 : w1.cell? ⟨w.heap.size, 5, none⟩ = some (.slice p M c) := gB 5
              have b3 : Below w.heap.size w w1 := b1.trans (b2.mono (by simp))
              clear gB
              go_wp2_with fail
              refine (cN _ b3).mono ?_
              rintro e w2 ⟨rfl, b4⟩
              have hz2 : w.heap.size < w2.heap.size := by have := b4.size; omega
              have k0 : w2.cell? ⟨w.heap.size, 0, none⟩ = some (.string OP) := by rw [b4.cell (p := ⟨w.heap.size, 0, none⟩) hz1]; exact g0
              have k1 : w2.cell? ⟨w.heap.size, 1, none⟩ = some (.string NM) := by rw [b4.cell (p := ⟨w.heap.size, 1, none⟩) hz1]; exact g1
              have k2 : w2.cell? ⟨w.heap.size, 2, none⟩ = some (.int .i64 VT) := by rw [b4.cell (p := ⟨w.heap.size, 2, none⟩) hz1]; exact g2
              have k3 : w2.cell? ⟨w.heap.size, 3, none⟩ = some (.int .i64 VN) := by rw [b4.cell (p := ⟨w.heap.size, 3, none⟩) hz1]; exact g3
              have k4 : w2.cell? ⟨w.heap.size, 4, none⟩ = some (.string VS) := by rw [b4.cell (p := ⟨w.heap.size, 4, none⟩) hz1]; exact g4
              have k5 : w2.cell? ⟨w.heap.size, 5, none⟩ = some (.slice p M c) := by rw [b4.cell (p := ⟨w.heap.size, 5, none⟩) hz1]; exact g5
              have b5 : Below w.heap.size w w2 := b3.trans (b4.mono b3.size)
              go_wp2
              go_ret
              exact ⟨by rw [← HV.out]; rfl, b5⟩
          · have HV := key CV rfl
            go_enter Tryz.func17, Tryz.ntmps17
            go_wp2_with fail
            refine cA.mono ?_
            rintro e w1 ⟨rfl, b2⟩
            have hz1 : w.heap.size < w1.heap.size := by have := b2.size; simp at this; omega
            have gB : ∀ i, w1.cell? ⟨w.heap.size, i, none⟩ = (#[.string OP, .string NM, .int .i64 VT, .int .i64 VN, .string VS, .slice p M c, .int .i64 PS] : Array Value)[i]? := fun i => by rw [b2.cell (p := ⟨w.heap.size, i, none⟩) (by simp), World.cell?_alloc_at _ _ _ _ rfl]
            have g0 : w1.cell? ⟨w.heap.size, 0, none⟩ = some (.string OP) := gB 0
            have g1 : w1.cell? ⟨w.heap.size, 1, none⟩ = some (.string NM) := gB 1
            have g2 : w1.cell? ⟨w.heap.size, 2, none⟩ = some (.int .i64 VT) := gB 2
            have g3 : w1.cell? ⟨w.heap.size, 3, none⟩ = some (.int .i64 VN) := gB 3
            have g4 : w1.cell? ⟨w.heap.size, 4, none⟩ = some (.string VS) := gB 4
            have g5 : w1.cell? ⟨w.heap.size, 5, none⟩ = some (.slice p M c) := gB 5
            have b3 : Below w.heap.size w w1 := b1.trans (b2.mono (by simp))
            clear gB
            go_wp2_with fail
            refine (cN _ b3).mono ?_
            rintro e w2 ⟨rfl, b4⟩
            have hz2 : w.heap.size < w2.heap.size := by have := b4.size; omega
            have k0 : w2.cell? ⟨w.heap.size, 0, none⟩ = some (.string OP) := by rw [b4.cell (p := ⟨w.heap.size, 0, none⟩) hz1]; exact g0
            have k1 : w2.cell? ⟨w.heap.size, 1, none⟩ = some (.string NM) := by rw [b4.cell (p := ⟨w.heap.size, 1, none⟩) hz1]; exact g1
            have k2 : w2.cell? ⟨w.heap.size, 2, none⟩ = some (.int .i64 VT) := by rw [b4.cell (p := ⟨w.heap.size, 2, none⟩) hz1]; exact g2
            have k3 : w2.cell? ⟨w.heap.size, 3, none⟩ = some (.int .i64 VN) := by rw [b4.cell (p := ⟨w.heap.size, 3, none⟩) hz1]; exact g3
            have k4 : w2.cell? ⟨w.heap.size, 4, none⟩ = some (.string VS) := by rw [b4.cell (p := ⟨w.heap.size, 4, none⟩) hz1]; exact g4
            have k5 : w2.cell? ⟨w.heap.size, 5, none⟩ = some (.slice p M c) := by rw [b4.cell (p := ⟨w.heap.size, 5, none⟩) hz1]; exact g5
            have b5 : Below w.heap.size w w2 := b3.trans (b4.mono b3.size)
            go_wp2_with fail
            refine (cV _).mono ?_
            rintro e w3 ⟨rfl, b6⟩
            go_wp2
            go_ret
            exact ⟨by rw [← HV.out]; rfl, b5.trans (b6.mono b5.size)⟩
        · have HV := key 3 rfl
          go_enter Tryz.func17, Tryz.ntmps17
          go_wp2_with fail
          refine cA.mono ?_
          rintro e w1 ⟨rfl, b2⟩
          have hz1 : w.heap.size < w1.heap.size := by have := b2.size; simp at this; omega
          have gB : ∀ i, w1.cell? ⟨w.heap.size, i, none⟩ = (#[.string OP, .string NM, .int .i64 VT, .int .i64 VN, .string VS, .slice p M c, .int .i64 PS] : Array Value)[i]? := fun i => by rw [b2.cell (p := ⟨w.heap.size, i, none⟩) (by simp), World.cell?_alloc_at _ _ _ _ rfl]
          have g0 : w1.cell? ⟨w.heap.size, 0, none⟩ = some (.string OP) := gB 0
          have g1 : w1.cell? ⟨w.heap.size, 1, none⟩ = some (.string NM) := gB 1
          have g2 : w1.cell? ⟨w.heap.size, 2, none⟩ = some (.int .i64 VT) := gB 2
          have g3 : w1.cell? ⟨w.heap.size, 3, none⟩ = some (.int .i64 VN) := gB 3
          have g4 : w1.cell? ⟨w.heap.size, 4, none⟩ = some (.string VS) := gB 4
          have g5 : w1.cell? ⟨w.heap.size, 5, none⟩ = some (.slice p M c) := gB 5
          have b3 : Below w.heap.size w w1 := b1.trans (b2.mono (by simp))
          clear gB
          go_wp2_with fail
          refine (cN _ b3).mono ?_
          rintro e w2 ⟨rfl, b4⟩
          have hz2 : w.heap.size < w2.heap.size := by have := b4.size; omega
          have k0 : w2.cell? ⟨w.heap.size, 0, none⟩ = some (.string OP) := by rw [b4.cell (p := ⟨w.heap.size, 0, none⟩) hz1]; exact g0
          have k1 : w2.cell? ⟨w.heap.size, 1, none⟩ = some (.string NM) := by rw [b4.cell (p := ⟨w.heap.size, 1, none⟩) hz1]; exact g1
          have k2 : w2.cell? ⟨w.heap.size, 2, none⟩ = some (.int .i64 VT) := by rw [b4.cell (p := ⟨w.heap.size, 2, none⟩) hz1]; exact g2
          have k3 : w2.cell? ⟨w.heap.size, 3, none⟩ = some (.int .i64 VN) := by rw [b4.cell (p := ⟨w.heap.size, 3, none⟩) hz1]; exact g3
          have k4 : w2.cell? ⟨w.heap.size, 4, none⟩ = some (.string VS) := by rw [b4.cell (p := ⟨w.heap.size, 4, none⟩) hz1]; exact g4
          have k5 : w2.cell? ⟨w.heap.size, 5, none⟩ = some (.slice p M c) := by rw [b4.cell (p := ⟨w.heap.size, 5, none⟩) hz1]; exact g5
          have b5 : Below w.heap.size w w2 := b3.trans (b4.mono b3.size)
          go_wp2
          go_ret
          exact ⟨by rw [← HV.out]; rfl, b5⟩
end Go.Proofs.YticdcnbeemkapaaGreatDoor
