/-
  The machine of package vm: one instruction is done.
-/
import Derived.Test.YtkoejkpjkcejcabDoorGyAo
import Derived.Deep.RegionWith
namespace Go.Proofs.YtkoejkpjkcejcabDoor
open Go.RowKit
set_option linter.unusedVariables false

/-- The machine, with the instruction in a block of its own, one place further on. -/
theorem vstep_mch {w : World} {b : Nat} {K : Int} {rv : Value} {q : Option Addr} {c : Nat} {st : List V3} (h : MchAt w b K rv q c st) (K' : Int) (o : Obj) : MchAt ((w.setCell ⟨b, 0, none⟩ (.int .i64 K')).alloc o) b K' rv q c st ∧ MKeeps b w ((w.setCell ⟨b, 0, none⟩ (.int .i64 K')).alloc o) := by
  have h1 := h.set0 K'
  exact ⟨h1.on (alB _ o), (((MKeeps.refl b w).set 0 _)).alloc (Nat.le_of_lt h1.lt) o⟩
def StepPost (b : Nat) (rv : Value) (w : World) (S' : List V3) (K2 : Int) (e : Ending) (w' : World) : Prop := (∃ q' c', MchAt w' b K2 rv q' c' S') ∧ MKeeps b w w'
set_option maxHeartbeats 4000000 in
set_option maxRecDepth 20000 in
theorem vstep_push (b : Nat) (K : Int) (rv : Value) (q : Option Addr) (c : Nat) (st : List V3) (g t n : Int) (s : ByteArray) (w : World) (h : MchAt w b K rv q c st) (hK : 0 ≤ K ∧ K ≤ 1200) (h64 : st.length ≤ 64) :
    Calls Tryd.prog 77 #[.pointer (some ⟨b, 0, none⟩), .agg #[.int .i64 1, .int .i64 g, .int .i64 t, .int .i64 n, .string s]] w fun e w' => e = .returned .nilIface ∧ Aside (∃ q' c', MchAt w' b (K + 1) rv q' c' (st ++ [(t, n, s)])) ∧ Aside (MKeeps b w w') := by
  obtain ⟨hK0, hK1⟩ := hK
  have hbl := h.lt
  have hfz := h.fz 0
  have c0 := h.2.1
  obtain ⟨M1, K1⟩ := vstep_mch h (K + 1) (.cells #[.int .i64 1, .int .i64 g, .int .i64 t, .int .i64 n, .string s] 50)
  have cL := lay_any b (K + 1) rv q c st t n s _ M1 h64
  clear h M1
  go_enter Tryd.func77, Tryd.ntmps77
  go_wp2_with fail
  refine cL.mono ?_
  rintro e w6 ⟨rfl, ⟨q', c', M6⟩, K6⟩
  have M7 : Aside (∃ q' c', MchAt w6 b (K + 1) rv q' c' (st ++ [(t, n, s)])) := ⟨q', c', M6.out⟩
  have K7 : Aside (MKeeps b w w6) := K1.trans K6.out
  clear M6 K6 K1 cL
  go_wp2
  go_ret
  exact ⟨rfl, M7, K7⟩
set_option maxHeartbeats 4000000 in
set_option maxRecDepth 20000 in
theorem vstep_load (b : Nat) (K : Int) (rb ro rn rc : Nat) (q : Option Addr) (c : Nat) (st : List V3) (j : Nat) (t n : Int) (s x : ByteArray) (vt vn : Int) (w : World) (h : MchAt w b K (.slice (some ⟨rb, ro, none⟩) rn rc) q c st) (hK : 0 ≤ K ∧ K ≤ 1200) (h64 : st.length ≤ 64) (hj : j < rn) (hrb : rb < b) (d0 : w.cell? ⟨rb, ro + j * 3, none⟩ = some (.int .i64 vt)) (d1 : w.cell? ⟨rb, ro + j * 3 + 1, none⟩ = some (.int .i64 vn)) (d2 : w.cell? ⟨rb, ro + j * 3 + 2, none⟩ = some (.string x)) :
    Calls Tryd.prog 77 #[.pointer (some ⟨b, 0, none⟩), .agg #[.int .i64 2, .int .i64 j, .int .i64 t, .int .i64 n, .string s]] w fun e w' => e = .returned .nilIface ∧ Aside (∃ q' c', MchAt w' b (K + 1) (.slice (some ⟨rb, ro, none⟩) rn rc) q' c' (st ++ [(vt, vn, x)])) ∧ Aside (MKeeps b w w') := by
  obtain ⟨hK0, hK1⟩ := hK
  have hbl := h.lt
  have hfz := h.fz 0
  have c0 := h.2.1
  have c1 := h.2.2.1
  have hrl : rb < w.heap.size := by omega
  have hne : rb ≠ b := by omega
  have j0 : (0 : Int) ≤ (j : Int) := by omega
  have j1 : (j : Int) < (rn : Int) := by omega
  obtain ⟨M1, K1⟩ := vstep_mch h (K + 1) (.cells #[.int .i64 2, .int .i64 j, .int .i64 t, .int .i64 n, .string s] 50)
  have K2 := K1.drew
  have cL := lay_any b (K + 1) _ q c st vt vn x _ (M1.on (Below.refl _ _).drew) h64
  clear h M1 K1
  go_enter Tryd.func77, Tryd.ntmps77
  go_wp2_with fail
  go_region_with (go_at_call 101; refine cL.mono ?_; rintro e w6 ⟨rfl, ⟨q', c', M6⟩, K6⟩)
  all_goals
    have M7 : Aside (∃ q' c', MchAt w6 b (K + 1) (.slice (some ⟨rb, ro, none⟩) rn rc) q' c' (st ++ [(vt, vn, x)])) := ⟨q', c', M6.out⟩
    have K7 : Aside (MKeeps b w w6) := K2.trans K6.out
    clear M6 K6 K2 cL
    go_wp2
    go_ret
    exact ⟨rfl, M7, K7⟩
set_option maxHeartbeats 4000000 in
set_option maxRecDepth 20000 in
theorem vstep_do (b : Nat) (K : Int) (rv : Value) (q : Option Addr) (c : Nat) (st : List V3) (m t n : Int) (s : ByteArray) (w : World) (henv : ∀ W, Below b w W → REnv W) (h : MchAt w b K rv q c st) (hK : 0 ≤ K ∧ K ≤ 1200) (h64 : st.length ≤ 64) (h0 : opE m = 0) (N : Nat) (hC : cntN (opN m) = N) (hn1 : 1 ≤ N) (hn : N ≤ st.length) (hsz : ∀ v ∈ st, v.2.2.size ≤ maxLen ∧ inB v.2.1) (T KK : Int) (S : ByteArray) (E : Int) (hR : doP (opN m) (st.drop (st.length - N)) = ((T, KK, S), E)) :
    Calls Tryd.prog 77 #[.pointer (some ⟨b, 0, none⟩), .agg #[.int .i64 3, .int .i64 m, .int .i64 t, .int .i64 n, .string s]] w fun e w' => e = .returned (errV E) ∧ Aside (E = 0 → ∃ q' c', MchAt w' b (K + 1) rv q' c' (st.take (st.length - N) ++ [(T, KK, S)])) ∧ Aside (MKeeps b w w') := by
  obtain ⟨hK0, hK1⟩ := hK
  have hbl := h.lt
  have hfz := h.fz 0
  have c0 := h.2.1
  obtain ⟨M1, K1⟩ := vstep_mch h (K + 1) (.cells #[.int .i64 3, .int .i64 m, .int .i64 t, .int .i64 n, .string s] 50)
  have cO := operate_any b (K + 1) rv q c st m _ (henv _ K1.1) (fun W hW => henv _ (K1.1.trans hW)) M1 h64 h0 N hC hn1 hn hsz T KK S E hR
  obtain ⟨Z, hZ⟩ : ∃ Z : Prop, (E = 0) = Z := ⟨_, rfl⟩
  rw [hZ] at cO ⊢
  generalize errV E = RV at cO ⊢
  clear h M1 henv hsz hR hZ
  go_enter Tryd.func77, Tryd.ntmps77
  go_wp2_with fail
  refine cO.mono ?_
  rintro e w6 ⟨rfl, M6, K6⟩
  have K7 : Aside (MKeeps b w w6) := K1.trans K6.out
  clear K6 K1 cO
  go_wp2
  go_ret
  exact ⟨rfl, M6, K7⟩
set_option maxHeartbeats 4000000 in
set_option maxRecDepth 20000 in
theorem vstep_jump (b : Nat) (K : Int) (rv : Value) (q : Option Addr) (c : Nat) (st : List V3) (j : Nat) (t n : Int) (s : ByteArray) (w : World) (h : MchAt w b K rv q c st) (hK : 0 ≤ K ∧ K ≤ 1200) (hj : j ≤ 1200) :
    Calls Tryd.prog 77 #[.pointer (some ⟨b, 0, none⟩), .agg #[.int .i64 4, .int .i64 j, .int .i64 t, .int .i64 n, .string s]] w fun e w' => e = .returned .nilIface ∧ Aside (∃ q' c', MchAt w' b (K + 1 + j) rv q' c' st) ∧ Aside (MKeeps b w w') := by
  obtain ⟨hK0, hK1⟩ := hK
  have hbl := h.lt
  have hfz := h.fz 0
  have c0 := h.2.1
  have jz : (0 : Int) ≤ (j : Int) ∧ (j : Int) ≤ 1200 := by omega
  obtain ⟨M1, K1⟩ := vstep_mch h (K + 1) (.cells #[.int .i64 4, .int .i64 j, .int .i64 t, .int .i64 n, .string s] 50)
  have M2 : Aside (MchAt _ b (K + 1) rv q c st) := M1.on (Below.refl _ _).drew
  have K2 : Aside (MKeeps b w _) := K1.drew
  have g1 : ((w.setCell ⟨b, 0, none⟩ (.int .i64 (K + 1))).alloc (.cells #[.int .i64 4, .int .i64 j, .int .i64 t, .int .i64 n, .string s] 50)).cell? ⟨w.heap.size, 1, none⟩ = some (.int .i64 j) := by
    rw [World.cell?_alloc_at _ _ _ _ (by simp [World.setCell])]; rfl
  clear h M1 K1
  go_enter Tryd.func77, Tryd.ntmps77
  go_wp2_with fail
  generalize (w.setCell ⟨b, 0, none⟩ (.int .i64 (K + 1))).alloc (.cells #[.int .i64 4, .int .i64 j, .int .i64 t, .int .i64 n, .string s] 50) = W1 at M2 K2 g1 ⊢
  have hb1 : b < W1.heap.size := M2.out.lt
  have f1 : W1.frozen? ⟨b, 0, none⟩ = false := M2.out.fz 0
  have d0 : W1.cell? ⟨b, 0, none⟩ = some (.int .i64 (K + 1)) := M2.out.2.1
  have M3 : Aside (∃ q' c', MchAt (W1.drew.setCell ⟨b, 0, none⟩ (.int .i64 (K + 1 + j))) b (K + 1 + j) rv q' c' st) := ⟨q, c, M2.out.set0 _⟩
  have K3 : Aside (MKeeps b w (W1.drew.setCell ⟨b, 0, none⟩ (.int .i64 (K + 1 + j)))) := K2.out.set 0 _
  clear M2 K2 hfz c0
  go_region
  all_goals
    go_wp2
    go_ret
    exact ⟨rfl, M3, K3⟩
theorem getLast_drop {st : List V3} (h : 1 ≤ st.length) : (st.drop (st.length - 1)).length = 1 ∧ ∃ v, st.getLast?.getD noV = v ∧ st.drop (st.length - 1) = [v] := by
  rcases List.eq_nil_or_concat st with he | ⟨s0, v, he⟩
  · rw [he] at h; simp at h
  · have he' : st = s0 ++ [v] := by rw [he, List.concat_eq_append]
    subst he'
    refine ⟨by simp, v, by simp, by simp⟩
set_option maxHeartbeats 4000000 in
set_option maxRecDepth 20000 in
theorem vstep_drop (b : Nat) (K : Int) (rv : Value) (q : Option Addr) (c : Nat) (st : List V3) (g t n : Int) (s : ByteArray) (w : World) (h : MchAt w b K rv q c st) (hK : 0 ≤ K ∧ K ≤ 1200) (h64 : st.length ≤ 64) (h1 : 1 ≤ st.length) :
    Calls Tryd.prog 77 #[.pointer (some ⟨b, 0, none⟩), .agg #[.int .i64 7, .int .i64 g, .int .i64 t, .int .i64 n, .string s]] w fun e w' => e = .returned .nilIface ∧ Aside (∃ q' c', MchAt w' b (K + 1) rv q' c' (st.take (st.length - 1))) ∧ Aside (MKeeps b w w') := by
  obtain ⟨hK0, hK1⟩ := hK
  have hbl := h.lt
  have hfz := h.fz 0
  have c0 := h.2.1
  obtain ⟨M1, K1⟩ := vstep_mch h (K + 1) (.cells #[.int .i64 7, .int .i64 g, .int .i64 t, .int .i64 n, .string s] 50)
  have cT := take_any' b (K + 1) rv q c st 1 _ M1 (Nat.le_refl _) h1 h64
  clear h M1
  go_enter Tryd.func77, Tryd.ntmps77
  go_wp2_with fail
  refine cT.mono ?_
  rintro e w6 ⟨⟨g6, o6, c6, rfl, _, _, _⟩, M6, K6⟩
  have M7 : Aside (∃ q' c', MchAt w6 b (K + 1) rv q' c' (st.take (st.length - 1))) := ⟨q, c, M6.out⟩
  have K7 : Aside (MKeeps b w w6) := K1.trans K6.out
  clear M6 K6 K1 cT
  go_wp2
  go_ret
  exact ⟨rfl, M7, K7⟩
/-- The last value of a list. -/
theorem own_last {w : World} {B : Nat} {q : Option Addr} {c l : Nat} {st : List V3} (h : w.ownsRow B 23 3 (.slice q (l + 1) c) (l + 1) (vcells st)) (hn : st.length = l + 1) {vt vn : Int} {vs : ByteArray} (hv : st.getLast?.getD noV = (vt, vn, vs)) : ∃ g, q = some ⟨g, 0, none⟩ ∧ B ≤ g ∧ g < w.heap.size ∧ w.cell? ⟨g, l * 3, none⟩ = some (.int .i64 vt) ∧ w.cell? ⟨g, l * 3 + 1, none⟩ = some (.int .i64 vn) ∧ w.cell? ⟨g, l * 3 + 2, none⟩ = some (.string vs) := by
  rcases h.2 with ⟨_, h0⟩ | ⟨g, cap, cur, e, hB, hg, h1, h2, h3, h4⟩
  · omega
  injection e with e1 e2 e3
  subst e1 e3
  have hl : l < st.length := by omega
  have he : st[l] = (vt, vn, vs) := by
    rw [List.getLast?_eq_getElem?, hn, Nat.add_sub_cancel, List.getElem?_eq_getElem hl] at hv
    exact hv
  obtain ⟨a0, a1, a2⟩ := vcells_at hl
  have k1 := h.cells (g := g) rfl _ _ a0
  have k2 := h.cells (g := g) rfl _ _ a1
  have k3 := h.cells (g := g) rfl _ _ a2
  rw [Go.WideShapes.add_plain, Nat.zero_add] at k1 k2 k3
  rw [he] at k1 k2 k3
  exact ⟨g, rfl, hB, (Array.getElem?_eq_some_iff.1 hg).1, k1, k2, k3⟩
set_option maxHeartbeats 4000000 in
set_option maxRecDepth 20000 in
theorem vstep_keep (b : Nat) (K : Int) (rv : Value) (q : Option Addr) (c : Nat) (st : List V3) (g t n : Int) (s : ByteArray) (w : World) (h : MchAt w b K rv q c st) (hK : 0 ≤ K ∧ K ≤ 1200) (h64 : st.length ≤ 64) (h1 : 1 ≤ st.length) :
    Calls Tryd.prog 77 #[.pointer (some ⟨b, 0, none⟩), .agg #[.int .i64 6, .int .i64 g, .int .i64 t, .int .i64 n, .string s]] w fun e w' => e = .returned .nilIface ∧ Aside (∃ q' c', MchAt w' b (K + 1) rv q' c' (st ++ [st.getLast?.getD noV])) ∧ Aside (MKeeps b w w') := by
  obtain ⟨hK0, hK1⟩ := hK
  have hbl := h.lt
  have hfz := h.fz 0
  have c0 := h.2.1
  obtain ⟨⟨vt, vn, vs⟩, hgl⟩ : ∃ v, st.getLast?.getD noV = v := ⟨_, rfl⟩
  obtain ⟨l, hl⟩ : ∃ l, st.length = l + 1 := ⟨st.length - 1, by omega⟩
  have h2 := h.2.2.2.2
  rw [hl] at h2
  obtain ⟨g0, rfl, hB, hg, e0, e1, e2⟩ := own_last h2 hl hgl
  have c2 := h.2.2.2.1
  rw [hl] at c2
  rw [hgl]
  have hne : g0 ≠ b := by omega
  obtain ⟨M1, K1⟩ := vstep_mch h (K + 1) (.cells #[.int .i64 6, .int .i64 g, .int .i64 t, .int .i64 n, .string s] 50)
  have K2 : Aside (MKeeps b w _) := K1.drew
  have cL := lay_any b (K + 1) rv _ c st vt vn vs _ (M1.on (Below.refl _ _).drew) h64
  have hl64 : (l : Int) ≤ 63 := by omega
  have hl0 : (0 : Int) ≤ (l : Int) := by omega
  have hwl : IntKind.i64.wrap (l : Int) = l := by rw [IntKind.wrap_i64]; omega
  clear h M1 K1 h2 hgl hl h64 h1
  go_enter Tryd.func77, Tryd.ntmps77
  go_wp2_with fail
  go_region_with (go_at_call 101; refine cL.mono ?_; rintro e w6 ⟨rfl, ⟨q', c', M6⟩, K6⟩)
  all_goals
    have M7 : Aside (∃ q' c', MchAt w6 b (K + 1) rv q' c' (st ++ [(vt, vn, vs)])) := ⟨q', c', M6.out⟩
    have K7 : Aside (MKeeps b w w6) := K2.out.trans K6.out
    clear M6 K6 K2 cL
    go_wp2
    go_ret
    exact ⟨rfl, M7, K7⟩
set_option maxHeartbeats 4000000 in
set_option maxRecDepth 20000 in
theorem vstep_else (b : Nat) (K : Int) (rv : Value) (q : Option Addr) (c : Nat) (st : List V3) (j : Nat) (t n : Int) (s : ByteArray) (w : World) (h : MchAt w b K rv q c st) (hK : 0 ≤ K ∧ K ≤ 1200) (hj : j ≤ 1200) (h64 : st.length ≤ 64) (h1 : 1 ≤ st.length) (sk : Nat) (hsk : (if (st.getLast?.getD noV).2.1 = 0 then j else 0) = sk) :
    Calls Tryd.prog 77 #[.pointer (some ⟨b, 0, none⟩), .agg #[.int .i64 5, .int .i64 j, .int .i64 t, .int .i64 n, .string s]] w fun e w' => e = .returned .nilIface ∧ Aside (∃ q' c', MchAt w' b (K + 1 + sk) rv q' c' (st.take (st.length - 1))) ∧ Aside (MKeeps b w w') := by
  obtain ⟨hK0, hK1⟩ := hK
  have hbl := h.lt
  have hfz := h.fz 0
  have c0 := h.2.1
  have jz : (0 : Int) ≤ (j : Int) ∧ (j : Int) ≤ 1200 := by omega
  obtain ⟨hd1, ⟨vt, vn, vs⟩, hgl, hdr⟩ := getLast_drop h1
  rw [hgl] at hsk
  simp only at hsk
  obtain ⟨M1, K1⟩ := vstep_mch h (K + 1) (.cells #[.int .i64 5, .int .i64 j, .int .i64 t, .int .i64 n, .string s] 50)
  have cT := take_any' b (K + 1) rv q c st 1 _ M1 (Nat.le_refl _) h1 h64
  rw [hdr] at cT
  have KB : Aside (MKeeps b w _) := K1
  have g1 : ((w.setCell ⟨b, 0, none⟩ (.int .i64 (K + 1))).alloc (.cells #[.int .i64 5, .int .i64 j, .int .i64 t, .int .i64 n, .string s] 50)).heap[w.heap.size]? = some (.cells #[.int .i64 5, .int .i64 j, .int .i64 t, .int .i64 n, .string s] 50) := by
    have := heap_alloc_new (w.setCell ⟨b, 0, none⟩ (.int .i64 (K + 1))) (.cells #[.int .i64 5, .int .i64 j, .int .i64 t, .int .i64 n, .string s] 50)
    simpa [World.setCell] using this
  have G1 : Hid (((w.setCell ⟨b, 0, none⟩ (.int .i64 (K + 1))).alloc (.cells #[.int .i64 5, .int .i64 j, .int .i64 t, .int .i64 n, .string s] 50)).heap[w.heap.size]? = some (.cells #[.int .i64 5, .int .i64 j, .int .i64 t, .int .i64 n, .string s] 50)) := g1
  clear h M1 K1 hd1 hgl hdr g1
  go_enter Tryd.func77, Tryd.ntmps77
  go_wp2_with fail
  refine cT.mono ?_
  rintro e w6 ⟨⟨g6, o6, c6, rfl, hg6, hbg6, hcell⟩, M6, K6⟩
  obtain ⟨e0, e1, e2⟩ := hcell 0 (by simp)
  simp only [Nat.zero_mul, Nat.add_zero, List.getElem_cons_zero] at e0 e1 e2
  have hbox : w6.heap[w.heap.size]? = some (.cells #[.int .i64 5, .int .i64 j, .int .i64 t, .int .i64 n, .string s] 50) := K6.out.2 _ _ G1.out (fun e => by have := Option.some.inj e; omega) (fun c2 fz e => by injection e with _ e _; exact absurd e (by decide))
  have d1 : w6.cell? ⟨w.heap.size, 1, none⟩ = some (.int .i64 j) := by simp [World.cell?, hbox]
  have hl6 : w.heap.size < w6.heap.size := (Array.getElem?_eq_some_iff.1 hbox).1
  have hb6 : b < w6.heap.size := by omega
  have K7 : Aside (MKeeps b w w6) := KB.out.trans K6.out
  have M7 := M6.out.on (alB w6 (.cells #[.int .i64 vt, .int .i64 vn, .string vs] 23))
  have K8 := K7.out.alloc (Nat.le_of_lt hb6) (.cells #[.int .i64 vt, .int .i64 vn, .string vs] 23)
  clear K6 hcell hbox cT KB G1 M6 K7 hbl hfz c0
  by_cases hz : vn = 0
  · subst hz
    rw [if_pos rfl] at hsk
    subst hsk
    have f0 := M7.fz 0
    have m0 := M7.2.1
    have d7 : (w6.alloc (.cells #[.int .i64 vt, .int .i64 0, .string vs] 23)).cell? ⟨w.heap.size, 1, none⟩ = some (.int .i64 j) := by rw [(alB w6 _).cell (p := ⟨w.heap.size, 1, none⟩) hl6]; exact d1
    have M9 : Aside (∃ q' c', MchAt ((w6.alloc (.cells #[.int .i64 vt, .int .i64 0, .string vs] 23)).drew.setCell ⟨b, 0, none⟩ (.int .i64 (K + 1 + j))) b (K + 1 + j) rv q' c' (st.take (st.length - 1))) := ⟨q, c, (M7.on (Below.refl _ _).drew).set0 _⟩
    have K9 : Aside (MKeeps b w ((w6.alloc (.cells #[.int .i64 vt, .int .i64 0, .string vs] 23)).drew.setCell ⟨b, 0, none⟩ (.int .i64 (K + 1 + j)))) := K8.drew.set 0 _
    clear M7 K8
    go_wp2_with fail
    generalize w6.alloc (.cells #[.int .i64 vt, .int .i64 0, .string vs] 23) = W7 at *
    go_region
    all_goals
      go_wp2
      go_ret
      exact ⟨rfl, M9, K9⟩
  · rw [if_neg hz] at hsk
    subst hsk
    have hzb : (vn == 0) = false := by simpa using hz
    have M9 : Aside (∃ q' c', MchAt (w6.alloc (.cells #[.int .i64 vt, .int .i64 vn, .string vs] 23)) b (K + 1 + (0 : Nat)) rv q' c' (st.take (st.length - 1))) := ⟨q, c, by rw [show K + 1 + ((0 : Nat) : Int) = K + 1 by omega]; exact M7⟩
    have K9 : Aside (MKeeps b w (w6.alloc (.cells #[.int .i64 vt, .int .i64 vn, .string vs] 23))) := K8
    clear M7 K8 hz
    go_wp2
    go_ret
    exact ⟨rfl, M9, K9⟩
theorem cnt_one {g : Int} (h : 2 ≤ g ∧ g < 16) : 1 ≤ cntN (opN g) := by
  obtain ⟨k, rfl⟩ : ∃ k : Nat, g = k := ⟨g.toNat, by omega⟩
  have : k = 2 ∨ k = 3 ∨ k = 4 ∨ k = 5 ∨ k = 6 ∨ k = 7 ∨ k = 8 ∨ k = 9 ∨ k = 10 ∨ k = 11 ∨ k = 12 ∨ k = 13 ∨ k = 14 ∨ k = 15 := by omega
  rcases this with rfl | rfl | rfl | rfl | rfl | rfl | rfl | rfl | rfl | rfl | rfl | rfl | rfl | rfl <;> decide
/-- One instruction that may be done is done. -/
theorem vStep_any (b k : Nat) (pr : Option Addr) (cr nr : Nat) (q : Option Addr) (c : Nat) (st rs : List V3) (i : I5) (nc bh : Int) (w : World) (henv : ∀ W, Below b w W → REnv W) (h : MchAt w b (k : Int) (.slice pr nr cr) q c st) (hk : k ≤ 1200) (h64 : st.length ≤ 64) (hnr : rs.length = nr) (hnc : nc = (rs.length : Int)) (hbh : bh ≤ 1200) (hrow : ∃ rb ro, pr = some ⟨rb, ro, none⟩ ∧ rb < b ∧ ∀ j (h : j < rs.length), w.cell? ⟨rb, ro + j * 3, none⟩ = some (.int .i64 rs[j].1) ∧ w.cell? ⟨rb, ro + j * 3 + 1, none⟩ = some (.int .i64 rs[j].2.1) ∧ w.cell? ⟨rb, ro + j * 3 + 2, none⟩ = some (.string rs[j].2.2)) (hA : argE i nc bh = 0) (hneed : needN i ≤ st.length) (hsz : ∀ v ∈ st, v.2.2.size ≤ 40 ∧ inB v.2.1) (S' : List V3) (sk : Nat) (E : Int) (hv : vmI rs st i = (S', sk, E)) :
    Calls Tryd.prog 77 #[.pointer (some ⟨b, 0, none⟩), insW i] w fun e w' => e = .returned (errV E) ∧ Aside (E = 0 → ∃ q' c', MchAt w' b ((k + 1 + sk : Nat) : Int) (.slice pr nr cr) q' c' S') ∧ Aside (MKeeps b w w') := by
  have hk2 : (0 : Int) ≤ (k : Int) ∧ (k : Int) ≤ 1200 := by omega
  have hcast : ((k + 1 + sk : Nat) : Int) = (k : Int) + 1 + (sk : Int) := by omega
  have hdl : ∀ (l : List V3), l.dropLast = l.take (l.length - 1) := fun l => List.dropLast_eq_take
  rw [hcast]
  obtain ⟨a, g, t, m, s⟩ := i
  unfold vmI at hv
  unfold argE at hA
  unfold needN at hneed
  simp only at hv hA hneed
  show Calls Tryd.prog _ #[_, Value.agg #[.int .i64 a, .int .i64 g, .int .i64 t, .int .i64 m, .string s]] w _
  by_cases w1 : a = 1
  · subst w1
    rw [if_pos rfl] at hv
    simp only [Prod.mk.injEq] at hv
    obtain ⟨rfl, rfl, rfl⟩ := hv
    refine (vstep_push b k _ q c st g t m s w h hk2 h64).mono ?_
    rintro e w' ⟨rfl, h1, h2⟩
    exact ⟨rfl, (show Aside _ from fun _ => by simpa using h1.out), h2⟩
  rw [if_neg w1] at hv hA
  by_cases w2 : a = 2
  · subst w2
    rw [if_pos rfl] at hv hA
    simp only [Prod.mk.injEq] at hv
    obtain ⟨rfl, rfl, rfl⟩ := hv
    split at hA
    · rename_i hh
      obtain ⟨j, rfl⟩ : ∃ j : Nat, g = j := ⟨g.toNat, by omega⟩
      have hj : j < rs.length := by omega
      obtain ⟨rb, ro, rfl, hrb, hcell⟩ := hrow
      obtain ⟨d0, d1, d2⟩ := hcell j hj
      have := vstep_load b k rb ro nr cr q c st j t m s rs[j].2.2 rs[j].1 rs[j].2.1 w h hk2 h64 (by omega) hrb d0 d1 d2
      refine this.mono ?_
      rintro e w' ⟨rfl, h1, h2⟩
      refine ⟨rfl, (show Aside _ from fun _ => ?_), h2⟩
      rw [Int.toNat_natCast, List.getElem?_eq_getElem hj]
      simpa using h1.out
    · exact absurd hA (by decide)
  rw [if_neg w2] at hv hA
  by_cases w3 : a = 3
  · subst w3
    rw [if_pos rfl] at hv hA hneed
    simp only [Prod.mk.injEq] at hv
    obtain ⟨rfl, rfl, rfl⟩ := hv
    have hn1 : 1 ≤ cntN (opN g) := by
      have hg : 2 ≤ g ∧ g < 16 := by
        apply Classical.byContradiction
        intro hh
        rw [opE, if_neg hh] at hA
        exact absurd hA (by decide)
      exact cnt_one hg
    have hN : needN (3, g, t, m, s) = cntN (opN g) := by rw [needN, if_pos rfl]
    rw [hN]
    obtain ⟨⟨T, KK, S⟩, E, hR⟩ : ∃ v E, doP (opN g) (st.drop (st.length - cntN (opN g))) = (v, E) := ⟨_, _, rfl⟩
    rw [hR]
    refine (vstep_do b k _ q c st g t m s w henv h hk2 h64 hA _ rfl hn1 hneed (fun v hv => ⟨by have := (hsz v hv).1; unfold maxLen; omega, (hsz v hv).2⟩) T KK S E hR).mono ?_
    rintro e w' ⟨rfl, h1, h2⟩
    exact ⟨rfl, (show Aside _ from fun he => by simpa using h1.out he), h2⟩
  rw [if_neg w3] at hv hA hneed
  by_cases w4 : a = 4
  · subst w4
    rw [if_pos rfl] at hv
    rw [if_pos (Or.inl rfl)] at hA
    simp only [Prod.mk.injEq] at hv
    obtain ⟨rfl, rfl, rfl⟩ := hv
    split at hA
    · rename_i hh
      obtain ⟨j, rfl⟩ : ∃ j : Nat, g = j := ⟨g.toNat, by omega⟩
      refine (vstep_jump b k _ q c st j t m s w h hk2 (by omega)).mono ?_
      rintro e w' ⟨rfl, h1, h2⟩
      exact ⟨rfl, (show Aside _ from fun _ => by simpa using h1.out), h2⟩
    · exact absurd hA (by decide)
  rw [if_neg w4] at hv
  by_cases w5 : a = 5
  · subst w5
    rw [if_pos rfl] at hv
    rw [if_pos (Or.inr rfl)] at hA
    rw [if_pos (Or.inl rfl)] at hneed
    simp only [Prod.mk.injEq] at hv
    obtain ⟨rfl, rfl, rfl⟩ := hv
    split at hA
    · rename_i hh
      obtain ⟨j, rfl⟩ : ∃ j : Nat, g = j := ⟨g.toNat, by omega⟩
      refine (vstep_else b k _ q c st j t m s w h hk2 (by omega) h64 hneed _ rfl).mono ?_
      rintro e w' ⟨rfl, h1, h2⟩
      refine ⟨rfl, (show Aside _ from fun _ => ?_), h2⟩
      rw [hdl, Int.toNat_natCast]
      exact h1.out
    · exact absurd hA (by decide)
  rw [if_neg w5] at hv
  rw [if_neg (by omega)] at hA
  by_cases w6 : a = 6
  · subst w6
    rw [if_pos rfl] at hv
    rw [if_pos (Or.inr (Or.inl rfl))] at hneed
    simp only [Prod.mk.injEq] at hv
    obtain ⟨rfl, rfl, rfl⟩ := hv
    refine (vstep_keep b k _ q c st g t m s w h hk2 h64 hneed).mono ?_
    rintro e w' ⟨rfl, h1, h2⟩
    exact ⟨rfl, (show Aside _ from fun _ => by simpa using h1.out), h2⟩
  rw [if_neg w6] at hv
  by_cases w7 : a = 7
  · subst w7
    rw [if_pos (Or.inr (Or.inr rfl))] at hneed
    simp only [Prod.mk.injEq] at hv
    obtain ⟨rfl, rfl, rfl⟩ := hv
    refine (vstep_drop b k _ q c st g t m s w h hk2 h64 hneed).mono ?_
    rintro e w' ⟨rfl, h1, h2⟩
    refine ⟨rfl, (show Aside _ from fun _ => ?_), h2⟩
    rw [hdl]
    simpa using h1.out
  · rw [if_neg (by omega)] at hA
    exact absurd hA (by decide)
end Go.Proofs.YtkoejkpjkcejcabDoor
