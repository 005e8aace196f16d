/-
  What the document's Eval comes to, of an expression and a row that are right.
-/
import Derived.Test.YtpgadbpkednjkaaGreatDoorRefDa
import Derived.Test.YtpgadbpkednjkaaGreatDoorEvEv
import Derived.Test.YtpgadbpkednjkaaGreatDoorRefRow1
namespace Go.Proofs.YtpgadbpkednjkaaGreatDoor
open Go.RowKit Go.BigFrame
set_option linter.unusedVariables false

/-- What the document's Eval says of an expression. -/
def EvAt (zs : List (ByteArray × Int)) (b off c rb ro rc : Nat) (rs : List V3) (x : Ex) : Prop := ∀ (lo : Nat → Prop) (v : Value) (w : World) (t k : Int) (s : ByteArray) (e : Int), ExIn w lo v x → ColsIn w b off zs → RowAt w rb ro rs → cmP zs rs x = ((t, k, s), e) →
    Calls Tryz.prog 23 #[v, .slice (some ⟨b, off, none⟩) zs.length c, .slice (some ⟨rb, ro, none⟩) rs.length rc] w fun e' w' => e' = .returned (.tuple #[.agg #[.int .i64 t, .int .i64 k, .string s], .int .i64 e]) ∧ Below w.heap.size w w'
set_option maxHeartbeats 4000000 in
set_option maxRecDepth 20000 in
theorem ev_leaf (zs : List (ByteArray × Int)) (b off c rb ro rc : Nat) (rs : List V3) (hn : zs.length ≤ 6) (hrow : RowR zs rs) (op nm vs : ByteArray) (vt vn pos : Int) (l : List Ex) (ht : (tyP zs (.node op nm vt vn vs pos l)).2.1 = 0) (hleaf : op.data.toList = [118, 97, 108] ∨ op.data.toList = [99, 111, 108]) : EvAt zs b off c rb ro rc rs (.node op nm vt vn vs pos l) := by
  intro lo v w t k s e hx hc hr hR
  rw [ExIn] at hx
  obtain ⟨p, ca, rfl, ⟨hm, hmc⟩, ho, hnm, hvs, hparts⟩ := hx
  obtain ⟨b1, box⟩ := come_box w #[.string op, .string nm, .int .i64 vt, .int .i64 vn, .string vs, .slice p l.length ca, .int .i64 pos]
  by_cases h1 : op.data.toList = [118, 97, 108]
  · rw [cmP, if_pos h1] at hR
    simp only [Prod.mk.injEq] at hR
    obtain ⟨⟨rfl, rfl, rfl⟩, rfl⟩ := hR
    have q1 : (op.toList == [118, 97, 108]) = true := by rw [Lib.toList_data]; simpa using h1
    clear h1 ht hleaf hc hr hparts box
    go_enter Tryz.func23, Tryz.ntmps23
    go_wp2
    refine bodyPost_ret (v := .tuple #[.agg #[.int .i64 vt, .int .i64 vn, .string vs], .int .i64 0]) (by simp [results, Tryz.results23, go_sem]) rfl ⟨rfl, ?_⟩
    exact ((Below.refl _ w).alloc (Nat.le_refl _) _).alloc (by simp) _
  · have h2 := hleaf.resolve_left h1
    rw [cmP, if_neg h1, if_pos h2] at hR
    rw [tyP, if_neg h1, if_pos h2] at ht
    have q1 : (op.toList == [118, 97, 108]) = false := by rw [Lib.toList_data]; simpa using h1
    have q2 : (op.toList == [99, 111, 108]) = true := by rw [Lib.toList_data]; simpa using h2
    have cF := refFind_any b off c zs nm _ (by omega) (hc.on b1)
    rcases findN_cases nm.data.toList zs with ⟨h, _⟩ | ⟨j, hj, hlt, _⟩
    · rw [if_pos h] at ht
      exact absurd ht (by simp)
    have hjr : j < rs.length := by rw [hrow.1]; exact hlt
    rw [hj, Int.toNat_natCast, List.getElem?_eq_getElem hjr] at hR
    rw [hj] at cF
    simp only [Option.getD_some, Prod.mk.injEq] at hR
    obtain ⟨hv, rfl⟩ := hR
    obtain ⟨g0, g1, g2⟩ := (hr.on b1).2 j hjr
    have hrl := (hr.on b1).1
    rw [hv] at g0 g1 g2
    have hjz : (j : Int) < (rs.length : Int) := by omega
    have hj0 : (0 : Int) ≤ (j : Int) := by omega
    clear h1 h2 ht hleaf hc hr hparts hj hv box
    go_enter Tryz.func23, Tryz.ntmps23
    go_wp2_with fail
    refine cF.mono ?_
    rintro e w1 ⟨rfl, rfl⟩
    clear cF
    go_wp2
    refine bodyPost_ret (v := .tuple #[.agg #[.int .i64 t, .int .i64 k, .string s], .int .i64 0]) (by simp [results, Tryz.results23, go_sem]) rfl ⟨rfl, ?_⟩
    exact ((Below.refl _ w).alloc (Nat.le_refl _) _).alloc (by simp) _
set_option maxHeartbeats 8000000 in
set_option maxRecDepth 20000 in
theorem ev_1 (zs : List (ByteArray × Int)) (b off c rb ro rc : Nat) (rs : List V3) (op nm vs : ByteArray) (vt vn pos : Int) (x : Ex) (h1 : op.data.toList ≠ [118, 97, 108]) (h2 : op.data.toList ≠ [99, 111, 108]) (h3 : op.data.toList ≠ [97, 110, 100]) (h4 : op.data.toList ≠ [111, 114]) (h5 : op.data.toList ≠ [105, 102]) (ihx : EvAt zs b off c rb ro rc rs x) (Tx : Int) (hcx : comes Tx (cmP zs rs x)) (Tr : Int) (hrl : ruleP op.data.toList [Tx] = (Tr, 0)) : EvAt zs b off c rb ro rc rs (.node op nm vt vn vs pos [x] : Ex) := by
  intro lo v w t k s e hx hc hr hR
  rw [ExIn] at hx
  obtain ⟨p, ca, rfl, ⟨hm, hmc⟩, ho, hnm, hvs, hparts⟩ := hx
  rcases hparts with h | ⟨ba, oa, rfl, hbl, hlo, hE⟩
  · exact absurd h (by simp)
  have hlen : [x].length = 1 := rfl
  rw [hlen] at hm hmc ⊢
  obtain ⟨b1, box⟩ := come_box w #[.string op, .string nm, .int .i64 vt, .int .i64 vn, .string vs, .slice (some ⟨ba, oa, none⟩) 1 ca, .int .i64 pos]
  have BOX : Hid (∀ wr, Below (w.heap.size + 2) ((w.alloc (.cells #[.string op, .string nm, .int .i64 vt, .int .i64 vn, .string vs, .slice (some ⟨ba, oa, none⟩) 1 ca, .int .i64 pos] 26)).alloc (.cells #[.int .i64 0, .int .i64 0, .string ⟨#[]⟩] 23)) wr → (∀ i, wr.cell? ⟨w.heap.size, i, none⟩ = (#[.string op, .string nm, .int .i64 vt, .int .i64 vn, .string vs, .slice (some ⟨ba, oa, none⟩) 1 ca, .int .i64 pos] : Array Value)[i]?) ∧ (wr.cell? ⟨w.heap.size + 1, 0, none⟩ = some (.int .i64 0) ∧ wr.cell? ⟨w.heap.size + 1, 1, none⟩ = some (.int .i64 0) ∧ wr.cell? ⟨w.heap.size + 1, 2, none⟩ = some (.string ⟨#[]⟩) ∧ (∀ o, wr.frozen? ⟨w.heap.size + 1, o, none⟩ = false)) ∧ w.heap.size + 2 ≤ wr.heap.size ∧ Below w.heap.size w wr) := box
  have PA : Aside (∀ j (h : j < [x].length), ∃ v0 v1 v2 v3 v4 v5 v6, w.cell? ⟨ba, oa + j * 7, none⟩ = some v0 ∧ w.cell? ⟨ba, oa + j * 7 + 1, none⟩ = some v1 ∧ w.cell? ⟨ba, oa + j * 7 + 2, none⟩ = some v2 ∧ w.cell? ⟨ba, oa + j * 7 + 3, none⟩ = some v3 ∧ w.cell? ⟨ba, oa + j * 7 + 4, none⟩ = some v4 ∧ w.cell? ⟨ba, oa + j * 7 + 5, none⟩ = some v5 ∧ w.cell? ⟨ba, oa + j * 7 + 6, none⟩ = some v6 ∧ ExIn w lo (.agg #[v0, v1, v2, v3, v4, v5, v6]) [x][j]) := exsIn_at w lo ba [x] oa hE
  obtain ⟨u0, u1, u2, u3, u4, u5, u6, u7, u8, e0, e1, e2, e3, e4, e5, e6, hy⟩ := part_at PA.out b1 hbl 0 (by simp)
  simp only [Nat.zero_mul, Nat.add_zero, List.getElem_cons_zero] at e0 e1 e2 e3 e4 e5 e6 hy
  rw [cmP_op h1 h2] at hR
  simp only [List.map_cons, List.map_nil] at hR
  obtain ⟨tf, kf, sf, ef, hf⟩ : ∃ tf kf sf ef, cmP zs rs x = ((tf, kf, sf), ef) := ⟨_, _, _, _, rfl⟩
  have cX := ihx lo _ ((w.alloc (.cells #[.string op, .string nm, .int .i64 vt, .int .i64 vn, .string vs, .slice (some ⟨ba, oa, none⟩) 1 ca, .int .i64 pos] 26)).alloc (.cells #[.int .i64 0, .int .i64 0, .string ⟨#[]⟩] 23)) tf kf sf ef (hy.on b1) (hc.on b1) (hr.on b1) hf
  rw [hf] at hcx hR
  have HCO : Aside (ColsIn w b off zs) := hc
  have HRO : Aside (RowAt w rb ro rs) := hr
  have q1 : (op.toList == [118, 97, 108]) = false := by rw [Lib.toList_data]; simpa using h1
  have q2 : (op.toList == [99, 111, 108]) = false := by rw [Lib.toList_data]; simpa using h2
  have hblr : ba < ((w.alloc (.cells #[.string op, .string nm, .int .i64 vt, .int .i64 vn, .string vs, .slice (some ⟨ba, oa, none⟩) 1 ca, .int .i64 pos] 26)).alloc (.cells #[.int .i64 0, .int .i64 0, .string ⟨#[]⟩] 23)).heap.size := by simp; omega
  clear hc hr hE hy hf h1 h2 box
  rcases hcx with ⟨h0, hok⟩ | h9
  · simp only at h0
    subst h0
    rw [combP, if_neg (by simp)] at hR
    have hsf : sf.size ≤ 40 := by
      have := chk_size hok.2.1
      simpa using this
    rw [if_neg (by simp [h3, h4]), if_neg h5, if_neg (by simp [firstE])] at hR
    have q3 : (op.toList == [97, 110, 100]) = false := by rw [Lib.toList_data]; simpa using h3
    have q4 : (op.toList == [111, 114]) = false := by rw [Lib.toList_data]; simpa using h4
    have q5 : (op.toList == [105, 102]) = false := by rw [Lib.toList_data]; simpa using h5
    have ht1 : tf = Tx := hok.1
    have hvv : ∀ v ∈ [(tf, kf, sf)], chk v.1 v.2.1 v.2.2.data.toList = 0 := fun v hv => by
      obtain rfl := List.mem_singleton.1 hv
      exact hok.2.1
    have hru : ruleP op.data.toList ([(tf, kf, sf)].map (·.1)) = (Tr, 0) := by rw [← hrl, ← ht1]; rfl
    simp only [List.map_nil] at hR
    rw [do_app hvv (by rw [hru])] at hR
    have HD : Hid (appP op.data.toList [(tf, kf, sf)] = ((t, k, s), e)) := hR
    clear h3 h4 h5 hR b1
    go_enter Tryz.func23, Tryz.ntmps23
    go_wp2_with fail
    refine cX.mono ?_
    rintro e' w1 ⟨rfl, b2⟩
    have hz1 : w.heap.size + 2 ≤ w1.heap.size := by have := b2.size; simp at this; omega
    have B2 : Aside (Below (w.heap.size + 2) ((w.alloc (.cells #[.string op, .string nm, .int .i64 vt, .int .i64 vn, .string vs, .slice (some ⟨ba, oa, none⟩) 1 ca, .int .i64 pos] 26)).alloc (.cells #[.int .i64 0, .int .i64 0, .string ⟨#[]⟩] 23)) (w1.alloc (.cells #[.int .i64 tf, .int .i64 kf, .string sf] 23))) := (b2.mono (by simp)).alloc hz1 _
    obtain ⟨_, ⟨f0, f1, f2, ff⟩, hl, b9⟩ := BOX.out _ B2.out
    obtain ⟨hB, ⟨r0, r1, r2, rf⟩, _, b9w⟩ := BOX.out w1 (b2.mono (by simp))
    have g0 : w1.cell? ⟨w.heap.size, 0, none⟩ = some (.string op) := hB 0
    have g5 : w1.cell? ⟨w.heap.size, 5, none⟩ = some (.slice (some ⟨ba, oa, none⟩) 1 ca) := hB 5
    have hl0 : w.heap.size < w1.heap.size := by omega
    have hl1 : w.heap.size + 1 < w1.heap.size := by omega
    clear cX hB b2 e0 e1 e2 e3 e4 e5 e6
    have B4 : Below (w.heap.size + 2) ((w.alloc (.cells #[.string op, .string nm, .int .i64 vt, .int .i64 vn, .string vs, .slice (some ⟨ba, oa, none⟩) 1 ca, .int .i64 pos] 26)).alloc (.cells #[.int .i64 0, .int .i64 0, .string ⟨#[]⟩] 23)) ((w1.alloc (.cells #[.int .i64 tf, .int .i64 kf, .string sf] 23)).alloc (.cells #[.int .i64 tf, .int .i64 kf, .string sf] 23)) := B2.out.alloc (by simp; omega) _
    have hva : ValsAt ((w1.alloc (.cells #[.int .i64 tf, .int .i64 kf, .string sf] 23)).alloc (.cells #[.int .i64 tf, .int .i64 kf, .string sf] 23)) (some ⟨w1.heap.size + 1, 0, none⟩) [(tf, kf, sf)] := .inr ⟨_, _, rfl, by simp, fun j hj => by
      obtain rfl : j = 0 := by simpa using hj
      exact ⟨by rw [World.cell?_alloc_at _ _ _ _ (by simp)]; rfl, by rw [World.cell?_alloc_at _ _ _ _ (by simp)]; rfl, by rw [World.cell?_alloc_at _ _ _ _ (by simp)]; rfl⟩⟩
    have cD := refDo_any op (some ⟨w1.heap.size + 1, 0, none⟩) 1 1 [(tf, kf, sf)] ((w1.alloc (.cells #[.int .i64 tf, .int .i64 kf, .string sf] 23)).alloc (.cells #[.int .i64 tf, .int .i64 kf, .string sf] 23)) rfl hva hvv (fun v hv => by
      obtain rfl := List.mem_singleton.1 hv
      exact ⟨by unfold maxLen; simp only; omega, hok.2.2⟩) Tr hru t k s e HD.out
    have BB : Aside (Below (w.heap.size + 2) ((w.alloc (.cells #[.string op, .string nm, .int .i64 vt, .int .i64 vn, .string vs, .slice (some ⟨ba, oa, none⟩) 1 ca, .int .i64 pos] 26)).alloc (.cells #[.int .i64 0, .int .i64 0, .string ⟨#[]⟩] 23)) ((w1.alloc (.cells #[.int .i64 tf, .int .i64 kf, .string sf] 23)).alloc (.cells #[.int .i64 tf, .int .i64 kf, .string sf] 23))) := B4
    clear hva B4 hok hsf HD PA HCO HRO hvv hru ht1
    go_wp2
    go_loopg [11, 12, 13, 14] 0 (fun gg s11 s12 _ _ wr => s12 = .int .i64 1 ∧ s11 = .slice (some ⟨w1.heap.size + 1, 0, none⟩) 1 1 ∧ Aside (wr = ((w1.alloc (.cells #[.int .i64 tf, .int .i64 kf, .string sf] 23)).alloc (.cells #[.int .i64 tf, .int .i64 kf, .string sf] 23))))
    case atStart => exact ⟨rfl, rfl, rfl⟩
    case round =>
      obtain ⟨rfl, rfl, hwr⟩ := hrel
      obtain rfl := hwr.out
      go_wp2_with fail
      refine cD.mono ?_
      rintro e w5 ⟨rfl, b5⟩
      obtain ⟨_, ⟨f0, f1, f2, ff⟩, hl5, b9⟩ := BOX.out w5 (BB.out.trans (b5.mono (by simp; omega)))
      have hl6 : w.heap.size + 1 < w5.heap.size := by omega
      clear cD b5
      go_wp2
      refine bodyPost_ret (v := .tuple #[.agg #[.int .i64 t, .int .i64 k, .string s], .int .i64 e]) (by simp [results, Tryz.results23, go_sem, World.cell?_setCell_other, World.cell?_setCell_same, f0, f1, f2]) rfl ⟨rfl, ?_⟩
      exact below3 b9 (by omega) _ _ _
  · simp only [noV, Prod.mk.injEq] at h9
    obtain ⟨⟨rfl, rfl, rfl⟩, rfl⟩ := h9
    rw [combP, if_pos (by decide)] at hR
    simp only [noV, Prod.mk.injEq] at hR
    obtain ⟨⟨rfl, rfl, rfl⟩, rfl⟩ := hR
    clear PA HCO HRO b1
    go_enter Tryz.func23, Tryz.ntmps23
    go_wp2_with fail
    refine cX.mono ?_
    rintro e w1 ⟨rfl, b2⟩
    obtain ⟨_, ⟨r0, r1, r2, rf⟩, hl, b9⟩ := BOX.out w1 (b2.mono (by simp))
    have hl0 : w.heap.size + 1 < w1.heap.size := by have := b2.size; simp at this; omega
    clear cX BOX b2 e0 e1 e2 e3 e4 e5 e6
    go_wp2
    obtain ⟨s0, s1, s2⟩ := res3 r0 r1 r2 hl0 (.int .i64 0) (.int .i64 0) (.string ⟨#[]⟩) (.cells #[.int .i64 0, .int .i64 0, .string ⟨#[]⟩] 23)
    refine bodyPost_ret (v := .tuple #[.agg #[.int .i64 0, .int .i64 0, .string ⟨#[]⟩], .int .i64 9]) (by simp [results, Tryz.results23, go_sem, s0, s1, s2]) rfl ⟨rfl, ?_⟩
    exact (below3 b9 (by omega) _ _ _).alloc (by simp [World.setCell]; omega) _
set_option maxHeartbeats 8000000 in
set_option maxRecDepth 20000 in
theorem ev_2 (zs : List (ByteArray × Int)) (b off c rb ro rc : Nat) (rs : List V3) (op nm vs : ByteArray) (vt vn pos : Int) (x y : Ex) (h1 : op.data.toList ≠ [118, 97, 108]) (h2 : op.data.toList ≠ [99, 111, 108]) (h5 : op.data.toList ≠ [105, 102]) (ihx : EvAt zs b off c rb ro rc rs x) (Tx : Int) (hcx : comes Tx (cmP zs rs x)) (ihy : EvAt zs b off c rb ro rc rs y) (Ty : Int) (hcy : comes Ty (cmP zs rs y)) (Tr : Int) (hrl : ruleP op.data.toList [Tx, Ty] = (Tr, 0)) (hbl2 : op.data.toList = [97, 110, 100] → Tx = 2) : EvAt zs b off c rb ro rc rs (.node op nm vt vn vs pos [x, y] : Ex) := by
  intro lo v w t k s e hx hc hr hR
  rw [ExIn] at hx
  obtain ⟨p, ca, rfl, ⟨hm, hmc⟩, ho, hnm, hvs, hparts⟩ := hx
  rcases hparts with h | ⟨ba, oa, rfl, hbl, hlo, hE⟩
  · exact absurd h (by simp)
  have hlen : [x, y].length = 2 := rfl
  rw [hlen] at hm hmc ⊢
  obtain ⟨b1, box⟩ := come_box w #[.string op, .string nm, .int .i64 vt, .int .i64 vn, .string vs, .slice (some ⟨ba, oa, none⟩) 2 ca, .int .i64 pos]
  have BOX : Hid (∀ wr, Below (w.heap.size + 2) ((w.alloc (.cells #[.string op, .string nm, .int .i64 vt, .int .i64 vn, .string vs, .slice (some ⟨ba, oa, none⟩) 2 ca, .int .i64 pos] 26)).alloc (.cells #[.int .i64 0, .int .i64 0, .string ⟨#[]⟩] 23)) wr → (∀ i, wr.cell? ⟨w.heap.size, i, none⟩ = (#[.string op, .string nm, .int .i64 vt, .int .i64 vn, .string vs, .slice (some ⟨ba, oa, none⟩) 2 ca, .int .i64 pos] : Array Value)[i]?) ∧ (wr.cell? ⟨w.heap.size + 1, 0, none⟩ = some (.int .i64 0) ∧ wr.cell? ⟨w.heap.size + 1, 1, none⟩ = some (.int .i64 0) ∧ wr.cell? ⟨w.heap.size + 1, 2, none⟩ = some (.string ⟨#[]⟩) ∧ (∀ o, wr.frozen? ⟨w.heap.size + 1, o, none⟩ = false)) ∧ w.heap.size + 2 ≤ wr.heap.size ∧ Below w.heap.size w wr) := box
  have PA : Aside (∀ j (h : j < [x, y].length), ∃ v0 v1 v2 v3 v4 v5 v6, w.cell? ⟨ba, oa + j * 7, none⟩ = some v0 ∧ w.cell? ⟨ba, oa + j * 7 + 1, none⟩ = some v1 ∧ w.cell? ⟨ba, oa + j * 7 + 2, none⟩ = some v2 ∧ w.cell? ⟨ba, oa + j * 7 + 3, none⟩ = some v3 ∧ w.cell? ⟨ba, oa + j * 7 + 4, none⟩ = some v4 ∧ w.cell? ⟨ba, oa + j * 7 + 5, none⟩ = some v5 ∧ w.cell? ⟨ba, oa + j * 7 + 6, none⟩ = some v6 ∧ ExIn w lo (.agg #[v0, v1, v2, v3, v4, v5, v6]) [x, y][j]) := exsIn_at w lo ba [x, y] oa hE
  obtain ⟨u0, u1, u2, u3, u4, u5, u6, u7, u8, e0, e1, e2, e3, e4, e5, e6, hy⟩ := part_at PA.out b1 hbl 0 (by simp)
  simp only [Nat.zero_mul, Nat.add_zero, List.getElem_cons_zero] at e0 e1 e2 e3 e4 e5 e6 hy
  rw [cmP_op h1 h2] at hR
  simp only [List.map_cons, List.map_nil] at hR
  obtain ⟨tf, kf, sf, ef, hf⟩ : ∃ tf kf sf ef, cmP zs rs x = ((tf, kf, sf), ef) := ⟨_, _, _, _, rfl⟩
  have cX := ihx lo _ ((w.alloc (.cells #[.string op, .string nm, .int .i64 vt, .int .i64 vn, .string vs, .slice (some ⟨ba, oa, none⟩) 2 ca, .int .i64 pos] 26)).alloc (.cells #[.int .i64 0, .int .i64 0, .string ⟨#[]⟩] 23)) tf kf sf ef (hy.on b1) (hc.on b1) (hr.on b1) hf
  rw [hf] at hcx hR
  have HCO : Aside (ColsIn w b off zs) := hc
  have HRO : Aside (RowAt w rb ro rs) := hr
  have q1 : (op.toList == [118, 97, 108]) = false := by rw [Lib.toList_data]; simpa using h1
  have q2 : (op.toList == [99, 111, 108]) = false := by rw [Lib.toList_data]; simpa using h2
  have hblr : ba < ((w.alloc (.cells #[.string op, .string nm, .int .i64 vt, .int .i64 vn, .string vs, .slice (some ⟨ba, oa, none⟩) 2 ca, .int .i64 pos] 26)).alloc (.cells #[.int .i64 0, .int .i64 0, .string ⟨#[]⟩] 23)).heap.size := by simp; omega
  clear hc hr hE hy hf h1 h2 box
  obtain ⟨tg, kg, sg, eg, hg2⟩ : ∃ tg kg sg eg, cmP zs rs y = ((tg, kg, sg), eg) := ⟨_, _, _, _, rfl⟩
  rw [hg2] at hcy hR
  obtain ⟨i0v, hiv, hzv0, hzv1, hzv2⟩ := info_parts info_val
  rcases hcx with ⟨h0, hok⟩ | h9
  · simp only at h0
    subst h0
    rw [combP, if_neg (by simp)] at hR
    have hsf : sf.size ≤ 40 := by
      have := chk_size hok.2.1
      simpa using this
    have q5 : (op.toList == [105, 102]) = false := by rw [Lib.toList_data]; simpa using h5
    clear b1
    by_cases h3 : op.data.toList = [97, 110, 100]
    · have h4 : op.data.toList ≠ [111, 114] := by rw [h3]; decide
      have q3 : (op.toList == [97, 110, 100]) = true := by rw [Lib.toList_data]; simpa using h3
      have q4 : (op.toList == [111, 114]) = false := by rw [Lib.toList_data]; simpa using h4
      have h01 : kf = 0 ∨ kf = 1 := by
        have h := hok.2.1
        rw [hok.1, hbl2 h3] at h
        exact (chk_two h).1
      rcases h01 with hk | hk
      · have z0 : (kf == 0) = true := by simpa using hk
        rw [if_pos (by simp [h3, isY, hk])] at hR
        simp only [Prod.mk.injEq] at hR
        obtain ⟨⟨rfl, rfl, rfl⟩, rfl⟩ := hR
        clear h3 h4 h5 PA HCO HRO hk
        go_enter Tryz.func23, Tryz.ntmps23
        go_wp2_with fail
        refine cX.mono ?_
        rintro e' w1 ⟨rfl, b2⟩
        have hz1 : w.heap.size + 2 ≤ w1.heap.size := by have := b2.size; simp at this; omega
        have B2 : Aside (Below (w.heap.size + 2) ((w.alloc (.cells #[.string op, .string nm, .int .i64 vt, .int .i64 vn, .string vs, .slice (some ⟨ba, oa, none⟩) 2 ca, .int .i64 pos] 26)).alloc (.cells #[.int .i64 0, .int .i64 0, .string ⟨#[]⟩] 23)) (w1.alloc (.cells #[.int .i64 tf, .int .i64 kf, .string sf] 23))) := (b2.mono (by simp)).alloc hz1 _
        obtain ⟨_, ⟨f0, f1, f2, ff⟩, hl, b9⟩ := BOX.out _ B2.out
        obtain ⟨hB, ⟨r0, r1, r2, rf⟩, _, b9w⟩ := BOX.out w1 (b2.mono (by simp))
        have g0 : w1.cell? ⟨w.heap.size, 0, none⟩ = some (.string op) := hB 0
        have g5 : w1.cell? ⟨w.heap.size, 5, none⟩ = some (.slice (some ⟨ba, oa, none⟩) 2 ca) := hB 5
        have hl0 : w.heap.size < w1.heap.size := by omega
        have hl1 : w.heap.size + 1 < w1.heap.size := by omega
        clear f0 f1 f2 ff cX hB b2 e0 e1 e2 e3 e4 e5 e6
        go_wp2
        obtain ⟨s0, s1, s2⟩ := res3 r0 r1 r2 hl1 (.int .i64 tf) (.int .i64 kf) (.string sf) (.cells #[.int .i64 tf, .int .i64 kf, .string sf] 23)
        refine bodyPost_ret (v := .tuple #[.agg #[.int .i64 tf, .int .i64 kf, .string sf], .int .i64 0]) (by simp [results, Tryz.results23, go_sem, s0, s1, s2]) rfl ⟨rfl, ?_⟩
        exact (below3 b9w (by omega) _ _ _).alloc (by simp [World.setCell]; omega) _
      · have z0 : (kf == 0) = false := by rw [hk]; rfl
        rw [if_neg (by simp [h4, isY, hk]), if_neg h5] at hR
        simp only [List.map_cons, List.map_nil] at hR
        have hR2 : Hid ((if firstE [((tg, kg, sg), eg)] ≠ 0 then (noV, firstE [((tg, kg, sg), eg)]) else doP op.data.toList [(tf, kf, sf), (tg, kg, sg)]) = ((t, k, s), e)) := hR
        clear hk hR h3 h4 h5
        go_enter Tryz.func23, Tryz.ntmps23
        go_wp2_with fail
        refine cX.mono ?_
        rintro e' w1 ⟨rfl, b2⟩
        have hz1 : w.heap.size + 2 ≤ w1.heap.size := by have := b2.size; simp at this; omega
        have B2 : Aside (Below (w.heap.size + 2) ((w.alloc (.cells #[.string op, .string nm, .int .i64 vt, .int .i64 vn, .string vs, .slice (some ⟨ba, oa, none⟩) 2 ca, .int .i64 pos] 26)).alloc (.cells #[.int .i64 0, .int .i64 0, .string ⟨#[]⟩] 23)) (w1.alloc (.cells #[.int .i64 tf, .int .i64 kf, .string sf] 23))) := (b2.mono (by simp)).alloc hz1 _
        obtain ⟨_, ⟨f0, f1, f2, ff⟩, hl, b9⟩ := BOX.out _ B2.out
        obtain ⟨hB, ⟨r0, r1, r2, rf⟩, _, b9w⟩ := BOX.out w1 (b2.mono (by simp))
        have g0 : w1.cell? ⟨w.heap.size, 0, none⟩ = some (.string op) := hB 0
        have g5 : w1.cell? ⟨w.heap.size, 5, none⟩ = some (.slice (some ⟨ba, oa, none⟩) 2 ca) := hB 5
        have hl0 : w.heap.size < w1.heap.size := by omega
        have hl1 : w.heap.size + 1 < w1.heap.size := by omega
        clear cX hB b2 e0 e1 e2 e3 e4 e5 e6
        have hz2 : w.heap.size + 2 ≤ (w1.alloc (.cells #[.int .i64 tf, .int .i64 kf, .string sf] 23)).heap.size := by simp; omega
        have OW0 : Aside (((w1.alloc (.cells #[.int .i64 tf, .int .i64 kf, .string sf] 23)).alloc (.cells #[.int .i64 tf, .int .i64 kf, .string sf] 23)).ownsRow (w.heap.size + 2) 23 3 (.slice (some ⟨(w1.alloc (.cells #[.int .i64 tf, .int .i64 kf, .string sf] 23)).heap.size, 0, none⟩) 1 1) 1 (vcells [(tf, kf, sf)])) := World.ownsRow_lit (w1.alloc (.cells #[.int .i64 tf, .int .i64 kf, .string sf] 23)) #[.int .i64 tf, .int .i64 kf, .string sf] 1 hz2 (by decide) rfl
        have BW0 : Aside (Below (w.heap.size + 2) ((w.alloc (.cells #[.string op, .string nm, .int .i64 vt, .int .i64 vn, .string vs, .slice (some ⟨ba, oa, none⟩) 2 ca, .int .i64 pos] 26)).alloc (.cells #[.int .i64 0, .int .i64 0, .string ⟨#[]⟩] 23)) ((w1.alloc (.cells #[.int .i64 tf, .int .i64 kf, .string sf] 23)).alloc (.cells #[.int .i64 tf, .int .i64 kf, .string sf] 23))) := B2.out.alloc hz2 _
        go_wp2
        go_loopg [11, 12, 13, 14] 1 (fun gg s11 s12 _ _ wr => ∃ (kk : Nat) (q : Option Addr) (cp : Nat) (vv : List V3), kk ≤ 1 ∧ 1 - kk ≤ gg ∧ s12 = .int .i64 ((kk : Int) + 1) ∧ s11 = .slice q (kk + 1) cp ∧ Aside (wr.ownsRow (w.heap.size + 2) 23 3 (.slice q (kk + 1) cp) (kk + 1) (vcells vv)) ∧ Aside (Below (w.heap.size + 2) ((w.alloc (.cells #[.string op, .string nm, .int .i64 vt, .int .i64 vn, .string vs, .slice (some ⟨ba, oa, none⟩) 2 ca, .int .i64 pos] 26)).alloc (.cells #[.int .i64 0, .int .i64 0, .string ⟨#[]⟩] 23)) wr) ∧ Hid ((kk = 0 → vv = [(tf, kf, sf)]) ∧ (kk = 1 → vv = [(tf, kf, sf), (tg, kg, sg)] ∧ eg = 0)))
        case atStart => exact ⟨0, some ⟨_, 0, none⟩, 1, [(tf, kf, sf)], by decide, by decide, rfl, by rfl, (show Aside _ by simpa using OW0), (show Aside _ by simpa using BW0), (show Hid _ from ⟨fun _ => rfl, fun h => absurd h (by decide)⟩)⟩
        case round =>
          obtain ⟨kk, q, cp, vv, hkk, hg, rfl, rfl, OW, BW, HV⟩ := hrel
          obtain ⟨hBr, ⟨f0, f1, f2, ff⟩, hzr, bwr⟩ := BOX.out wr BW.out
          have i0 : wr.cell? ⟨w.heap.size, 0, none⟩ = some (.string op) := hBr 0
          have i5 : wr.cell? ⟨w.heap.size, 5, none⟩ = some (.slice (some ⟨ba, oa, none⟩) 2 ca) := hBr 5
          have hr0 : w.heap.size < wr.heap.size := by omega
          have hr1 : w.heap.size + 1 < wr.heap.size := by omega
          clear hBr OW0 BW0 g0 g5 r0 r1 r2 rf b9 b9w B2
          by_cases hlt : kk < 1
          · obtain rfl : kk = 0 := by omega
            obtain rfl := HV.out.1 rfl
            obtain ⟨u0, u1, u2, u3, u4, u5, u6, u7, u8, e0, e1, e2, e3, e4, e5, e6, hy⟩ := part_at PA.out bwr hbl 1 (by simp)
            simp only [Nat.one_mul, List.getElem_cons_succ, List.getElem_cons_zero] at e0 e1 e2 e3 e4 e5 e6 hy
            have hbr : ba < wr.heap.size := by have := bwr.size; omega
            have cY := ihy lo _ wr tg kg sg eg (hy.on bwr) (HCO.out.on bwr) (HRO.out.on bwr) hg2
            clear hy hlt HV
            rcases hcy with ⟨hg0, hokg⟩ | h9
            · simp only at hg0
              subst hg0
              go_wp2_with fail
              refine cY.mono ?_
              rintro e' w4 ⟨rfl, b4⟩
              have hz4 : wr.heap.size ≤ w4.heap.size := b4.size
              have b5 : Below (w.heap.size + 2) wr w4 := b4.mono (by omega)
              have OW4 := own_but OW.out (But.of_below' (r := 0) b4 (Nat.zero_le _)) (by omega)
              have OW5 := OW4.alloc (.cells #[.int .i64 tg, .int .i64 kg, .string sg] 23)
              have BW5 : Aside (Below (w.heap.size + 2) ((w.alloc (.cells #[.string op, .string nm, .int .i64 vt, .int .i64 vn, .string vs, .slice (some ⟨ba, oa, none⟩) 2 ca, .int .i64 pos] 26)).alloc (.cells #[.int .i64 0, .int .i64 0, .string ⟨#[]⟩] 23)) (w4.alloc (.cells #[.int .i64 tg, .int .i64 kg, .string sg] 23))) := (BW.out.trans b5).alloc (by omega) _
              clear cY b4 e0 e1 e2 e3 e4 e5 e6 OW OW4 b5 i0 i5 f0 f1 f2 ff
              go_wp2_with (at_builtin; refine wpList_append_own _ rfl _ _ 46 rfl (w.heap.size + 2) 23 i0v _ 3 32 Tryz.underlying46 hiv hzv0 hzv1 hzv2 rfl (by decide) _ _ _ rfl (OW5.alloc _) ⟨w4.heap.size + 1, 0, none⟩ 1 1 [.int .i64 tg, .int .i64 kg, .string sg] rfl rfl ?c1 ?c2 ?c3 ?c4 ?c5 ?_)
              case c1 =>
                intro i u hu
                rw [Go.WideShapes.add_plain, World.cell?_alloc_at _ _ _ _ (by simp)]
                simpa using hu
              case c2 =>
                intro u hu
                simp at hu
                rcases hu with rfl | rfl | rfl <;> rfl
              case c3 => simp [maxLen]
              case c4 => omega
              case c5 => simp; omega
              · intro v' w5 hown' hgrow _
                have hlo3 : ∀ j, (Value.slice q (0 + 1) cp).ownBlock = some j → w.heap.size + 2 ≤ j := fun j hj => (OW5.lt j hj).1
                have bg : Below (w.heap.size + 2) (w4.alloc (.cells #[.int .i64 tg, .int .i64 kg, .string sg] 23)) w5 := ((Below.refl _ _).alloc (by simp; omega) _).grown hgrow (by simp; omega) hlo3
                have BW6 : Aside (Below (w.heap.size + 2) ((w.alloc (.cells #[.string op, .string nm, .int .i64 vt, .int .i64 vn, .string vs, .slice (some ⟨ba, oa, none⟩) 2 ca, .int .i64 pos] 26)).alloc (.cells #[.int .i64 0, .int .i64 0, .string ⟨#[]⟩] 23)) w5) := BW5.out.trans bg
                obtain ⟨q5, c5, rfl⟩ := lown_slice hown'
                have ow6 : w5.ownsRow (w.heap.size + 2) 23 3 (.slice q5 (1 + 1) c5) (1 + 1) (vcells [(tf, kf, sf), (tg, kg, sg)]) := hown'
                clear hown' hgrow OW5 bg BW5
                go_wp2
                go_roundg 0
                case measure => omega
                case rel => exact ⟨1, q5, c5, _, by decide, by decide, by go_num, rfl, (show Aside _ from ow6), BW6, (show Hid _ from ⟨fun h => absurd h (by decide), fun _ => ⟨rfl, by first | trivial | rfl⟩⟩)⟩
            · simp only [noV, Prod.mk.injEq] at h9
              obtain ⟨⟨rfl, rfl, rfl⟩, rfl⟩ := h9
              have hfin := hR2.out
              rw [if_pos (by decide)] at hfin
              simp only [noV, firstE, Prod.mk.injEq] at hfin
              obtain ⟨⟨rfl, rfl, rfl⟩, he⟩ := hfin
              obtain rfl : e = 9 := by rw [← he]; rfl
              clear he hR2
              go_wp2_with fail
              refine cY.mono ?_
              rintro e' w4 ⟨rfl, b4⟩
              have hz4 : wr.heap.size ≤ w4.heap.size := b4.size
              clear f0 f1 f2 ff
              obtain ⟨_, ⟨r0, r1, r2, rf⟩, hl5, b9⟩ := BOX.out w4 (BW.out.trans (b4.mono (by omega)))
              have hl6 : w.heap.size + 1 < w4.heap.size := by omega
              clear cY b4 e0 e1 e2 e3 e4 e5 e6
              go_wp2
              obtain ⟨s0, s1, s2⟩ := res3 r0 r1 r2 hl6 (.int .i64 0) (.int .i64 0) (.string ⟨#[]⟩) (.cells #[.int .i64 0, .int .i64 0, .string ⟨#[]⟩] 23)
              refine bodyPost_ret (v := .tuple #[.agg #[.int .i64 0, .int .i64 0, .string ⟨#[]⟩], .int .i64 9]) (by simp [results, Tryz.results23, go_sem, s0, s1, s2]) rfl ⟨rfl, ?_⟩
              exact (below3 b9 (by omega) _ _ _).alloc (by simp [World.setCell]; omega) _
          · obtain rfl : kk = 1 := by omega
            obtain ⟨rfl, hg0⟩ := HV.out.2 rfl
            subst hg0
            have hokg : okV Ty (tg, kg, sg) := by
              rcases hcy with h | h
              · exact h.2
              · simp only [noV, Prod.mk.injEq] at h
                exact absurd h.2 (by decide)
            have hsg : sg.size ≤ 40 := by
              have := chk_size hokg.2.1
              simpa using this
            have hfin := hR2.out
            rw [if_neg (by simp [firstE])] at hfin
            have hvv : ∀ v ∈ [(tf, kf, sf), (tg, kg, sg)], chk v.1 v.2.1 v.2.2.data.toList = 0 := fun v hv => by
              rcases List.mem_cons.1 hv with rfl | hv
              · exact hok.2.1
              · obtain rfl := List.mem_singleton.1 hv
                exact hokg.2.1
            have ht1 : tf = Tx := hok.1
            have ht2 : tg = Ty := hokg.1
            have hru : ruleP op.data.toList ([(tf, kf, sf), (tg, kg, sg)].map (·.1)) = (Tr, 0) := by rw [← hrl, ← ht1, ← ht2]; rfl
            rw [do_app hvv (by rw [hru])] at hfin
            have cD := refDo_any op q cp 2 [(tf, kf, sf), (tg, kg, sg)] wr rfl (ownVals rfl OW.out) hvv (fun v hv => by
              rcases List.mem_cons.1 hv with rfl | hv
              · exact ⟨by unfold maxLen; simp only; omega, hok.2.2⟩
              · obtain rfl := List.mem_singleton.1 hv
                exact ⟨by unfold maxLen; simp only; omega, hokg.2.2⟩) Tr hru t k s e hfin
            clear hfin hR2 OW HV hvv hru ht1 ht2
            go_wp2_with fail
            refine cD.mono ?_
            rintro e' w5 ⟨rfl, b5⟩
            obtain ⟨_, ⟨f0, f1, f2, ff⟩, hl5, b9⟩ := BOX.out w5 (BW.out.trans (b5.mono (by omega)))
            have hl6 : w.heap.size + 1 < w5.heap.size := by omega
            clear cD b5
            go_wp2
            refine bodyPost_ret (v := .tuple #[.agg #[.int .i64 t, .int .i64 k, .string s], .int .i64 e]) (by simp [results, Tryz.results23, go_sem, World.cell?_setCell_other, World.cell?_setCell_same, f0, f1, f2]) rfl ⟨rfl, ?_⟩
            exact below3 b9 (by omega) _ _ _
    · have q3 : (op.toList == [97, 110, 100]) = false := by rw [Lib.toList_data]; simpa using h3
      by_cases h4 : op.data.toList = [111, 114]
      · have q4 : (op.toList == [111, 114]) = true := by rw [Lib.toList_data]; simpa using h4
        by_cases hk : kf = 1
        · have z1 : (kf == 1) = true := by simpa using hk
          rw [if_pos (by simp [h4, isY, hk])] at hR
          simp only [Prod.mk.injEq] at hR
          obtain ⟨⟨rfl, rfl, rfl⟩, rfl⟩ := hR
          clear h3 h4 h5 PA HCO HRO hk
          go_enter Tryz.func23, Tryz.ntmps23
          go_wp2_with fail
          refine cX.mono ?_
          rintro e' w1 ⟨rfl, b2⟩
          have hz1 : w.heap.size + 2 ≤ w1.heap.size := by have := b2.size; simp at this; omega
          have B2 : Aside (Below (w.heap.size + 2) ((w.alloc (.cells #[.string op, .string nm, .int .i64 vt, .int .i64 vn, .string vs, .slice (some ⟨ba, oa, none⟩) 2 ca, .int .i64 pos] 26)).alloc (.cells #[.int .i64 0, .int .i64 0, .string ⟨#[]⟩] 23)) (w1.alloc (.cells #[.int .i64 tf, .int .i64 kf, .string sf] 23))) := (b2.mono (by simp)).alloc hz1 _
          obtain ⟨_, ⟨f0, f1, f2, ff⟩, hl, b9⟩ := BOX.out _ B2.out
          obtain ⟨hB, ⟨r0, r1, r2, rf⟩, _, b9w⟩ := BOX.out w1 (b2.mono (by simp))
          have g0 : w1.cell? ⟨w.heap.size, 0, none⟩ = some (.string op) := hB 0
          have g5 : w1.cell? ⟨w.heap.size, 5, none⟩ = some (.slice (some ⟨ba, oa, none⟩) 2 ca) := hB 5
          have hl0 : w.heap.size < w1.heap.size := by omega
          have hl1 : w.heap.size + 1 < w1.heap.size := by omega
          clear f0 f1 f2 ff cX hB b2 e0 e1 e2 e3 e4 e5 e6
          go_wp2
          obtain ⟨s0, s1, s2⟩ := res3 r0 r1 r2 hl1 (.int .i64 tf) (.int .i64 kf) (.string sf) (.cells #[.int .i64 tf, .int .i64 kf, .string sf] 23)
          refine bodyPost_ret (v := .tuple #[.agg #[.int .i64 tf, .int .i64 kf, .string sf], .int .i64 0]) (by simp [results, Tryz.results23, go_sem, s0, s1, s2]) rfl ⟨rfl, ?_⟩
          exact (below3 b9w (by omega) _ _ _).alloc (by simp [World.setCell]; omega) _
        · have z1 : (kf == 1) = false := by simpa using hk
          rw [if_neg (by simp [h3, isY, hk]), if_neg h5] at hR
          simp only [List.map_cons, List.map_nil] at hR
          have hR2 : Hid ((if firstE [((tg, kg, sg), eg)] ≠ 0 then (noV, firstE [((tg, kg, sg), eg)]) else doP op.data.toList [(tf, kf, sf), (tg, kg, sg)]) = ((t, k, s), e)) := hR
          clear hk hR h3 h4 h5
          go_enter Tryz.func23, Tryz.ntmps23
          go_wp2_with fail
          refine cX.mono ?_
          rintro e' w1 ⟨rfl, b2⟩
          have hz1 : w.heap.size + 2 ≤ w1.heap.size := by have := b2.size; simp at this; omega
          have B2 : Aside (Below (w.heap.size + 2) ((w.alloc (.cells #[.string op, .string nm, .int .i64 vt, .int .i64 vn, .string vs, .slice (some ⟨ba, oa, none⟩) 2 ca, .int .i64 pos] 26)).alloc (.cells #[.int .i64 0, .int .i64 0, .string ⟨#[]⟩] 23)) (w1.alloc (.cells #[.int .i64 tf, .int .i64 kf, .string sf] 23))) := (b2.mono (by simp)).alloc hz1 _
          obtain ⟨_, ⟨f0, f1, f2, ff⟩, hl, b9⟩ := BOX.out _ B2.out
          obtain ⟨hB, ⟨r0, r1, r2, rf⟩, _, b9w⟩ := BOX.out w1 (b2.mono (by simp))
          have g0 : w1.cell? ⟨w.heap.size, 0, none⟩ = some (.string op) := hB 0
          have g5 : w1.cell? ⟨w.heap.size, 5, none⟩ = some (.slice (some ⟨ba, oa, none⟩) 2 ca) := hB 5
          have hl0 : w.heap.size < w1.heap.size := by omega
          have hl1 : w.heap.size + 1 < w1.heap.size := by omega
          clear cX hB b2 e0 e1 e2 e3 e4 e5 e6
          have hz2 : w.heap.size + 2 ≤ (w1.alloc (.cells #[.int .i64 tf, .int .i64 kf, .string sf] 23)).heap.size := by simp; omega
          have OW0 : Aside (((w1.alloc (.cells #[.int .i64 tf, .int .i64 kf, .string sf] 23)).alloc (.cells #[.int .i64 tf, .int .i64 kf, .string sf] 23)).ownsRow (w.heap.size + 2) 23 3 (.slice (some ⟨(w1.alloc (.cells #[.int .i64 tf, .int .i64 kf, .string sf] 23)).heap.size, 0, none⟩) 1 1) 1 (vcells [(tf, kf, sf)])) := World.ownsRow_lit (w1.alloc (.cells #[.int .i64 tf, .int .i64 kf, .string sf] 23)) #[.int .i64 tf, .int .i64 kf, .string sf] 1 hz2 (by decide) rfl
          have BW0 : Aside (Below (w.heap.size + 2) ((w.alloc (.cells #[.string op, .string nm, .int .i64 vt, .int .i64 vn, .string vs, .slice (some ⟨ba, oa, none⟩) 2 ca, .int .i64 pos] 26)).alloc (.cells #[.int .i64 0, .int .i64 0, .string ⟨#[]⟩] 23)) ((w1.alloc (.cells #[.int .i64 tf, .int .i64 kf, .string sf] 23)).alloc (.cells #[.int .i64 tf, .int .i64 kf, .string sf] 23))) := B2.out.alloc hz2 _
          go_wp2
          go_loopg [11, 12, 13, 14] 1 (fun gg s11 s12 _ _ wr => ∃ (kk : Nat) (q : Option Addr) (cp : Nat) (vv : List V3), kk ≤ 1 ∧ 1 - kk ≤ gg ∧ s12 = .int .i64 ((kk : Int) + 1) ∧ s11 = .slice q (kk + 1) cp ∧ Aside (wr.ownsRow (w.heap.size + 2) 23 3 (.slice q (kk + 1) cp) (kk + 1) (vcells vv)) ∧ Aside (Below (w.heap.size + 2) ((w.alloc (.cells #[.string op, .string nm, .int .i64 vt, .int .i64 vn, .string vs, .slice (some ⟨ba, oa, none⟩) 2 ca, .int .i64 pos] 26)).alloc (.cells #[.int .i64 0, .int .i64 0, .string ⟨#[]⟩] 23)) wr) ∧ Hid ((kk = 0 → vv = [(tf, kf, sf)]) ∧ (kk = 1 → vv = [(tf, kf, sf), (tg, kg, sg)] ∧ eg = 0)))
          case atStart => exact ⟨0, some ⟨_, 0, none⟩, 1, [(tf, kf, sf)], by decide, by decide, rfl, by rfl, (show Aside _ by simpa using OW0), (show Aside _ by simpa using BW0), (show Hid _ from ⟨fun _ => rfl, fun h => absurd h (by decide)⟩)⟩
          case round =>
            obtain ⟨kk, q, cp, vv, hkk, hg, rfl, rfl, OW, BW, HV⟩ := hrel
            obtain ⟨hBr, ⟨f0, f1, f2, ff⟩, hzr, bwr⟩ := BOX.out wr BW.out
            have i0 : wr.cell? ⟨w.heap.size, 0, none⟩ = some (.string op) := hBr 0
            have i5 : wr.cell? ⟨w.heap.size, 5, none⟩ = some (.slice (some ⟨ba, oa, none⟩) 2 ca) := hBr 5
            have hr0 : w.heap.size < wr.heap.size := by omega
            have hr1 : w.heap.size + 1 < wr.heap.size := by omega
            clear hBr OW0 BW0 g0 g5 r0 r1 r2 rf b9 b9w B2
            by_cases hlt : kk < 1
            · obtain rfl : kk = 0 := by omega
              obtain rfl := HV.out.1 rfl
              obtain ⟨u0, u1, u2, u3, u4, u5, u6, u7, u8, e0, e1, e2, e3, e4, e5, e6, hy⟩ := part_at PA.out bwr hbl 1 (by simp)
              simp only [Nat.one_mul, List.getElem_cons_succ, List.getElem_cons_zero] at e0 e1 e2 e3 e4 e5 e6 hy
              have hbr : ba < wr.heap.size := by have := bwr.size; omega
              have cY := ihy lo _ wr tg kg sg eg (hy.on bwr) (HCO.out.on bwr) (HRO.out.on bwr) hg2
              clear hy hlt HV
              rcases hcy with ⟨hg0, hokg⟩ | h9
              · simp only at hg0
                subst hg0
                go_wp2_with fail
                refine cY.mono ?_
                rintro e' w4 ⟨rfl, b4⟩
                have hz4 : wr.heap.size ≤ w4.heap.size := b4.size
                have b5 : Below (w.heap.size + 2) wr w4 := b4.mono (by omega)
                have OW4 := own_but OW.out (But.of_below' (r := 0) b4 (Nat.zero_le _)) (by omega)
                have OW5 := OW4.alloc (.cells #[.int .i64 tg, .int .i64 kg, .string sg] 23)
                have BW5 : Aside (Below (w.heap.size + 2) ((w.alloc (.cells #[.string op, .string nm, .int .i64 vt, .int .i64 vn, .string vs, .slice (some ⟨ba, oa, none⟩) 2 ca, .int .i64 pos] 26)).alloc (.cells #[.int .i64 0, .int .i64 0, .string ⟨#[]⟩] 23)) (w4.alloc (.cells #[.int .i64 tg, .int .i64 kg, .string sg] 23))) := (BW.out.trans b5).alloc (by omega) _
                clear cY b4 e0 e1 e2 e3 e4 e5 e6 OW OW4 b5 i0 i5 f0 f1 f2 ff
                go_wp2_with (at_builtin; refine wpList_append_own _ rfl _ _ 46 rfl (w.heap.size + 2) 23 i0v _ 3 32 Tryz.underlying46 hiv hzv0 hzv1 hzv2 rfl (by decide) _ _ _ rfl (OW5.alloc _) ⟨w4.heap.size + 1, 0, none⟩ 1 1 [.int .i64 tg, .int .i64 kg, .string sg] rfl rfl ?c1 ?c2 ?c3 ?c4 ?c5 ?_)
                case c1 =>
                  intro i u hu
                  rw [Go.WideShapes.add_plain, World.cell?_alloc_at _ _ _ _ (by simp)]
                  simpa using hu
                case c2 =>
                  intro u hu
                  simp at hu
                  rcases hu with rfl | rfl | rfl <;> rfl
                case c3 => simp [maxLen]
                case c4 => omega
                case c5 => simp; omega
                · intro v' w5 hown' hgrow _
                  have hlo3 : ∀ j, (Value.slice q (0 + 1) cp).ownBlock = some j → w.heap.size + 2 ≤ j := fun j hj => (OW5.lt j hj).1
                  have bg : Below (w.heap.size + 2) (w4.alloc (.cells #[.int .i64 tg, .int .i64 kg, .string sg] 23)) w5 := ((Below.refl _ _).alloc (by simp; omega) _).grown hgrow (by simp; omega) hlo3
                  have BW6 : Aside (Below (w.heap.size + 2) ((w.alloc (.cells #[.string op, .string nm, .int .i64 vt, .int .i64 vn, .string vs, .slice (some ⟨ba, oa, none⟩) 2 ca, .int .i64 pos] 26)).alloc (.cells #[.int .i64 0, .int .i64 0, .string ⟨#[]⟩] 23)) w5) := BW5.out.trans bg
                  obtain ⟨q5, c5, rfl⟩ := lown_slice hown'
                  have ow6 : w5.ownsRow (w.heap.size + 2) 23 3 (.slice q5 (1 + 1) c5) (1 + 1) (vcells [(tf, kf, sf), (tg, kg, sg)]) := hown'
                  clear hown' hgrow OW5 bg BW5
                  go_wp2
                  go_roundg 0
                  case measure => omega
                  case rel => exact ⟨1, q5, c5, _, by decide, by decide, by go_num, rfl, (show Aside _ from ow6), BW6, (show Hid _ from ⟨fun h => absurd h (by decide), fun _ => ⟨rfl, by first | trivial | rfl⟩⟩)⟩
              · simp only [noV, Prod.mk.injEq] at h9
                obtain ⟨⟨rfl, rfl, rfl⟩, rfl⟩ := h9
                have hfin := hR2.out
                rw [if_pos (by decide)] at hfin
                simp only [noV, firstE, Prod.mk.injEq] at hfin
                obtain ⟨⟨rfl, rfl, rfl⟩, he⟩ := hfin
                obtain rfl : e = 9 := by rw [← he]; rfl
                clear he hR2
                go_wp2_with fail
                refine cY.mono ?_
                rintro e' w4 ⟨rfl, b4⟩
                have hz4 : wr.heap.size ≤ w4.heap.size := b4.size
                clear f0 f1 f2 ff
                obtain ⟨_, ⟨r0, r1, r2, rf⟩, hl5, b9⟩ := BOX.out w4 (BW.out.trans (b4.mono (by omega)))
                have hl6 : w.heap.size + 1 < w4.heap.size := by omega
                clear cY b4 e0 e1 e2 e3 e4 e5 e6
                go_wp2
                obtain ⟨s0, s1, s2⟩ := res3 r0 r1 r2 hl6 (.int .i64 0) (.int .i64 0) (.string ⟨#[]⟩) (.cells #[.int .i64 0, .int .i64 0, .string ⟨#[]⟩] 23)
                refine bodyPost_ret (v := .tuple #[.agg #[.int .i64 0, .int .i64 0, .string ⟨#[]⟩], .int .i64 9]) (by simp [results, Tryz.results23, go_sem, s0, s1, s2]) rfl ⟨rfl, ?_⟩
                exact (below3 b9 (by omega) _ _ _).alloc (by simp [World.setCell]; omega) _
            · obtain rfl : kk = 1 := by omega
              obtain ⟨rfl, hg0⟩ := HV.out.2 rfl
              subst hg0
              have hokg : okV Ty (tg, kg, sg) := by
                rcases hcy with h | h
                · exact h.2
                · simp only [noV, Prod.mk.injEq] at h
                  exact absurd h.2 (by decide)
              have hsg : sg.size ≤ 40 := by
                have := chk_size hokg.2.1
                simpa using this
              have hfin := hR2.out
              rw [if_neg (by simp [firstE])] at hfin
              have hvv : ∀ v ∈ [(tf, kf, sf), (tg, kg, sg)], chk v.1 v.2.1 v.2.2.data.toList = 0 := fun v hv => by
                rcases List.mem_cons.1 hv with rfl | hv
                · exact hok.2.1
                · obtain rfl := List.mem_singleton.1 hv
                  exact hokg.2.1
              have ht1 : tf = Tx := hok.1
              have ht2 : tg = Ty := hokg.1
              have hru : ruleP op.data.toList ([(tf, kf, sf), (tg, kg, sg)].map (·.1)) = (Tr, 0) := by rw [← hrl, ← ht1, ← ht2]; rfl
              rw [do_app hvv (by rw [hru])] at hfin
              have cD := refDo_any op q cp 2 [(tf, kf, sf), (tg, kg, sg)] wr rfl (ownVals rfl OW.out) hvv (fun v hv => by
                rcases List.mem_cons.1 hv with rfl | hv
                · exact ⟨by unfold maxLen; simp only; omega, hok.2.2⟩
                · obtain rfl := List.mem_singleton.1 hv
                  exact ⟨by unfold maxLen; simp only; omega, hokg.2.2⟩) Tr hru t k s e hfin
              clear hfin hR2 OW HV hvv hru ht1 ht2
              go_wp2_with fail
              refine cD.mono ?_
              rintro e' w5 ⟨rfl, b5⟩
              obtain ⟨_, ⟨f0, f1, f2, ff⟩, hl5, b9⟩ := BOX.out w5 (BW.out.trans (b5.mono (by omega)))
              have hl6 : w.heap.size + 1 < w5.heap.size := by omega
              clear cD b5
              go_wp2
              refine bodyPost_ret (v := .tuple #[.agg #[.int .i64 t, .int .i64 k, .string s], .int .i64 e]) (by simp [results, Tryz.results23, go_sem, World.cell?_setCell_other, World.cell?_setCell_same, f0, f1, f2]) rfl ⟨rfl, ?_⟩
              exact below3 b9 (by omega) _ _ _
      · have q4 : (op.toList == [111, 114]) = false := by rw [Lib.toList_data]; simpa using h4
        rw [if_neg (by simp [h3, h4]), if_neg h5] at hR
        simp only [List.map_cons, List.map_nil] at hR
        have hR2 : Hid ((if firstE [((tg, kg, sg), eg)] ≠ 0 then (noV, firstE [((tg, kg, sg), eg)]) else doP op.data.toList [(tf, kf, sf), (tg, kg, sg)]) = ((t, k, s), e)) := hR
        clear hR h3 h4 h5
        go_enter Tryz.func23, Tryz.ntmps23
        go_wp2_with fail
        refine cX.mono ?_
        rintro e' w1 ⟨rfl, b2⟩
        have hz1 : w.heap.size + 2 ≤ w1.heap.size := by have := b2.size; simp at this; omega
        have B2 : Aside (Below (w.heap.size + 2) ((w.alloc (.cells #[.string op, .string nm, .int .i64 vt, .int .i64 vn, .string vs, .slice (some ⟨ba, oa, none⟩) 2 ca, .int .i64 pos] 26)).alloc (.cells #[.int .i64 0, .int .i64 0, .string ⟨#[]⟩] 23)) (w1.alloc (.cells #[.int .i64 tf, .int .i64 kf, .string sf] 23))) := (b2.mono (by simp)).alloc hz1 _
        obtain ⟨_, ⟨f0, f1, f2, ff⟩, hl, b9⟩ := BOX.out _ B2.out
        obtain ⟨hB, ⟨r0, r1, r2, rf⟩, _, b9w⟩ := BOX.out w1 (b2.mono (by simp))
        have g0 : w1.cell? ⟨w.heap.size, 0, none⟩ = some (.string op) := hB 0
        have g5 : w1.cell? ⟨w.heap.size, 5, none⟩ = some (.slice (some ⟨ba, oa, none⟩) 2 ca) := hB 5
        have hl0 : w.heap.size < w1.heap.size := by omega
        have hl1 : w.heap.size + 1 < w1.heap.size := by omega
        clear cX hB b2 e0 e1 e2 e3 e4 e5 e6
        have hz2 : w.heap.size + 2 ≤ (w1.alloc (.cells #[.int .i64 tf, .int .i64 kf, .string sf] 23)).heap.size := by simp; omega
        have OW0 : Aside (((w1.alloc (.cells #[.int .i64 tf, .int .i64 kf, .string sf] 23)).alloc (.cells #[.int .i64 tf, .int .i64 kf, .string sf] 23)).ownsRow (w.heap.size + 2) 23 3 (.slice (some ⟨(w1.alloc (.cells #[.int .i64 tf, .int .i64 kf, .string sf] 23)).heap.size, 0, none⟩) 1 1) 1 (vcells [(tf, kf, sf)])) := World.ownsRow_lit (w1.alloc (.cells #[.int .i64 tf, .int .i64 kf, .string sf] 23)) #[.int .i64 tf, .int .i64 kf, .string sf] 1 hz2 (by decide) rfl
        have BW0 : Aside (Below (w.heap.size + 2) ((w.alloc (.cells #[.string op, .string nm, .int .i64 vt, .int .i64 vn, .string vs, .slice (some ⟨ba, oa, none⟩) 2 ca, .int .i64 pos] 26)).alloc (.cells #[.int .i64 0, .int .i64 0, .string ⟨#[]⟩] 23)) ((w1.alloc (.cells #[.int .i64 tf, .int .i64 kf, .string sf] 23)).alloc (.cells #[.int .i64 tf, .int .i64 kf, .string sf] 23))) := B2.out.alloc hz2 _
        go_wp2
        go_loopg [11, 12, 13, 14] 1 (fun gg s11 s12 _ _ wr => ∃ (kk : Nat) (q : Option Addr) (cp : Nat) (vv : List V3), kk ≤ 1 ∧ 1 - kk ≤ gg ∧ s12 = .int .i64 ((kk : Int) + 1) ∧ s11 = .slice q (kk + 1) cp ∧ Aside (wr.ownsRow (w.heap.size + 2) 23 3 (.slice q (kk + 1) cp) (kk + 1) (vcells vv)) ∧ Aside (Below (w.heap.size + 2) ((w.alloc (.cells #[.string op, .string nm, .int .i64 vt, .int .i64 vn, .string vs, .slice (some ⟨ba, oa, none⟩) 2 ca, .int .i64 pos] 26)).alloc (.cells #[.int .i64 0, .int .i64 0, .string ⟨#[]⟩] 23)) wr) ∧ Hid ((kk = 0 → vv = [(tf, kf, sf)]) ∧ (kk = 1 → vv = [(tf, kf, sf), (tg, kg, sg)] ∧ eg = 0)))
        case atStart => exact ⟨0, some ⟨_, 0, none⟩, 1, [(tf, kf, sf)], by decide, by decide, rfl, by rfl, (show Aside _ by simpa using OW0), (show Aside _ by simpa using BW0), (show Hid _ from ⟨fun _ => rfl, fun h => absurd h (by decide)⟩)⟩
        case round =>
          obtain ⟨kk, q, cp, vv, hkk, hg, rfl, rfl, OW, BW, HV⟩ := hrel
          obtain ⟨hBr, ⟨f0, f1, f2, ff⟩, hzr, bwr⟩ := BOX.out wr BW.out
          have i0 : wr.cell? ⟨w.heap.size, 0, none⟩ = some (.string op) := hBr 0
          have i5 : wr.cell? ⟨w.heap.size, 5, none⟩ = some (.slice (some ⟨ba, oa, none⟩) 2 ca) := hBr 5
          have hr0 : w.heap.size < wr.heap.size := by omega
          have hr1 : w.heap.size + 1 < wr.heap.size := by omega
          clear hBr OW0 BW0 g0 g5 r0 r1 r2 rf b9 b9w B2
          by_cases hlt : kk < 1
          · obtain rfl : kk = 0 := by omega
            obtain rfl := HV.out.1 rfl
            obtain ⟨u0, u1, u2, u3, u4, u5, u6, u7, u8, e0, e1, e2, e3, e4, e5, e6, hy⟩ := part_at PA.out bwr hbl 1 (by simp)
            simp only [Nat.one_mul, List.getElem_cons_succ, List.getElem_cons_zero] at e0 e1 e2 e3 e4 e5 e6 hy
            have hbr : ba < wr.heap.size := by have := bwr.size; omega
            have cY := ihy lo _ wr tg kg sg eg (hy.on bwr) (HCO.out.on bwr) (HRO.out.on bwr) hg2
            clear hy hlt HV
            rcases hcy with ⟨hg0, hokg⟩ | h9
            · simp only at hg0
              subst hg0
              go_wp2_with fail
              refine cY.mono ?_
              rintro e' w4 ⟨rfl, b4⟩
              have hz4 : wr.heap.size ≤ w4.heap.size := b4.size
              have b5 : Below (w.heap.size + 2) wr w4 := b4.mono (by omega)
              have OW4 := own_but OW.out (But.of_below' (r := 0) b4 (Nat.zero_le _)) (by omega)
              have OW5 := OW4.alloc (.cells #[.int .i64 tg, .int .i64 kg, .string sg] 23)
              have BW5 : Aside (Below (w.heap.size + 2) ((w.alloc (.cells #[.string op, .string nm, .int .i64 vt, .int .i64 vn, .string vs, .slice (some ⟨ba, oa, none⟩) 2 ca, .int .i64 pos] 26)).alloc (.cells #[.int .i64 0, .int .i64 0, .string ⟨#[]⟩] 23)) (w4.alloc (.cells #[.int .i64 tg, .int .i64 kg, .string sg] 23))) := (BW.out.trans b5).alloc (by omega) _
              clear cY b4 e0 e1 e2 e3 e4 e5 e6 OW OW4 b5 i0 i5 f0 f1 f2 ff
              go_wp2_with (at_builtin; refine wpList_append_own _ rfl _ _ 46 rfl (w.heap.size + 2) 23 i0v _ 3 32 Tryz.underlying46 hiv hzv0 hzv1 hzv2 rfl (by decide) _ _ _ rfl (OW5.alloc _) ⟨w4.heap.size + 1, 0, none⟩ 1 1 [.int .i64 tg, .int .i64 kg, .string sg] rfl rfl ?c1 ?c2 ?c3 ?c4 ?c5 ?_)
              case c1 =>
                intro i u hu
                rw [Go.WideShapes.add_plain, World.cell?_alloc_at _ _ _ _ (by simp)]
                simpa using hu
              case c2 =>
                intro u hu
                simp at hu
                rcases hu with rfl | rfl | rfl <;> rfl
              case c3 => simp [maxLen]
              case c4 => omega
              case c5 => simp; omega
              · intro v' w5 hown' hgrow _
                have hlo3 : ∀ j, (Value.slice q (0 + 1) cp).ownBlock = some j → w.heap.size + 2 ≤ j := fun j hj => (OW5.lt j hj).1
                have bg : Below (w.heap.size + 2) (w4.alloc (.cells #[.int .i64 tg, .int .i64 kg, .string sg] 23)) w5 := ((Below.refl _ _).alloc (by simp; omega) _).grown hgrow (by simp; omega) hlo3
                have BW6 : Aside (Below (w.heap.size + 2) ((w.alloc (.cells #[.string op, .string nm, .int .i64 vt, .int .i64 vn, .string vs, .slice (some ⟨ba, oa, none⟩) 2 ca, .int .i64 pos] 26)).alloc (.cells #[.int .i64 0, .int .i64 0, .string ⟨#[]⟩] 23)) w5) := BW5.out.trans bg
                obtain ⟨q5, c5, rfl⟩ := lown_slice hown'
                have ow6 : w5.ownsRow (w.heap.size + 2) 23 3 (.slice q5 (1 + 1) c5) (1 + 1) (vcells [(tf, kf, sf), (tg, kg, sg)]) := hown'
                clear hown' hgrow OW5 bg BW5
                go_wp2
                go_roundg 0
                case measure => omega
                case rel => exact ⟨1, q5, c5, _, by decide, by decide, by go_num, rfl, (show Aside _ from ow6), BW6, (show Hid _ from ⟨fun h => absurd h (by decide), fun _ => ⟨rfl, by first | trivial | rfl⟩⟩)⟩
            · simp only [noV, Prod.mk.injEq] at h9
              obtain ⟨⟨rfl, rfl, rfl⟩, rfl⟩ := h9
              have hfin := hR2.out
              rw [if_pos (by decide)] at hfin
              simp only [noV, firstE, Prod.mk.injEq] at hfin
              obtain ⟨⟨rfl, rfl, rfl⟩, he⟩ := hfin
              obtain rfl : e = 9 := by rw [← he]; rfl
              clear he hR2
              go_wp2_with fail
              refine cY.mono ?_
              rintro e' w4 ⟨rfl, b4⟩
              have hz4 : wr.heap.size ≤ w4.heap.size := b4.size
              clear f0 f1 f2 ff
              obtain ⟨_, ⟨r0, r1, r2, rf⟩, hl5, b9⟩ := BOX.out w4 (BW.out.trans (b4.mono (by omega)))
              have hl6 : w.heap.size + 1 < w4.heap.size := by omega
              clear cY b4 e0 e1 e2 e3 e4 e5 e6
              go_wp2
              obtain ⟨s0, s1, s2⟩ := res3 r0 r1 r2 hl6 (.int .i64 0) (.int .i64 0) (.string ⟨#[]⟩) (.cells #[.int .i64 0, .int .i64 0, .string ⟨#[]⟩] 23)
              refine bodyPost_ret (v := .tuple #[.agg #[.int .i64 0, .int .i64 0, .string ⟨#[]⟩], .int .i64 9]) (by simp [results, Tryz.results23, go_sem, s0, s1, s2]) rfl ⟨rfl, ?_⟩
              exact (below3 b9 (by omega) _ _ _).alloc (by simp [World.setCell]; omega) _
          · obtain rfl : kk = 1 := by omega
            obtain ⟨rfl, hg0⟩ := HV.out.2 rfl
            subst hg0
            have hokg : okV Ty (tg, kg, sg) := by
              rcases hcy with h | h
              · exact h.2
              · simp only [noV, Prod.mk.injEq] at h
                exact absurd h.2 (by decide)
            have hsg : sg.size ≤ 40 := by
              have := chk_size hokg.2.1
              simpa using this
            have hfin := hR2.out
            rw [if_neg (by simp [firstE])] at hfin
            have hvv : ∀ v ∈ [(tf, kf, sf), (tg, kg, sg)], chk v.1 v.2.1 v.2.2.data.toList = 0 := fun v hv => by
              rcases List.mem_cons.1 hv with rfl | hv
              · exact hok.2.1
              · obtain rfl := List.mem_singleton.1 hv
                exact hokg.2.1
            have ht1 : tf = Tx := hok.1
            have ht2 : tg = Ty := hokg.1
            have hru : ruleP op.data.toList ([(tf, kf, sf), (tg, kg, sg)].map (·.1)) = (Tr, 0) := by rw [← hrl, ← ht1, ← ht2]; rfl
            rw [do_app hvv (by rw [hru])] at hfin
            have cD := refDo_any op q cp 2 [(tf, kf, sf), (tg, kg, sg)] wr rfl (ownVals rfl OW.out) hvv (fun v hv => by
              rcases List.mem_cons.1 hv with rfl | hv
              · exact ⟨by unfold maxLen; simp only; omega, hok.2.2⟩
              · obtain rfl := List.mem_singleton.1 hv
                exact ⟨by unfold maxLen; simp only; omega, hokg.2.2⟩) Tr hru t k s e hfin
            clear hfin hR2 OW HV hvv hru ht1 ht2
            go_wp2_with fail
            refine cD.mono ?_
            rintro e' w5 ⟨rfl, b5⟩
            obtain ⟨_, ⟨f0, f1, f2, ff⟩, hl5, b9⟩ := BOX.out w5 (BW.out.trans (b5.mono (by omega)))
            have hl6 : w.heap.size + 1 < w5.heap.size := by omega
            clear cD b5
            go_wp2
            refine bodyPost_ret (v := .tuple #[.agg #[.int .i64 t, .int .i64 k, .string s], .int .i64 e]) (by simp [results, Tryz.results23, go_sem, World.cell?_setCell_other, World.cell?_setCell_same, f0, f1, f2]) rfl ⟨rfl, ?_⟩
            exact below3 b9 (by omega) _ _ _
  · simp only [noV, Prod.mk.injEq] at h9
    obtain ⟨⟨rfl, rfl, rfl⟩, rfl⟩ := h9
    rw [combP, if_pos (by decide)] at hR
    simp only [noV, Prod.mk.injEq] at hR
    obtain ⟨⟨rfl, rfl, rfl⟩, rfl⟩ := hR
    clear PA HCO HRO b1
    go_enter Tryz.func23, Tryz.ntmps23
    go_wp2_with fail
    refine cX.mono ?_
    rintro e w1 ⟨rfl, b2⟩
    obtain ⟨_, ⟨r0, r1, r2, rf⟩, hl, b9⟩ := BOX.out w1 (b2.mono (by simp))
    have hl0 : w.heap.size + 1 < w1.heap.size := by have := b2.size; simp at this; omega
    clear cX BOX b2 e0 e1 e2 e3 e4 e5 e6
    go_wp2
    obtain ⟨s0, s1, s2⟩ := res3 r0 r1 r2 hl0 (.int .i64 0) (.int .i64 0) (.string ⟨#[]⟩) (.cells #[.int .i64 0, .int .i64 0, .string ⟨#[]⟩] 23)
    refine bodyPost_ret (v := .tuple #[.agg #[.int .i64 0, .int .i64 0, .string ⟨#[]⟩], .int .i64 9]) (by simp [results, Tryz.results23, go_sem, s0, s1, s2]) rfl ⟨rfl, ?_⟩
    exact (below3 b9 (by omega) _ _ _).alloc (by simp [World.setCell]; omega) _
set_option maxHeartbeats 8000000 in
set_option maxRecDepth 20000 in
theorem ev_3 (zs : List (ByteArray × Int)) (b off c rb ro rc : Nat) (rs : List V3) (op nm vs : ByteArray) (vt vn pos : Int) (x y z : Ex) (h1 : op.data.toList ≠ [118, 97, 108]) (h2 : op.data.toList ≠ [99, 111, 108]) (h5 : op.data.toList = [105, 102]) (ihx : EvAt zs b off c rb ro rc rs x) (Tx : Int) (hcx : comes Tx (cmP zs rs x)) (ihy : EvAt zs b off c rb ro rc rs y) (Ty : Int) (hcy : comes Ty (cmP zs rs y)) (ihz : EvAt zs b off c rb ro rc rs z) (Tz : Int) (hcz : comes Tz (cmP zs rs z)) (hbl2 : Tx = 2) : EvAt zs b off c rb ro rc rs (.node op nm vt vn vs pos [x, y, z] : Ex) := by
  intro lo v w t k s e hx hc hr hR
  rw [ExIn] at hx
  obtain ⟨p, ca, rfl, ⟨hm, hmc⟩, ho, hnm, hvs, hparts⟩ := hx
  rcases hparts with h | ⟨ba, oa, rfl, hbl, hlo, hE⟩
  · exact absurd h (by simp)
  have hlen : [x, y, z].length = 3 := rfl
  rw [hlen] at hm hmc ⊢
  obtain ⟨b1, box⟩ := come_box w #[.string op, .string nm, .int .i64 vt, .int .i64 vn, .string vs, .slice (some ⟨ba, oa, none⟩) 3 ca, .int .i64 pos]
  have BOX : Hid (∀ wr, Below (w.heap.size + 2) ((w.alloc (.cells #[.string op, .string nm, .int .i64 vt, .int .i64 vn, .string vs, .slice (some ⟨ba, oa, none⟩) 3 ca, .int .i64 pos] 26)).alloc (.cells #[.int .i64 0, .int .i64 0, .string ⟨#[]⟩] 23)) wr → (∀ i, wr.cell? ⟨w.heap.size, i, none⟩ = (#[.string op, .string nm, .int .i64 vt, .int .i64 vn, .string vs, .slice (some ⟨ba, oa, none⟩) 3 ca, .int .i64 pos] : Array Value)[i]?) ∧ (wr.cell? ⟨w.heap.size + 1, 0, none⟩ = some (.int .i64 0) ∧ wr.cell? ⟨w.heap.size + 1, 1, none⟩ = some (.int .i64 0) ∧ wr.cell? ⟨w.heap.size + 1, 2, none⟩ = some (.string ⟨#[]⟩) ∧ (∀ o, wr.frozen? ⟨w.heap.size + 1, o, none⟩ = false)) ∧ w.heap.size + 2 ≤ wr.heap.size ∧ Below w.heap.size w wr) := box
  have PA : Aside (∀ j (h : j < [x, y, z].length), ∃ v0 v1 v2 v3 v4 v5 v6, w.cell? ⟨ba, oa + j * 7, none⟩ = some v0 ∧ w.cell? ⟨ba, oa + j * 7 + 1, none⟩ = some v1 ∧ w.cell? ⟨ba, oa + j * 7 + 2, none⟩ = some v2 ∧ w.cell? ⟨ba, oa + j * 7 + 3, none⟩ = some v3 ∧ w.cell? ⟨ba, oa + j * 7 + 4, none⟩ = some v4 ∧ w.cell? ⟨ba, oa + j * 7 + 5, none⟩ = some v5 ∧ w.cell? ⟨ba, oa + j * 7 + 6, none⟩ = some v6 ∧ ExIn w lo (.agg #[v0, v1, v2, v3, v4, v5, v6]) [x, y, z][j]) := exsIn_at w lo ba [x, y, z] oa hE
  obtain ⟨u0, u1, u2, u3, u4, u5, u6, u7, u8, e0, e1, e2, e3, e4, e5, e6, hy⟩ := part_at PA.out b1 hbl 0 (by simp)
  simp only [Nat.zero_mul, Nat.add_zero, List.getElem_cons_zero] at e0 e1 e2 e3 e4 e5 e6 hy
  rw [cmP_op h1 h2] at hR
  simp only [List.map_cons, List.map_nil] at hR
  obtain ⟨tf, kf, sf, ef, hf⟩ : ∃ tf kf sf ef, cmP zs rs x = ((tf, kf, sf), ef) := ⟨_, _, _, _, rfl⟩
  have cX := ihx lo _ ((w.alloc (.cells #[.string op, .string nm, .int .i64 vt, .int .i64 vn, .string vs, .slice (some ⟨ba, oa, none⟩) 3 ca, .int .i64 pos] 26)).alloc (.cells #[.int .i64 0, .int .i64 0, .string ⟨#[]⟩] 23)) tf kf sf ef (hy.on b1) (hc.on b1) (hr.on b1) hf
  rw [hf] at hcx hR
  have HCO : Aside (ColsIn w b off zs) := hc
  have HRO : Aside (RowAt w rb ro rs) := hr
  have q1 : (op.toList == [118, 97, 108]) = false := by rw [Lib.toList_data]; simpa using h1
  have q2 : (op.toList == [99, 111, 108]) = false := by rw [Lib.toList_data]; simpa using h2
  have hblr : ba < ((w.alloc (.cells #[.string op, .string nm, .int .i64 vt, .int .i64 vn, .string vs, .slice (some ⟨ba, oa, none⟩) 3 ca, .int .i64 pos] 26)).alloc (.cells #[.int .i64 0, .int .i64 0, .string ⟨#[]⟩] 23)).heap.size := by simp; omega
  clear hc hr hE hy hf h1 h2 box
  rcases hcx with ⟨h0, hok⟩ | h9
  · simp only at h0
    subst h0
    rw [combP, if_neg (by simp)] at hR
    have hsf : sf.size ≤ 40 := by
      have := chk_size hok.2.1
      simpa using this
    have q5 : (op.toList == [105, 102]) = true := by rw [Lib.toList_data]; simpa using h5
    have h3 : op.data.toList ≠ [97, 110, 100] := by rw [h5]; decide
    have h4 : op.data.toList ≠ [111, 114] := by rw [h5]; decide
    rw [if_neg (by simp [h3, h4]), if_pos h5] at hR
    have h01 : kf = 0 ∨ kf = 1 := by
      have h := hok.2.1
      rw [hok.1, hbl2] at h
      exact (chk_two h).1
    clear h3 h4 h5
    rcases h01 with rfl | rfl
    · rw [if_neg (show ¬ isY (tf, 0, sf) = true by simp [isY])] at hR
      replace hR : cmP zs rs z = ((t, k, s), e) := hR
      go_enter Tryz.func23, Tryz.ntmps23
      go_wp2_with fail
      refine cX.mono ?_
      rintro e' w1 ⟨rfl, b2⟩
      have hz1 : w.heap.size + 2 ≤ w1.heap.size := by have := b2.size; simp at this; omega
      have B2 : Aside (Below (w.heap.size + 2) ((w.alloc (.cells #[.string op, .string nm, .int .i64 vt, .int .i64 vn, .string vs, .slice (some ⟨ba, oa, none⟩) 3 ca, .int .i64 pos] 26)).alloc (.cells #[.int .i64 0, .int .i64 0, .string ⟨#[]⟩] 23)) (w1.alloc (.cells #[.int .i64 tf, .int .i64 0, .string sf] 23))) := (b2.mono (by simp)).alloc hz1 _
      obtain ⟨_, ⟨f0, f1, f2, ff⟩, hl, b9⟩ := BOX.out _ B2.out
      obtain ⟨hB, ⟨r0, r1, r2, rf⟩, _, b9w⟩ := BOX.out w1 (b2.mono (by simp))
      have g0 : w1.cell? ⟨w.heap.size, 0, none⟩ = some (.string op) := hB 0
      have g5 : w1.cell? ⟨w.heap.size, 5, none⟩ = some (.slice (some ⟨ba, oa, none⟩) 3 ca) := hB 5
      have hl0 : w.heap.size < w1.heap.size := by omega
      have hl1 : w.heap.size + 1 < w1.heap.size := by omega
      clear cX hB b2 e0 e1 e2 e3 e4 e5 e6
      have hbr : ba < w1.heap.size := by have := b9w.size; omega
      obtain ⟨u0, u1, u2, u3, u4, u5, u6, u7, u8, c0, c1, c2, c3, c4, c5, c6, hy⟩ := part_at PA.out b9w hbl 2 (by simp)
      simp only [List.getElem_cons_succ, List.getElem_cons_zero] at c0 c1 c2 c3 c4 c5 c6 hy
      have cY := ihz lo _ (w1.alloc (.cells #[.int .i64 tf, .int .i64 0, .string sf] 23)) t k s e (hy.on b9) (HCO.out.on b9) (HRO.out.on b9) hR
      clear hy PA HCO HRO f0 f1 f2 ff r0 r1 r2 rf
      go_wp2_with fail
      refine cY.mono ?_
      rintro e' w4 ⟨rfl, b4⟩
      obtain ⟨_, ⟨f0, f1, f2, ff⟩, hl5, b8⟩ := BOX.out _ (B2.out.trans (b4.mono hl))
      have hl6 : w.heap.size + 1 < w4.heap.size := by omega
      clear cY b4
      go_wp2
      refine bodyPost_ret (v := .tuple #[.agg #[.int .i64 t, .int .i64 k, .string s], .int .i64 e]) (by simp [results, Tryz.results23, go_sem, World.cell?_setCell_other, World.cell?_setCell_same, f0, f1, f2]) rfl ⟨rfl, ?_⟩
      exact below3 b8 (by omega) _ _ _
    · rw [if_pos (show isY (tf, 1, sf) = true from rfl)] at hR
      replace hR : cmP zs rs y = ((t, k, s), e) := hR
      go_enter Tryz.func23, Tryz.ntmps23
      go_wp2_with fail
      refine cX.mono ?_
      rintro e' w1 ⟨rfl, b2⟩
      have hz1 : w.heap.size + 2 ≤ w1.heap.size := by have := b2.size; simp at this; omega
      have B2 : Aside (Below (w.heap.size + 2) ((w.alloc (.cells #[.string op, .string nm, .int .i64 vt, .int .i64 vn, .string vs, .slice (some ⟨ba, oa, none⟩) 3 ca, .int .i64 pos] 26)).alloc (.cells #[.int .i64 0, .int .i64 0, .string ⟨#[]⟩] 23)) (w1.alloc (.cells #[.int .i64 tf, .int .i64 1, .string sf] 23))) := (b2.mono (by simp)).alloc hz1 _
      obtain ⟨_, ⟨f0, f1, f2, ff⟩, hl, b9⟩ := BOX.out _ B2.out
      obtain ⟨hB, ⟨r0, r1, r2, rf⟩, _, b9w⟩ := BOX.out w1 (b2.mono (by simp))
      have g0 : w1.cell? ⟨w.heap.size, 0, none⟩ = some (.string op) := hB 0
      have g5 : w1.cell? ⟨w.heap.size, 5, none⟩ = some (.slice (some ⟨ba, oa, none⟩) 3 ca) := hB 5
      have hl0 : w.heap.size < w1.heap.size := by omega
      have hl1 : w.heap.size + 1 < w1.heap.size := by omega
      clear cX hB b2 e0 e1 e2 e3 e4 e5 e6
      have hbr : ba < w1.heap.size := by have := b9w.size; omega
      obtain ⟨u0, u1, u2, u3, u4, u5, u6, u7, u8, c0, c1, c2, c3, c4, c5, c6, hy⟩ := part_at PA.out b9w hbl 1 (by simp)
      simp only [Nat.one_mul, List.getElem_cons_succ, List.getElem_cons_zero] at c0 c1 c2 c3 c4 c5 c6 hy
      have cY := ihy lo _ (w1.alloc (.cells #[.int .i64 tf, .int .i64 1, .string sf] 23)) t k s e (hy.on b9) (HCO.out.on b9) (HRO.out.on b9) hR
      clear hy PA HCO HRO f0 f1 f2 ff r0 r1 r2 rf
      go_wp2_with fail
      refine cY.mono ?_
      rintro e' w4 ⟨rfl, b4⟩
      obtain ⟨_, ⟨f0, f1, f2, ff⟩, hl5, b8⟩ := BOX.out _ (B2.out.trans (b4.mono hl))
      have hl6 : w.heap.size + 1 < w4.heap.size := by omega
      clear cY b4
      go_wp2
      refine bodyPost_ret (v := .tuple #[.agg #[.int .i64 t, .int .i64 k, .string s], .int .i64 e]) (by simp [results, Tryz.results23, go_sem, World.cell?_setCell_other, World.cell?_setCell_same, f0, f1, f2]) rfl ⟨rfl, ?_⟩
      exact below3 b8 (by omega) _ _ _
  · simp only [noV, Prod.mk.injEq] at h9
    obtain ⟨⟨rfl, rfl, rfl⟩, rfl⟩ := h9
    rw [combP, if_pos (by decide)] at hR
    simp only [noV, Prod.mk.injEq] at hR
    obtain ⟨⟨rfl, rfl, rfl⟩, rfl⟩ := hR
    clear PA HCO HRO b1
    go_enter Tryz.func23, Tryz.ntmps23
    go_wp2_with fail
    refine cX.mono ?_
    rintro e w1 ⟨rfl, b2⟩
    obtain ⟨_, ⟨r0, r1, r2, rf⟩, hl, b9⟩ := BOX.out w1 (b2.mono (by simp))
    have hl0 : w.heap.size + 1 < w1.heap.size := by have := b2.size; simp at this; omega
    clear cX BOX b2 e0 e1 e2 e3 e4 e5 e6
    go_wp2
    obtain ⟨s0, s1, s2⟩ := res3 r0 r1 r2 hl0 (.int .i64 0) (.int .i64 0) (.string ⟨#[]⟩) (.cells #[.int .i64 0, .int .i64 0, .string ⟨#[]⟩] 23)
    refine bodyPost_ret (v := .tuple #[.agg #[.int .i64 0, .int .i64 0, .string ⟨#[]⟩], .int .i64 9]) (by simp [results, Tryz.results23, go_sem, s0, s1, s2]) rfl ⟨rfl, ?_⟩
    exact (below3 b9 (by omega) _ _ _).alloc (by simp [World.setCell]; omega) _
theorem bool_form : ∀ r ∈ kdRules, (r.1 = [97, 110, 100] ∨ r.1 = [105, 102] → r.2.1 = 2) := by decide
theorem refEval_any {zs : List (ByteArray × Int)} {b off c rb ro rc : Nat} {rs : List V3} (hn : zs.length ≤ 6) (hrow : RowR zs rs) : ∀ (x : Ex) (d : Nat), (∀ q ∈ x.pre d, nodeE q.1 = 0) → (∀ q ∈ x.pre d, inB q.1.vn) → (tyP zs x).2.1 = 0 → EvAt zs b off c rb ro rc rs x := by
  refine Ex.ind fun op nm vt vn vs pos l ih d hpre hin ht => ?_
  by_cases hleaf : op.data.toList = [118, 97, 108] ∨ op.data.toList = [99, 111, 108]
  · exact ev_leaf zs b off c rb ro rc rs hn hrow op nm vs vt vn pos l ht hleaf
  · have h1 : op.data.toList ≠ [118, 97, 108] := fun h => hleaf (.inl h)
    have h2 : op.data.toList ≠ [99, 111, 108] := fun h => hleaf (.inr h)
    rw [tyP_op h1 h2] at ht
    by_cases ht0 : (tysP zs l).2.1 = 0
    · rw [if_neg (fun hh => hh ht0)] at ht
      obtain ⟨hm, hall⟩ := tysP_ok ht0
      by_cases hr0 : (ruleP op.data.toList (tysP zs l).1).2 = 0
      · have hsub : ∀ y ∈ l, ∀ q ∈ y.pre (d + 1), q ∈ (Ex.node op nm vt vn vs pos l).pre d := fun y hy q hq => by
          rw [Ex.pre]; exact List.mem_cons_of_mem _ (pres_mem hy q hq)
        have hI : ∀ y ∈ l, EvAt zs b off c rb ro rc rs y := fun y hy => ih y hy (d + 1) (fun q hq => hpre q (hsub y hy q hq)) (fun q hq => hin q (hsub y hy q hq)) (hall y hy)
        have hC : ∀ y ∈ l, comes (tyP zs y).1 (cmP zs rs y) := fun y hy => cm_comes hrow y (d + 1) (fun q hq => hpre q (hsub y hy q hq)) (fun q hq => hin q (hsub y hy q hq)) (hall y hy)
        rw [hm] at hr0
        have hrl : ruleP op.data.toList (l.map fun y => (tyP zs y).1) = ((ruleP op.data.toList (l.map fun y => (tyP zs y).1)).1, 0) := Prod.ext rfl hr0
        obtain ⟨r, hf, hlen, hka, _⟩ := ruleP_in hrl
        rw [List.length_map] at hlen
        obtain ⟨hmem, he⟩ := kdFind_mem hf
        obtain ⟨f3, f1, f2⟩ := rules_form r hmem
        obtain ⟨c1, c3⟩ := kdCnt_ok r hmem
        have hbo := bool_form r hmem
        rw [he] at f1 f2 f3 hbo
        match l, hlen, hI, hC, hrl, hka with
        | [], hlen, _, _, _, _ => simp at hlen; omega
        | [x], hlen, hI, hC, hrl, _ =>
          obtain ⟨g1, g2, g3⟩ := f1 hlen.symm
          exact ev_1 zs b off c rb ro rc rs op nm vs vt vn pos x h1 h2 g1 g2 g3 (hI x (by simp)) _ (hC x (by simp)) _ hrl
        | [x, y], hlen, hI, hC, hrl, hka =>
          refine ev_2 zs b off c rb ro rc rs op nm vs vt vn pos x y h1 h2 (f2 hlen.symm) (hI x (by simp)) _ (hC x (by simp)) (hI y (by simp)) _ (hC y (by simp)) _ hrl (fun h3 => ?_)
          have h2b := hbo (.inl h3)
          simp [kdAll, kdMeant, h2b] at hka
          exact hka.1
        | [x, y, z], hlen, hI, hC, hrl, hka =>
          have h5 := f3 hlen.symm
          refine ev_3 zs b off c rb ro rc rs op nm vs vt vn pos x y z h1 h2 h5 (hI x (by simp)) _ (hC x (by simp)) (hI y (by simp)) _ (hC y (by simp)) (hI z (by simp)) _ (hC z (by simp)) ?_
          have h2b := hbo (.inr h5)
          simp [kdAll, kdMeant, h2b] at hka
          exact hka.1
        | _ :: _ :: _ :: _ :: _, hlen, _, _, _, _ => simp at hlen; omega
      · rw [if_pos hr0] at ht
        exact absurd ht hr0
    · rw [if_pos ht0] at ht
      exact absurd ht ht0
end Go.Proofs.YtpgadbpkednjkaaGreatDoor
