/-
  What an expression of one part comes to: package eval's come.
-/
import Derived.Test.YticdcnbeemkapaaGreatDoorQEvCm
namespace Go.Proofs.YticdcnbeemkapaaGreatDoor
open Go.RowKit Go.BigFrame
set_option linter.unusedVariables false

set_option maxHeartbeats 8000000 in
set_option maxRecDepth 20000 in
theorem come_1 (zs : List (ByteArray × Int)) (b off c rb ro rc : Nat) (rs : List V3) (op nm vs : ByteArray) (vt vn pos : Int) (x : Ex) (h1 : op.data.toList ≠ [118, 97, 108]) (h2 : op.data.toList ≠ [99, 111, 108]) (h3 : op.data.toList ≠ [97, 110, 100]) (h4 : op.data.toList ≠ [111, 114]) (h5 : op.data.toList ≠ [105, 102]) (ihx : ComeAt zs b off c rb ro rc rs x) (Tx : Int) (hcx : comes Tx (cmP zs rs x)) : ComeAt zs b off c rb ro rc rs (.node op nm vt vn vs pos [x] : Ex) := by
  intro lo v w t k s e henv hx hc hr hR
  rw [ExIn] at hx
  obtain ⟨p, ca, rfl, ⟨hm, hmc⟩, ho, hnm, hvs, hparts⟩ := hx
  rcases hparts with h | ⟨ba, oa, rfl, hbl, hlo, hE⟩
  · exact absurd h (by simp)
  have hlen : [x].length = 1 := rfl
  rw [hlen] at hm hmc ⊢
  obtain ⟨b1, box⟩ := come_box w #[.string op, .string nm, .int .i64 vt, .int .i64 vn, .string vs, .slice (some ⟨ba, oa, none⟩) 1 ca, .int .i64 pos]
  have BOX : Hid (∀ wr, Below (w.heap.size + 2) ((w.alloc (.cells #[.string op, .string nm, .int .i64 vt, .int .i64 vn, .string vs, .slice (some ⟨ba, oa, none⟩) 1 ca, .int .i64 pos] 26)).alloc (.cells #[.int .i64 0, .int .i64 0, .string ⟨#[]⟩] 23)) wr → (∀ i, wr.cell? ⟨w.heap.size, i, none⟩ = (#[.string op, .string nm, .int .i64 vt, .int .i64 vn, .string vs, .slice (some ⟨ba, oa, none⟩) 1 ca, .int .i64 pos] : Array Value)[i]?) ∧ (wr.cell? ⟨w.heap.size + 1, 0, none⟩ = some (.int .i64 0) ∧ wr.cell? ⟨w.heap.size + 1, 1, none⟩ = some (.int .i64 0) ∧ wr.cell? ⟨w.heap.size + 1, 2, none⟩ = some (.string ⟨#[]⟩) ∧ (∀ o, wr.frozen? ⟨w.heap.size + 1, o, none⟩ = false)) ∧ w.heap.size + 2 ≤ wr.heap.size ∧ Below w.heap.size w wr) := box
  have PA : Aside (∀ j (h : j < [x].length), ∃ v0 v1 v2 v3 v4 v5 v6, w.cell? ⟨ba, oa + j * 7, none⟩ = some v0 ∧ w.cell? ⟨ba, oa + j * 7 + 1, none⟩ = some v1 ∧ w.cell? ⟨ba, oa + j * 7 + 2, none⟩ = some v2 ∧ w.cell? ⟨ba, oa + j * 7 + 3, none⟩ = some v3 ∧ w.cell? ⟨ba, oa + j * 7 + 4, none⟩ = some v4 ∧ w.cell? ⟨ba, oa + j * 7 + 5, none⟩ = some v5 ∧ w.cell? ⟨ba, oa + j * 7 + 6, none⟩ = some v6 ∧ ExIn w lo (.agg #[v0, v1, v2, v3, v4, v5, v6]) [x][j]) := exsIn_at w lo ba [x] oa hE
  obtain ⟨u0, u1, u2, u3, u4, u5, u6, u7, u8, e0, e1, e2, e3, e4, e5, e6, hy⟩ := part_at PA.out b1 hbl 0 (by simp)
  simp only [Nat.zero_mul, Nat.add_zero, List.getElem_cons_zero] at e0 e1 e2 e3 e4 e5 e6 hy
  rw [cmP_op h1 h2] at hR
  simp only [List.map_cons, List.map_nil] at hR
  obtain ⟨tf, kf, sf, ef, hf⟩ : ∃ tf kf sf ef, cmP zs rs x = ((tf, kf, sf), ef) := ⟨_, _, _, _, rfl⟩
  have cX := ihx lo _ ((w.alloc (.cells #[.string op, .string nm, .int .i64 vt, .int .i64 vn, .string vs, .slice (some ⟨ba, oa, none⟩) 1 ca, .int .i64 pos] 26)).alloc (.cells #[.int .i64 0, .int .i64 0, .string ⟨#[]⟩] 23)) tf kf sf ef (henv.on b1) (hy.on b1) (hc.on b1) (hr.on b1) hf
  rw [hf] at hcx hR
  have HEN : Aside (REnv w) := henv
  have HCO : Aside (ColsIn w b off zs) := hc
  have HRO : Aside (RowAt w rb ro rs) := hr
  have q1 : (op.toList == [118, 97, 108]) = false := by rw [Lib.toList_data]; simpa using h1
  have q2 : (op.toList == [99, 111, 108]) = false := by rw [Lib.toList_data]; simpa using h2
  have hblr : ba < ((w.alloc (.cells #[.string op, .string nm, .int .i64 vt, .int .i64 vn, .string vs, .slice (some ⟨ba, oa, none⟩) 1 ca, .int .i64 pos] 26)).alloc (.cells #[.int .i64 0, .int .i64 0, .string ⟨#[]⟩] 23)).heap.size := by simp; omega
  clear henv hc hr hE hy hf h1 h2 box
  rcases hcx with ⟨h0, hok⟩ | h9
  · simp only at h0
    subst h0
    rw [combP, if_neg (by simp)] at hR
    rw [show errV 0 = .nilIface from rfl] at cX
    have hsf : sf.size ≤ 40 := by
      have := chk_size hok.2.1
      simpa using this
    rw [if_neg (by simp [h3, h4]), if_neg h5, if_neg (by simp [firstE])] at hR
    have q3 : (op.toList == [97, 110, 100]) = false := by rw [Lib.toList_data]; simpa using h3
    have q4 : (op.toList == [111, 114]) = false := by rw [Lib.toList_data]; simpa using h4
    have q5 : (op.toList == [105, 102]) = false := by rw [Lib.toList_data]; simpa using h5
    have HD : Hid (doP op.data.toList [(tf, kf, sf)] = ((t, k, s), e)) := hR
    clear h3 h4 h5 hR b1
    go_enter Tryz.func19, Tryz.ntmps19
    go_wp2_with fail
    refine cX.mono ?_
    rintro e' w1 ⟨rfl, b2⟩
    have B2 : Aside (Below (w.heap.size + 2) ((w.alloc (.cells #[.string op, .string nm, .int .i64 vt, .int .i64 vn, .string vs, .slice (some ⟨ba, oa, none⟩) 1 ca, .int .i64 pos] 26)).alloc (.cells #[.int .i64 0, .int .i64 0, .string ⟨#[]⟩] 23)) w1) := b2.mono (by simp)
    obtain ⟨hB, ⟨f0, f1, f2, ff⟩, hl, b9⟩ := BOX.out w1 B2.out
    have g0 : w1.cell? ⟨w.heap.size, 0, none⟩ = some (.string op) := hB 0
    have g5 : w1.cell? ⟨w.heap.size, 5, none⟩ = some (.slice (some ⟨ba, oa, none⟩) 1 ca) := hB 5
    have hl0 : w.heap.size < w1.heap.size := by omega
    have hl1 : w.heap.size + 1 < w1.heap.size := by omega
    clear cX hB b2 e0 e1 e2 e3 e4 e5 e6
    have hca2 : ca = 1 ∨ ¬ ca = 1 := Decidable.em _
    have hl2 : w1.heap.size < (w1.alloc (.cells #[.int .i64 tf, .int .i64 kf, .string sf] 23)).heap.size := by simp
    have B4 : Below (w.heap.size + 2) ((w.alloc (.cells #[.string op, .string nm, .int .i64 vt, .int .i64 vn, .string vs, .slice (some ⟨ba, oa, none⟩) 1 ca, .int .i64 pos] 26)).alloc (.cells #[.int .i64 0, .int .i64 0, .string ⟨#[]⟩] 23)) ((w1.alloc (.cells #[.int .i64 tf, .int .i64 kf, .string sf] 23)).alloc (.cells #[.int .i64 tf, .int .i64 kf, .string sf] 23)) := (B2.out.alloc (by omega) _).alloc (by simp; omega) _
    have hva : ValsAt ((w1.alloc (.cells #[.int .i64 tf, .int .i64 kf, .string sf] 23)).alloc (.cells #[.int .i64 tf, .int .i64 kf, .string sf] 23)) (some ⟨w1.heap.size + 1, 0, none⟩) [(tf, kf, sf)] := .inr ⟨_, _, rfl, by simp, fun j hj => by
      obtain rfl : j = 0 := by simpa using hj
      exact ⟨by rw [World.cell?_alloc_at _ _ _ _ (by simp)]; rfl, by rw [World.cell?_alloc_at _ _ _ _ (by simp)]; rfl, by rw [World.cell?_alloc_at _ _ _ _ (by simp)]; rfl⟩⟩
    have cD := do_any op (some ⟨w1.heap.size + 1, 0, none⟩) 1 1 [(tf, kf, sf)] ((w1.alloc (.cells #[.int .i64 tf, .int .i64 kf, .string sf] 23)).alloc (.cells #[.int .i64 tf, .int .i64 kf, .string sf] 23)) (HEN.out.on (BOX.out _ B4).2.2.2) rfl (by decide) hva (fun v hv => by
      obtain rfl := List.mem_singleton.1 hv
      exact ⟨by unfold maxLen; simp only; omega, hok.2.2⟩) t k s e HD.out
    have hB4 := (BOX.out _ B4).1
    have m0 : ((w1.alloc (.cells #[.int .i64 tf, .int .i64 kf, .string sf] 23)).alloc (.cells #[.int .i64 tf, .int .i64 kf, .string sf] 23)).cell? ⟨w.heap.size, 0, none⟩ = some (.string op) := hB4 0
    have BB : Aside (Below (w.heap.size + 2) ((w.alloc (.cells #[.string op, .string nm, .int .i64 vt, .int .i64 vn, .string vs, .slice (some ⟨ba, oa, none⟩) 1 ca, .int .i64 pos] 26)).alloc (.cells #[.int .i64 0, .int .i64 0, .string ⟨#[]⟩] 23)) ((w1.alloc (.cells #[.int .i64 tf, .int .i64 kf, .string sf] 23)).alloc (.cells #[.int .i64 tf, .int .i64 kf, .string sf] 23))) := B4
    clear hva hB4 B4 hok hsf HD PA HCO HRO HEN
    rcases hca2 with rfl | hca
    all_goals
      go_wp2
      go_loopg [10, 12, 13, 14, 82] 0 (fun gg s10 _ _ _ s82 wr => s82 = .int .i64 0 ∧ s10 = .slice (some ⟨w1.heap.size + 1, 0, none⟩) 1 1 ∧ Aside (wr = ((w1.alloc (.cells #[.int .i64 tf, .int .i64 kf, .string sf] 23)).alloc (.cells #[.int .i64 tf, .int .i64 kf, .string sf] 23))))
      case atStart => exact ⟨rfl, rfl, rfl⟩
      case round =>
        obtain ⟨rfl, rfl, hwr⟩ := hrel
        obtain rfl := hwr.out
        go_wp2_with fail
        refine cD.mono ?_
        rintro e w5 ⟨rfl, b5⟩
        obtain ⟨_, ⟨f0, f1, f2, ff⟩, hl5, b9⟩ := BOX.out w5 (BB.out.trans (b5.mono (by simp; omega)))
        have hl6 : w.heap.size + 1 < w5.heap.size := by omega
        clear cD b5
        go_wp2
        refine bodyPost_ret (v := .tuple #[.agg #[.int .i64 t, .int .i64 k, .string s], errV e]) (by simp [results, Tryz.results19, go_sem, World.cell?_setCell_other, World.cell?_setCell_same, f0, f1, f2]) rfl ⟨rfl, ?_⟩
        exact below3 b9 (by omega) _ _ _
  · simp only [noV, Prod.mk.injEq] at h9
    obtain ⟨⟨rfl, rfl, rfl⟩, rfl⟩ := h9
    rw [combP, if_pos (by decide)] at hR
    simp only [noV, Prod.mk.injEq] at hR
    obtain ⟨⟨rfl, rfl, rfl⟩, rfl⟩ := hR
    rw [show errV 9 = .iface 42 (.int .i64 9) from rfl] at cX ⊢
    clear PA HEN HCO HRO b1
    go_enter Tryz.func19, Tryz.ntmps19
    go_wp2_with fail
    refine cX.mono ?_
    rintro e w1 ⟨rfl, b2⟩
    obtain ⟨_, ⟨f0, f1, f2, ff⟩, hl, b9⟩ := BOX.out w1 (b2.mono (by simp))
    have hl1 : w.heap.size + 1 < w1.heap.size := by omega
    clear cX BOX b2 e0 e1 e2 e3 e4 e5 e6
    go_wp2
    obtain ⟨r0, r1, r2⟩ := res3 f0 f1 f2 hl1 (.int .i64 0) (.int .i64 0) (.string ⟨#[]⟩) (.cells #[.int .i64 0, .int .i64 0, .string ⟨#[]⟩] 23)
    refine bodyPost_ret (v := .tuple #[.agg #[.int .i64 0, .int .i64 0, .string ⟨#[]⟩], .iface 42 (.int .i64 9)]) (by simp [results, Tryz.results19, go_sem, r0, r1, r2]) rfl ⟨rfl, ?_⟩
    exact (below3 b9 (by omega) _ _ _).alloc (by simp [World.setCell]; omega) _
end Go.Proofs.YticdcnbeemkapaaGreatDoor
