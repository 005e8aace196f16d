/-
  The walk of sluicelaw4.EvalSwaps, for every two values.
-/
import Derived.Test.YtomakklbfjkdpabDoorEvDo
import Derived.Test.YtomakklbfjkdpabDoorEvSw
import Derived.Deep.RegionHeld3
import Derived.BigRegion
import Derived.Deep.QuietTactic
import Derived.BigQuiet
import Derived.Deep.CutRange
namespace Go.Proofs.YtomakklbfjkdpabDoor
open Go.RowKit Go.BigFrame
set_option linter.unusedVariables false

def opsA : Array Value := #[.string ⟨#[43]⟩, .string ⟨#[42]⟩, .string ⟨#[61]⟩, .string ⟨#[60, 62]⟩, .string ⟨#[60]⟩, .string ⟨#[60, 61]⟩]
def opsB : Array Value := #[.string ⟨#[43]⟩, .string ⟨#[42]⟩, .string ⟨#[61]⟩, .string ⟨#[60, 62]⟩, .string ⟨#[62]⟩, .string ⟨#[62, 61]⟩]
theorem ops_at (k : Nat) (h : k < 6) : ∃ p q : ByteArray, opsA[k]? = some (.string p) ∧ opsB[k]? = some (.string q) ∧ (p.data.toList, q.data.toList) ∈ swOps := by
  have : k = 0 ∨ k = 1 ∨ k = 2 ∨ k = 3 ∨ k = 4 ∨ k = 5 := by omega
  rcases this with rfl | rfl | rfl | rfl | rfl | rfl
  · exact ⟨⟨#[43]⟩, ⟨#[43]⟩, rfl, rfl, by decide⟩
  · exact ⟨⟨#[42]⟩, ⟨#[42]⟩, rfl, rfl, by decide⟩
  · exact ⟨⟨#[61]⟩, ⟨#[61]⟩, rfl, rfl, by decide⟩
  · exact ⟨⟨#[60, 62]⟩, ⟨#[60, 62]⟩, rfl, rfl, by decide⟩
  · exact ⟨⟨#[60]⟩, ⟨#[62]⟩, rfl, rfl, by decide⟩
  · exact ⟨⟨#[60, 61]⟩, ⟨#[62, 61]⟩, rfl, rfl, by decide⟩
theorem do_len : doP [108, 101, 110] [(3, 0, ⟨#[97, 98, 99]⟩)] = ((1, 3, ⟨#[]⟩), 0) := by decide
/-- Two values in a block. -/
theorem two_at {W : World} {g : Nat} {a b : V3} (hg : g < W.heap.size) (hc : ∀ i, W.cell? ⟨g, i, none⟩ = (#[.int .i64 a.1, .int .i64 a.2.1, .string a.2.2, .int .i64 b.1, .int .i64 b.2.1, .string b.2.2] : Array Value)[i]?) : ValsAt W (some ⟨g, 0, none⟩) [a, b] := .inr ⟨_, _, rfl, hg, fun j hj => by
  have : j = 0 ∨ j = 1 := by simp at hj; omega
  rcases this with rfl | rfl
  · exact ⟨hc 0, hc 1, hc 2⟩
  · exact ⟨hc 3, hc 4, hc 5⟩⟩
theorem cell?_drew (w : World) (p : Addr) : w.drew.cell? p = w.cell? p := rfl
theorem frozen?_drew (w : World) (p : Addr) : w.drew.frozen? p = w.frozen? p := rfl
/-- Do of two values that lie in a block. -/
theorem do_two (op : ByteArray) (a b : V3) (X : World) (henv : REnv X) (ha : a.2.2.size ≤ maxLen ∧ inB a.2.1) (hb : b.2.2.size ≤ maxLen ∧ inB b.2.1) (T K : Int) (S : ByteArray) (E : Int) (hR : doP op.data.toList [a, b] = ((T, K, S), E)) (Kp : World → Prop) (hKp : ∀ w', Below X.heap.size X w' → Kp w') (W : World) (g : Nat) (hg : g < W.heap.size) (hc : ∀ i, W.cell? ⟨g, i, none⟩ = (#[.int .i64 a.1, .int .i64 a.2.1, .string a.2.2, .int .i64 b.1, .int .i64 b.2.1, .string b.2.2] : Array Value)[i]?) (hX : Below X.heap.size X W) :
    Calls Tryd.prog 10 #[.string op, .slice (some ⟨g, 0, none⟩) 2 2] W fun e w' => e = .returned (.tuple #[.agg #[.int .i64 T, .int .i64 K, .string S], errV E]) ∧ Aside (Below W.heap.size W w') ∧ Aside (Below X.heap.size X w') ∧ Kp w' := by
  refine (do_any op (some ⟨g, 0, none⟩) 2 2 [a, b] W (henv.on hX) rfl (by decide) (two_at hg hc) (fun v hv => ?_) T K S E hR).mono fun e w' h => ⟨h.1, h.2, hX.trans (h.2.mono hX.size), hKp _ (hX.trans (h.2.mono hX.size))⟩
  rcases List.mem_cons.1 hv with rfl | hv
  · exact ha
  · obtain rfl := List.mem_singleton.1 hv
    exact hb
set_option maxHeartbeats 8000000 in
set_option maxRecDepth 20000 in
theorem swaps_any (ta na : Int) (sa : ByteArray) (tb nb : Int) (sb : ByteArray) (w : World) (henv : REnv w) (ha : sa.size ≤ maxLen ∧ inB na) (hb : sb.size ≤ maxLen ∧ inB nb) :
    Calls Tryd.prog 4 #[.agg #[.int .i64 ta, .int .i64 na, .string sa], .agg #[.int .i64 tb, .int .i64 nb, .string sb]] w fun e w' => e = .returned (.bool true) ∧ Below w.heap.size w w' := by
  have b0 : Below w.heap.size w ((w.alloc (.cells #[.int .i64 ta, .int .i64 na, .string sa] 23)).alloc (.cells #[.int .i64 tb, .int .i64 nb, .string sb] 23)) := ((Below.refl _ w).alloc (Nat.le_refl _) _).alloc (by simp) _
  have b1 := b0.alloc (by simp; omega) (.cells #[.int .i64 3, .int .i64 0, .string ⟨#[97, 98, 99]⟩] 23)
  have cL := do_any ⟨#[108, 101, 110]⟩ (some ⟨w.heap.size + 1 + 1, 0, none⟩) 1 1 [(3, 0, ⟨#[97, 98, 99]⟩)] (((w.alloc (.cells #[.int .i64 ta, .int .i64 na, .string sa] 23)).alloc (.cells #[.int .i64 tb, .int .i64 nb, .string sb] 23)).alloc (.cells #[.int .i64 3, .int .i64 0, .string ⟨#[97, 98, 99]⟩] 23)) (henv.on b1) rfl (by decide) (.inr ⟨_, _, rfl, by simp, fun j hj => by
    obtain rfl : j = 0 := by simpa using hj
    exact ⟨by rw [World.cell?_alloc_at _ _ _ _ (by simp)]; rfl, by rw [World.cell?_alloc_at _ _ _ _ (by simp)]; rfl, by rw [World.cell?_alloc_at _ _ _ _ (by simp)]; rfl⟩⟩) (fun v hv => by
    obtain rfl := List.mem_singleton.1 hv
    exact ⟨by decide, by unfold inB; decide⟩) 1 3 ⟨#[]⟩ 0 do_len
  rw [show errV 0 = .nilIface from rfl] at cL
  have HEN : Aside (REnv w) := henv
  clear henv
  go_enter Tryd.func4, Tryd.ntmps4
  go_wp2_with fail
  refine cL.mono ?_
  rintro e w1 ⟨rfl, b2⟩
  have b3 : Below w.heap.size w w1 := b1.trans (b2.mono b1.size)
  have B2 : Below (w.heap.size + 2) ((w.alloc (.cells #[.int .i64 ta, .int .i64 na, .string sa] 23)).alloc (.cells #[.int .i64 tb, .int .i64 nb, .string sb] 23)) w1 := ((Below.refl _ _).alloc (by simp) _).trans (b2.mono (by simp))
  have hw1 : w.heap.size + 3 ≤ w1.heap.size := by have := b2.size; simp at this; omega
  clear cL b2 b1
  have hA0 : ∀ i, w1.cell? ⟨w.heap.size, i, none⟩ = (#[.int .i64 ta, .int .i64 na, .string sa] : Array Value)[i]? := fun i => by rw [B2.cell (p := ⟨w.heap.size, i, none⟩) (by simp), World.cell?_alloc_lt _ _ _ (by simp), World.cell?_alloc_at _ _ _ _ rfl]
  have hB0 : ∀ i, w1.cell? ⟨w.heap.size + 1, i, none⟩ = (#[.int .i64 tb, .int .i64 nb, .string sb] : Array Value)[i]? := fun i => by rw [B2.cell (p := ⟨w.heap.size + 1, i, none⟩) (by simp), World.cell?_alloc_at _ _ _ _ (by simp)]
  have FR : Hid (∀ W, Below (w1.heap.size + 3) (((w1.alloc (.cells #[.int .i64 1, .int .i64 3, .string ⟨#[]⟩] 23)).alloc (.cells opsA 9)).alloc (.cells opsB 9)) W → (∀ i, W.cell? ⟨w.heap.size, i, none⟩ = (#[.int .i64 ta, .int .i64 na, .string sa] : Array Value)[i]?) ∧ (∀ i, W.cell? ⟨w.heap.size + 1, i, none⟩ = (#[.int .i64 tb, .int .i64 nb, .string sb] : Array Value)[i]?) ∧ (∀ i, W.cell? ⟨w1.heap.size + 1, i, none⟩ = opsA[i]?) ∧ (∀ i, W.cell? ⟨w1.heap.size + 2, i, none⟩ = opsB[i]?) ∧ w1.heap.size + 3 ≤ W.heap.size ∧ Below w.heap.size w W) := fun W hb => by
    have hz := hb.size
    simp at hz
    refine ⟨fun i => ?_, fun i => ?_, fun i => ?_, fun i => ?_, by omega, ?_⟩
    · rw [hb.cell (p := ⟨w.heap.size, i, none⟩) (by simp; omega), World.cell?_alloc_lt _ _ _ (by simp; omega), World.cell?_alloc_lt _ _ _ (by simp; omega), World.cell?_alloc_lt _ _ _ (by simp; omega)]; exact hA0 i
    · rw [hb.cell (p := ⟨w.heap.size + 1, i, none⟩) (by simp; omega), World.cell?_alloc_lt _ _ _ (by simp; omega), World.cell?_alloc_lt _ _ _ (by simp; omega), World.cell?_alloc_lt _ _ _ (by simp; omega)]; exact hB0 i
    · rw [hb.cell (p := ⟨w1.heap.size + 1, i, none⟩) (by simp), World.cell?_alloc_lt _ _ _ (by simp), World.cell?_alloc_at _ _ _ _ (by simp)]
    · rw [hb.cell (p := ⟨w1.heap.size + 2, i, none⟩) (by simp), World.cell?_alloc_at _ _ _ _ (by simp)]
    · exact (((b3.alloc (by omega) _).alloc (by simp; omega) _).alloc (by simp; omega) _).trans (hb.mono (by omega))
  clear hA0 hB0
  have hra : Hid (sa.size ≤ maxLen ∧ inB na) := ha
  have hrb : Hid (sb.size ≤ maxLen ∧ inB nb) := hb
  clear ha hb b0 B2
  go_wp2
  go_loopg [9, 10, 11, 12, 13] 6 (fun gg s9 _ _ _ _ wr => ∃ kk : Nat, kk ≤ 6 ∧ 6 - kk ≤ gg ∧ s9 = .int .i64 kk ∧ Aside (Below (w1.heap.size + 3) (((w1.alloc (.cells #[.int .i64 1, .int .i64 3, .string ⟨#[]⟩] 23)).alloc (.cells opsA 9)).alloc (.cells opsB 9)) wr))
  case atStart => exact ⟨0, by decide, by decide, rfl, (show Aside _ from Below.refl _ _)⟩
  case round =>
    obtain ⟨kk, hkk, hg, rfl, BW⟩ := hrel
    obtain ⟨hA, hB, hO, hQ, hzr, bwr⟩ := FR.out wr BW.out
    by_cases hlt : kk < 6
    · have hltz : (kk : Int) < 6 := by omega
      have h0z : (0 : Int) ≤ (kk : Int) := by omega
      obtain ⟨p, q, hp, hq, hm⟩ := ops_at kk hlt
      obtain ⟨T, K, S, E, hd1⟩ : ∃ T K S E, doP p.data.toList [(ta, na, sa), (tb, nb, sb)] = ((T, K, S), E) := ⟨_, _, _, _, rfl⟩
      obtain ⟨T2, K2, S2, E2, hd2⟩ : ∃ T K S E, doP q.data.toList [(tb, nb, sb), (ta, na, sa)] = ((T, K, S), E) := ⟨_, _, _, _, rfl⟩
      have hturn := do_turn hm (ta, na, sa) (tb, nb, sb)
      rw [hd1, hd2] at hturn
      simp only [Prod.mk.injEq] at hturn
      obtain ⟨⟨rfl, rfl, rfl⟩, hEE⟩ := hturn
      have o0 : wr.cell? ⟨w1.heap.size + 1, kk, none⟩ = some (.string p) := by rw [hO]; exact hp
      have x0 : wr.cell? ⟨w.heap.size, 0, none⟩ = some (.int .i64 ta) := hA 0
      have x1 : wr.cell? ⟨w.heap.size, 1, none⟩ = some (.int .i64 na) := hA 1
      have x2 : wr.cell? ⟨w.heap.size, 2, none⟩ = some (.string sa) := hA 2
      have y0 : wr.cell? ⟨w.heap.size + 1, 0, none⟩ = some (.int .i64 tb) := hB 0
      have y1 : wr.cell? ⟨w.heap.size + 1, 1, none⟩ = some (.int .i64 nb) := hB 1
      have y2 : wr.cell? ⟨w.heap.size + 1, 2, none⟩ = some (.string sb) := hB 2
      have z0 : w.heap.size < wr.heap.size := by omega
      have z1 : w.heap.size + 1 < wr.heap.size := by omega
      have z2 : w1.heap.size + 1 < wr.heap.size := by omega
      clear hA hB hO hp hlt
      have HQ : Aside (∀ i, wr.cell? ⟨w1.heap.size + 2, i, none⟩ = opsB[i]?) := hQ
      have HM : Hid (opsB[kk]? = some (.string q)) := hq
      have HD1 : Hid (doP p.data.toList [(ta, na, sa), (tb, nb, sb)] = ((T, K, S), E)) := hd1
      have HD2 : Hid (doP q.data.toList [(tb, nb, sb), (ta, na, sa)] = ((T, K, S), E2)) := hd2
      have HEE : Hid (E = 0 ↔ E2 = 0) := hEE
      have HENr := HEN.out.on bwr
      clear hQ hq hd1 hd2 hEE hm bwr
      go_wp2
      go_cut [10, 11] from 29 to 64 (fun s10 s11 wc => ∃ b10 : Nat, s10 = .pointer (some ⟨b10, 0, none⟩) ∧ s11 = errV E ∧ (wc.cell? ⟨b10, 0, none⟩ = some (.int .i64 T) ∧ wc.cell? ⟨b10, 1, none⟩ = some (.int .i64 K) ∧ wc.cell? ⟨b10, 2, none⟩ = some (.string S)) ∧ b10 < wc.heap.size ∧ Aside (Below wr.heap.size wr wc))
      case first =>
        have na0 : wr.heap.size ≠ w1.heap.size := by omega
        have nb0 : w1.heap.size ≠ wr.heap.size := by omega
        have na1 : wr.heap.size ≠ w1.heap.size + 1 := by omega
        have nb1 : w1.heap.size + 1 ≠ wr.heap.size := by omega
        have na2 : wr.heap.size ≠ w.heap.size := by omega
        have nb2 : w.heap.size ≠ wr.heap.size := by omega
        have ne1 : wr.heap.size ≠ w.heap.size := by omega
        have me1 : w.heap.size ≠ wr.heap.size := by omega
        have ne2 : wr.heap.size + 1 ≠ w.heap.size := by omega
        have me2 : w.heap.size ≠ wr.heap.size + 1 := by omega
        have ne3 : wr.heap.size ≠ w.heap.size + 1 := by omega
        have me3 : w.heap.size + 1 ≠ wr.heap.size := by omega
        have ne4 : wr.heap.size + 1 ≠ w.heap.size + 1 := by omega
        have me4 : w.heap.size + 1 ≠ wr.heap.size + 1 := by omega
        have ne5 : wr.heap.size ≠ w1.heap.size + 1 := by omega
        have me5 : w1.heap.size + 1 ≠ wr.heap.size := by omega
        have ne6 : wr.heap.size + 1 ≠ w1.heap.size + 1 := by omega
        have me6 : w1.heap.size + 1 ≠ wr.heap.size + 1 := by omega
        have cD := do_two p (ta, na, sa) (tb, nb, sb) wr HENr hra.out hrb.out T K S E HD1.out (fun w' => w'.cell? ⟨w1.heap.size + 1, kk, none⟩ = some (.string p) ∧ w'.cell? ⟨w.heap.size, 0, none⟩ = some (.int .i64 ta) ∧ w'.cell? ⟨w.heap.size, 1, none⟩ = some (.int .i64 na) ∧ w'.cell? ⟨w.heap.size, 2, none⟩ = some (.string sa) ∧ w'.cell? ⟨w.heap.size + 1, 0, none⟩ = some (.int .i64 tb) ∧ w'.cell? ⟨w.heap.size + 1, 1, none⟩ = some (.int .i64 nb) ∧ w'.cell? ⟨w.heap.size + 1, 2, none⟩ = some (.string sb)) (fun w' hb => ⟨by rw [hb.cell (p := ⟨w1.heap.size + 1, kk, none⟩) z2]; exact o0, by rw [hb.cell (p := ⟨w.heap.size, 0, none⟩) z0]; exact x0, by rw [hb.cell (p := ⟨w.heap.size, 1, none⟩) z0]; exact x1, by rw [hb.cell (p := ⟨w.heap.size, 2, none⟩) z0]; exact x2, by rw [hb.cell (p := ⟨w.heap.size + 1, 0, none⟩) z1]; exact y0, by rw [hb.cell (p := ⟨w.heap.size + 1, 1, none⟩) z1]; exact y1, by rw [hb.cell (p := ⟨w.heap.size + 1, 2, none⟩) z1]; exact y2⟩)
        go_region_held3 (fun w' => w'.cell? ⟨w1.heap.size + 1, kk, none⟩ = some (.string p) ∧ w'.cell? ⟨w.heap.size, 0, none⟩ = some (.int .i64 ta) ∧ w'.cell? ⟨w.heap.size, 1, none⟩ = some (.int .i64 na) ∧ w'.cell? ⟨w.heap.size, 2, none⟩ = some (.string sa) ∧ w'.cell? ⟨w.heap.size + 1, 0, none⟩ = some (.int .i64 tb) ∧ w'.cell? ⟨w.heap.size + 1, 1, none⟩ = some (.int .i64 nb) ∧ w'.cell? ⟨w.heap.size + 1, 2, none⟩ = some (.string sb)) (go_keep) (first | (go_at_call 10; refine (cD _ _ (by first | (simp; done) | (simp; omega)) (by intro i; simp [World.cell?_alloc_at, World.cell?_alloc_lt]) (by repeat (first | exact Below.refl _ _ | (refine Below.alloc ?_ (by simp) _) | refine Below.drew ?_))).mono ?_; rintro e' w2 ⟨rfl, b2, b3, s0, s1, s2, s3, s4, s5, s6⟩; have fB0 := b2.out.cell (p := ⟨wr.heap.size + 1, 0, none⟩); try simp [World.cell?_alloc_at] at fB0; have fB1 := b2.out.cell (p := ⟨wr.heap.size + 1, 1, none⟩); try simp [World.cell?_alloc_at] at fB1; have fB2 := b2.out.cell (p := ⟨wr.heap.size + 1, 2, none⟩); try simp [World.cell?_alloc_at] at fB2; have gB := fun o : Nat => b2.out.frozen (p := ⟨wr.heap.size + 1, o, none⟩); try simp [World.frozen?_alloc_at] at gB; have fC0 := b2.out.cell (p := ⟨wr.heap.size, 0, none⟩) (by first | (simp; done) | (simp; omega)); try simp [World.cell?_alloc_at, World.cell?_alloc_lt] at fC0; have fC1 := b2.out.cell (p := ⟨wr.heap.size, 1, none⟩) (by first | (simp; done) | (simp; omega)); try simp [World.cell?_alloc_at, World.cell?_alloc_lt] at fC1; have fC2 := b2.out.cell (p := ⟨wr.heap.size, 2, none⟩) (by first | (simp; done) | (simp; omega)); try simp [World.cell?_alloc_at, World.cell?_alloc_lt] at fC2; have gC := fun o : Nat => b2.out.frozen (p := ⟨wr.heap.size, o, none⟩) (by first | (simp; done) | (simp; omega)); try simp [World.frozen?_alloc_at, World.frozen?_alloc_past] at gC; have hsz2 := b2.out.size; simp at hsz2; have hlC : wr.heap.size < w2.heap.size := by omega; try (have hlB : wr.heap.size + 1 < w2.heap.size := by omega)))
        all_goals
          go_wp2_with fail
          go_meet
          case rel =>
            first
              | exact ⟨_, rfl, rfl, ⟨by rw [World.cell?_alloc_at _ _ _ _ rfl]; rfl, by rw [World.cell?_alloc_at _ _ _ _ rfl]; rfl, by rw [World.cell?_alloc_at _ _ _ _ rfl]; rfl⟩, by simp, b3.out.alloc b3.out.size _⟩
              | exact ⟨_, rfl, rfl, ⟨by simp [World.cell?_setCell_other, World.cell?_setCell_same, *], by simp [World.cell?_setCell_other, World.cell?_setCell_same, *], by simp [World.cell?_setCell_other, World.cell?_setCell_same, *]⟩, by simp [World.setCell]; omega, below3 b3.out (by omega) _ _ _⟩
      case rest =>
        obtain ⟨b10, rfl, rfl, ⟨vx0, vx1, vx2⟩, hlx, Bx⟩ := hcut
        rename World => wX
        have bX := Bx.out
        have o1 : wX.cell? ⟨w1.heap.size + 2, kk, none⟩ = some (.string q) := by rw [bX.cell (p := ⟨w1.heap.size + 2, kk, none⟩) (by show w1.heap.size + 2 < _; omega), HQ.out]; exact HM.out
        have kX : ∀ j i, j < 2 → wX.cell? ⟨w.heap.size + j, i, none⟩ = wr.cell? ⟨w.heap.size + j, i, none⟩ := fun j i hj => bX.cell (p := ⟨w.heap.size + j, i, none⟩) (by show w.heap.size + j < _; omega)
        have x0' : wX.cell? ⟨w.heap.size, 0, none⟩ = some (.int .i64 ta) := by rw [← x0]; exact kX 0 0 (by decide)
        have x1' : wX.cell? ⟨w.heap.size, 1, none⟩ = some (.int .i64 na) := by rw [← x1]; exact kX 0 1 (by decide)
        have x2' : wX.cell? ⟨w.heap.size, 2, none⟩ = some (.string sa) := by rw [← x2]; exact kX 0 2 (by decide)
        have y0' : wX.cell? ⟨w.heap.size + 1, 0, none⟩ = some (.int .i64 tb) := by rw [← y0]; exact kX 1 0 (by decide)
        have y1' : wX.cell? ⟨w.heap.size + 1, 1, none⟩ = some (.int .i64 nb) := by rw [← y1]; exact kX 1 1 (by decide)
        have y2' : wX.cell? ⟨w.heap.size + 1, 2, none⟩ = some (.string sb) := by rw [← y2]; exact kX 1 2 (by decide)
        have hzX := bX.size
        have z0' : w.heap.size < wX.heap.size := by omega
        have z1' : w.heap.size + 1 < wX.heap.size := by omega
        have z2' : w1.heap.size + 2 < wX.heap.size := by omega
        have HENX := HENr.on bX
        clear kX o0 x0 x1 x2 y0 y1 y2 HQ HM
        go_wp2
        go_cut [12, 13] from 29 to 64 (fun s10 s11 wc => ∃ b10 : Nat, s10 = .pointer (some ⟨b10, 0, none⟩) ∧ s11 = errV E2 ∧ (wc.cell? ⟨b10, 0, none⟩ = some (.int .i64 T) ∧ wc.cell? ⟨b10, 1, none⟩ = some (.int .i64 K) ∧ wc.cell? ⟨b10, 2, none⟩ = some (.string S)) ∧ b10 < wc.heap.size ∧ Aside (Below wX.heap.size wX wc))
        case first =>
          have na0 : wX.heap.size ≠ w1.heap.size := by omega
          have nb0 : w1.heap.size ≠ wX.heap.size := by omega
          have na1 : wX.heap.size ≠ w1.heap.size + 1 := by omega
          have nb1 : w1.heap.size + 1 ≠ wX.heap.size := by omega
          have na2 : wX.heap.size ≠ w.heap.size := by omega
          have nb2 : w.heap.size ≠ wX.heap.size := by omega
          have ne1 : wX.heap.size ≠ w.heap.size := by omega
          have me1 : w.heap.size ≠ wX.heap.size := by omega
          have ne2 : wX.heap.size + 1 ≠ w.heap.size := by omega
          have me2 : w.heap.size ≠ wX.heap.size + 1 := by omega
          have ne3 : wX.heap.size ≠ w.heap.size + 1 := by omega
          have me3 : w.heap.size + 1 ≠ wX.heap.size := by omega
          have ne4 : wX.heap.size + 1 ≠ w.heap.size + 1 := by omega
          have me4 : w.heap.size + 1 ≠ wX.heap.size + 1 := by omega
          have ne5 : wX.heap.size ≠ w1.heap.size + 2 := by omega
          have me5 : w1.heap.size + 2 ≠ wX.heap.size := by omega
          have ne6 : wX.heap.size + 1 ≠ w1.heap.size + 2 := by omega
          have me6 : w1.heap.size + 2 ≠ wX.heap.size + 1 := by omega
          have cD := do_two q (tb, nb, sb) (ta, na, sa) wX HENX hrb.out hra.out T K S E2 HD2.out (fun w' => w'.cell? ⟨w1.heap.size + 2, kk, none⟩ = some (.string q) ∧ w'.cell? ⟨w.heap.size, 0, none⟩ = some (.int .i64 ta) ∧ w'.cell? ⟨w.heap.size, 1, none⟩ = some (.int .i64 na) ∧ w'.cell? ⟨w.heap.size, 2, none⟩ = some (.string sa) ∧ w'.cell? ⟨w.heap.size + 1, 0, none⟩ = some (.int .i64 tb) ∧ w'.cell? ⟨w.heap.size + 1, 1, none⟩ = some (.int .i64 nb) ∧ w'.cell? ⟨w.heap.size + 1, 2, none⟩ = some (.string sb)) (fun w' hb => ⟨by rw [hb.cell (p := ⟨w1.heap.size + 2, kk, none⟩) z2']; exact o1, by rw [hb.cell (p := ⟨w.heap.size, 0, none⟩) z0']; exact x0', by rw [hb.cell (p := ⟨w.heap.size, 1, none⟩) z0']; exact x1', by rw [hb.cell (p := ⟨w.heap.size, 2, none⟩) z0']; exact x2', by rw [hb.cell (p := ⟨w.heap.size + 1, 0, none⟩) z1']; exact y0', by rw [hb.cell (p := ⟨w.heap.size + 1, 1, none⟩) z1']; exact y1', by rw [hb.cell (p := ⟨w.heap.size + 1, 2, none⟩) z1']; exact y2'⟩)
          go_region_held3 (fun w' => w'.cell? ⟨w1.heap.size + 2, kk, none⟩ = some (.string q) ∧ w'.cell? ⟨w.heap.size, 0, none⟩ = some (.int .i64 ta) ∧ w'.cell? ⟨w.heap.size, 1, none⟩ = some (.int .i64 na) ∧ w'.cell? ⟨w.heap.size, 2, none⟩ = some (.string sa) ∧ w'.cell? ⟨w.heap.size + 1, 0, none⟩ = some (.int .i64 tb) ∧ w'.cell? ⟨w.heap.size + 1, 1, none⟩ = some (.int .i64 nb) ∧ w'.cell? ⟨w.heap.size + 1, 2, none⟩ = some (.string sb)) (go_keep) (first | (go_at_call 10; refine (cD _ _ (by first | (simp; done) | (simp; omega)) (by intro i; simp [World.cell?_alloc_at, World.cell?_alloc_lt]) (by repeat (first | exact Below.refl _ _ | (refine Below.alloc ?_ (by simp) _) | refine Below.drew ?_))).mono ?_; rintro e' w2 ⟨rfl, b2, b3, s0, s1, s2, s3, s4, s5, s6⟩; have fB0 := b2.out.cell (p := ⟨wX.heap.size + 1, 0, none⟩); try simp [World.cell?_alloc_at] at fB0; have fB1 := b2.out.cell (p := ⟨wX.heap.size + 1, 1, none⟩); try simp [World.cell?_alloc_at] at fB1; have fB2 := b2.out.cell (p := ⟨wX.heap.size + 1, 2, none⟩); try simp [World.cell?_alloc_at] at fB2; have gB := fun o : Nat => b2.out.frozen (p := ⟨wX.heap.size + 1, o, none⟩); try simp [World.frozen?_alloc_at] at gB; have fC0 := b2.out.cell (p := ⟨wX.heap.size, 0, none⟩) (by first | (simp; done) | (simp; omega)); try simp [World.cell?_alloc_at, World.cell?_alloc_lt] at fC0; have fC1 := b2.out.cell (p := ⟨wX.heap.size, 1, none⟩) (by first | (simp; done) | (simp; omega)); try simp [World.cell?_alloc_at, World.cell?_alloc_lt] at fC1; have fC2 := b2.out.cell (p := ⟨wX.heap.size, 2, none⟩) (by first | (simp; done) | (simp; omega)); try simp [World.cell?_alloc_at, World.cell?_alloc_lt] at fC2; have gC := fun o : Nat => b2.out.frozen (p := ⟨wX.heap.size, o, none⟩) (by first | (simp; done) | (simp; omega)); try simp [World.frozen?_alloc_at, World.frozen?_alloc_past] at gC; have hsz2 := b2.out.size; simp at hsz2; have hlC : wX.heap.size < w2.heap.size := by omega; try (have hlB : wX.heap.size + 1 < w2.heap.size := by omega)))
          all_goals
            go_wp2_with fail
            go_meet
            case rel =>
              first
                | exact ⟨_, rfl, rfl, ⟨by rw [World.cell?_alloc_at _ _ _ _ rfl]; rfl, by rw [World.cell?_alloc_at _ _ _ _ rfl]; rfl, by rw [World.cell?_alloc_at _ _ _ _ rfl]; rfl⟩, by simp, b3.out.alloc b3.out.size _⟩
                | exact ⟨_, rfl, rfl, ⟨by simp [World.cell?_setCell_other, World.cell?_setCell_same, *], by simp [World.cell?_setCell_other, World.cell?_setCell_same, *], by simp [World.cell?_setCell_other, World.cell?_setCell_same, *]⟩, by simp [World.setCell]; omega, below3 b3.out (by omega) _ _ _⟩
        case rest =>
          obtain ⟨b12, rfl, rfl, ⟨vy0, vy1, vy2⟩, hly, By⟩ := hcut
          rename World => wY
          have bY := By.out
          have xx0 : wY.cell? ⟨b10, 0, none⟩ = some (.int .i64 T) := by rw [bY.cell (p := ⟨b10, 0, none⟩) hlx]; exact vx0
          have xx1 : wY.cell? ⟨b10, 1, none⟩ = some (.int .i64 K) := by rw [bY.cell (p := ⟨b10, 1, none⟩) hlx]; exact vx1
          have xx2 : wY.cell? ⟨b10, 2, none⟩ = some (.string S) := by rw [bY.cell (p := ⟨b10, 2, none⟩) hlx]; exact vx2
          have hlx2 : b10 < wY.heap.size := by have := bY.size; omega
          have BWY : Below (w1.heap.size + 3) (((w1.alloc (.cells #[.int .i64 1, .int .i64 3, .string ⟨#[]⟩] 23)).alloc (.cells opsA 9)).alloc (.cells opsB 9)) wY := BW.out.trans ((bX.trans (bY.mono bX.size)).mono hzr)
          have hvs : ∀ W, Sem.run Tryd.prog (binOp .neq 23 (.agg #[.int .i64 T, .int .i64 K, .string S]) (.agg #[.int .i64 T, .int .i64 K, .string S])) W = .ok (.bool false) W := fun W => by rw [valK_neq]; simp
          have g1 := errK_geql E
          have g2 := errK_geql E2
          clear vx0 vx1 vx2 x0' x1' x2' y0' y1' y2' o1
          by_cases hE : E = 0
          · have hE2 := HEE.out.1 hE
            have q1 : ∀ W, Sem.run Tryd.prog (binOp .eql 32 (errV E) .nilIface) W = .ok (.bool true) W := fun W => by rw [errK_eql, hE]; rfl
            have q2 : ∀ W, Sem.run Tryd.prog (binOp .eql 32 (errV E2) .nilIface) W = .ok (.bool true) W := fun W => by rw [errK_eql, hE2]; rfl
            clear hE hE2
            go_wp2
            go_quiet (fail)
            go_wp2
            go_roundg (6 - (kk + 1))
            case measure => omega
            case rel => exact ⟨kk + 1, by omega, by omega, by go_num, (show Aside _ by repeat (first | exact BWY | apply below_drewN | refine Below.drew ?_))⟩
          · have hE2 : E2 ≠ 0 := fun h => hE (HEE.out.2 h)
            have q1 : ∀ W, Sem.run Tryd.prog (binOp .eql 32 (errV E) .nilIface) W = .ok (.bool false) W := fun W => by rw [errK_eql]; simp [hE]
            have q2 : ∀ W, Sem.run Tryd.prog (binOp .eql 32 (errV E2) .nilIface) W = .ok (.bool false) W := fun W => by rw [errK_eql]; simp [hE2]
            clear hE hE2
            go_wp2
            go_quiet (fail)
            go_wp2
            go_roundg (6 - (kk + 1))
            case measure => omega
            case rel => exact ⟨kk + 1, by omega, by omega, by go_num, (show Aside _ by repeat (first | exact BWY | apply below_drewN | refine Below.drew ?_))⟩
    · have hltz : ¬ (kk : Int) < 6 := by omega
      clear hA hB hO hQ
      go_wp2
      go_ret
      exact ⟨rfl, bwr⟩
end Go.Proofs.YtomakklbfjkdpabDoor
