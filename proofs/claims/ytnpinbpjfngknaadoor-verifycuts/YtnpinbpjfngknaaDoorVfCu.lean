/-
  The walk of VerifyCuts: sound instructions with a Keep, with a Keep and a Drop behind.
-/
import Derived.Test.YtnpinbpjfngknaaDoorVfH
import Derived.Test.YtnpinbpjfngknaaDoorVfI
import Derived.Test.YtnpinbpjfngknaaDoorAs
namespace Go.Proofs.YtnpinbpjfngknaaDoor
open Go.RowKit
set_option linter.unusedVariables false

theorem colX (w : World) (g : Nat) (hg : g = w.heap.size) : ColsV (w.alloc (.cells #[.string ⟨#[120]⟩, .int .i64 1] 33)) (.slice (some ⟨g, 0, none⟩) 1 1) [(⟨#[120]⟩, 1)] := by
  subst hg
  refine ⟨_, 1, rfl, .inr ⟨w.heap.size, 0, rfl, Nat.le_refl _, fun z hz => ?_, by simp, fun j hj => ?_⟩⟩
  · simp only [List.mem_singleton] at hz; subst hz; decide
  · obtain rfl : j = 0 := by simp at hj; omega
    constructor
    · rw [World.cell?_alloc_at _ _ _ _ rfl]; rfl
    · rw [World.cell?_alloc_at _ _ _ _ rfl]; rfl
theorem schX : schE [(⟨#[120]⟩, 1)] = 0 := by decide
theorem errV3 : errV 3 = .iface 53 (.int .i64 3) := rfl
def keepI : I5 := (6, 0, 0, 0, ⟨#[]⟩)
def dropI : I5 := (7, 0, 0, 0, ⟨#[]⟩)
set_option maxHeartbeats 8000000 in
set_option maxRecDepth 20000 in
theorem cuts_any (is : List I5) (p : Option Addr) (N c : Nat) (vz : Value) (zs : List (ByteArray × Int)) (w : World) (hr : REnv w) (htw : TW w) (hg : w.cell? ⟨0, 0, none⟩ = some (.iface 96 (.agg #[.pointer (some ⟨3, 27, none⟩)]))) (hgl : 0 < w.heap.size) (hi : InsAt w p is) (hN : is.length = N) (hNm : N ≤ maxLen) (hz : ∀ i ∈ is, i.2.2.2.2.size ≤ maxLen) (hc : ColsV w vz zs) :
    Calls Tryd.prog 4 #[.slice p N c, vz] w fun e w' => e = .returned (.bool true) ∧ Below w.heap.size w w' := by
  have b0 := alB w (.cells #[.string ⟨#[120]⟩, .int .i64 1] 33)
  have c0 := vCheck_any [] none 0 0 (.slice (some ⟨w.heap.size, 0, none⟩) 1 1) [(⟨#[120]⟩, 1)] (w.alloc (.cells #[.string ⟨#[120]⟩, .int .i64 1] 33)) (hr.on b0) (htw.on b0) (.inl rfl) rfl (Nat.zero_le _) (fun i h => by simp at h) (colX w _ rfl) 0 3 (ver_nil schX)
  rw [errV3] at c0
  have hgW : ∀ W, Below w.heap.size w W → W.cell? ⟨0, 0, none⟩ = some (.iface 96 (.agg #[.pointer (some ⟨3, 27, none⟩)])) := fun W b => by rw [b.cell (p := ⟨0, 0, none⟩) hgl]; exact hg
  have cS := fun W (b : Below w.heap.size w W) => same_err 3 3 W (hgW W b)
  obtain ⟨E, hE⟩ : ∃ E, (verP is zs).2.2 = E := ⟨_, rfl⟩
  obtain ⟨T, hT⟩ : ∃ T, typP is (verP is zs) = T := ⟨_, rfl⟩
  have cT := fun W (b : Below w.heap.size w W) => vType_any is p N c vz zs W (hr.on b) (htw.on b) (hi.on b) hN hNm hz (hc.on b) T E hE hT
  by_cases h0 : E = 0
  · subst h0
    simp only [show errV 0 = .nilIface from rfl] at cT
    obtain ⟨hl12, _, l, t, _, h4, h5, h6⟩ := sound_loop hE
    have hne : is.length ≠ 0 := fun h => by
      have : is = [] := List.length_eq_zero_iff.1 h
      subst this
      have hs0 : schE zs = 0 := by assumption
      have := congrArg Prod.snd (ver_nil (zs := zs) hs0)
      rw [hE] at this
      exact absurd this (by decide)
    have hN0 : 0 < N := by omega
    have hN12 : N ≤ 1200 := by omega
    obtain ⟨pz, cz, hvz, -⟩ := id hc
    by_cases hbig : 1190 < N
    · subst hvz
      have hbz : (1190 : Int) < (N : Int) := by omega
      clear hi hz hN hE hT hgW hc h4 h5 h6 hne
      go_enter Tryd.func4, Tryd.ntmps4
      go_wp2_with fail
      refine c0.mono ?_
      rintro e w1 ⟨rfl, b1⟩
      have b2 := b0.trans (b1.mono b0.size)
      go_wp2_with fail
      refine (cS _ b2).mono ?_
      rintro e w2 ⟨rfl, b3⟩
      have b4 := b2.trans (b3.mono b2.size)
      go_wp2_with fail
      refine (cT _ b4).mono ?_
      rintro e w3 ⟨rfl, b5⟩
      have b6 := b4.trans (b5.mono b4.size)
      go_wp2
      go_ret
      exact ⟨rfl, b6⟩
    · have hbz : ¬ (1190 : Int) < (N : Int) := by omega
      have hK := cut_keep hE (by omega) keepI rfl
      obtain ⟨hD1, hD2⟩ := cut_drop hE (by omega) keepI dropI rfl rfl
      rw [hT] at hD2
      rw [hN] at hK
      have hzK : ∀ i ∈ is ++ [keepI], i.2.2.2.2.size ≤ maxLen := fun i h => by
        rcases List.mem_append.1 h with h | h
        · exact hz i h
        · rw [List.mem_singleton.1 h]; decide
      have hzD : ∀ i ∈ is ++ [keepI, dropI], i.2.2.2.2.size ≤ maxLen := fun i h => by
        rcases List.mem_append.1 h with h | h
        · exact hz i h
        · simp only [List.mem_cons, List.not_mem_nil, or_false] at h
          rcases h with rfl | rfl <;> decide
      have cK : ∀ (W : World) (q : Option Addr) (cq : Nat), Below w.heap.size w W → InsAt W q (is ++ [keepI]) → Calls Tryd.prog 6 #[.slice q (N + 1) cq, vz] W fun e w' => e = .returned (.tuple #[.int .i64 ((N : Int) + 1), .iface 53 (.int .i64 3)]) ∧ Below W.heap.size W w' := fun W q cq b h => by
        exact vCheck_any (is ++ [keepI]) q (N + 1) cq vz zs W (hr.on b) (htw.on b) h (by rw [List.length_append, hN]; rfl) (by unfold maxLen; omega) hzK (hc.on b) (N + 1) 3 hK
      have cD : ∀ (W : World) (q : Option Addr) (cq : Nat), Below w.heap.size w W → InsAt W q (is ++ [keepI, dropI]) → Calls Tryd.prog 8 #[.slice q (N + 1 + 1) cq, vz] W fun e w' => e = .returned (.tuple #[.int .i64 T, .nilIface]) ∧ Below W.heap.size W w' := fun W q cq b h => by
        exact vType_any (is ++ [keepI, dropI]) q (N + 1 + 1) cq vz zs W (hr.on b) (htw.on b) h (by rw [List.length_append, hN]; rfl) (by unfold maxLen; omega) hzD (hc.on b) T 0 hD1 hD2
      subst hvz
      rcases hi with h | ⟨ib, io, rfl, hib, hcs⟩
      · exact absurd h hne
      have HCS : Aside (∀ j (h : j < is.length), w.cell? ⟨ib, io + j * 5, none⟩ = some (.int .i64 is[j].1) ∧ w.cell? ⟨ib, io + j * 5 + 1, none⟩ = some (.int .i64 is[j].2.1) ∧ w.cell? ⟨ib, io + j * 5 + 2, none⟩ = some (.int .i64 is[j].2.2.1) ∧ w.cell? ⟨ib, io + j * 5 + 3, none⟩ = some (.int .i64 is[j].2.2.2.1) ∧ w.cell? ⟨ib, io + j * 5 + 4, none⟩ = some (.string is[j].2.2.2.2)) := hcs
      have HN : Hid (is.length = N) := hN
      obtain ⟨i0, hii, hz0, hz1, hzz⟩ := info_parts info_ins
      clear hz hN hE hT hgW hc h4 h5 h6 hne hK hD1 hD2 hzK hzD hcs
      go_enter Tryd.func4, Tryd.ntmps4
      go_wp2_with fail
      refine c0.mono ?_
      rintro e w1 ⟨rfl, b1⟩
      have b2 := b0.trans (b1.mono b0.size)
      go_wp2_with fail
      refine (cS _ b2).mono ?_
      rintro e w2 ⟨rfl, b3⟩
      have b4 := b2.trans (b3.mono b2.size)
      go_wp2_with fail
      refine (cT _ b4).mono ?_
      rintro e w3 ⟨rfl, b5⟩
      have b6 := b4.trans (b5.mono b4.size)
      have hs6 := b6.size
      clear c0 cT b0 b1 b2 b3 b4 b5
      have hcs3 : ∀ j u, (insC is)[j]? = some u → w3.cell? ((⟨ib, io, none⟩ : Addr).add j) = some u := fun j u hu => by
        have := ins_news HCS.out j u hu
        rw [Go.WideShapes.add_plain] at this ⊢
        rw [b6.cell (p := ⟨ib, io + j, none⟩) hib]; exact this
      have HC3 : Aside (∀ j u, (insC is)[j]? = some u → w3.cell? ((⟨ib, io, none⟩ : Addr).add j) = some u) := hcs3
      have OW0 := World.ownsRow_nil w3 w.heap.size 37 5
      clear hcs3 HCS
      go_wp2_with (at_builtin; refine wpList_append_own _ rfl _ _ 22 rfl w.heap.size 37 i0 _ 5 48 Tryd.underlying22 hii hz0 hz1 hzz rfl (by decide) _ _ _ rfl OW0 ⟨ib, io, none⟩ N c (insC is) rfl ?c0 ?c1 ?c2 ?c3 ?c4 ?c5 ?_)
      case c0 => rw [insC_len, HN.out]
      case c1 => exact HC3.out
      case c2 => exact ins_one is
      case c3 => unfold maxLen; omega
      case c4 => omega
      case c5 => exact hs6
      intro v4 w4 o4 g4 _
      have O4 : w4.ownsRow w.heap.size 37 5 v4 N (insC is) := by simpa using o4
      have b7 : Below w.heap.size w w4 := b6.grown g4 hs6 (fun j hj => by simp [Value.ownBlock] at hj)
      have hs7 := b7.size
      have A7 : Aside (Below w.heap.size w w4) := b7
      have hcK : ∀ j u, (c5 keepI)[j]? = some u → (w4.alloc (.cells #[.int .i64 6, .int .i64 0, .int .i64 0, .int .i64 0, .string ⟨#[]⟩] 37)).cell? ((⟨w4.heap.size, 0, none⟩ : Addr).add j) = some u := fun j u hu => by
        rw [Go.WideShapes.add_plain, Nat.zero_add, World.cell?_alloc_at _ _ _ _ rfl, ← Array.getElem?_toList]; exact hu
      have HK : Aside (∀ j u, (c5 keepI)[j]? = some u → (w4.alloc (.cells #[.int .i64 6, .int .i64 0, .int .i64 0, .int .i64 0, .string ⟨#[]⟩] 37)).cell? ((⟨w4.heap.size, 0, none⟩ : Addr).add j) = some u) := hcK
      clear o4 g4 HC3 OW0 b6 hs6 hcK
      go_wp2_with (at_builtin; refine wpList_append_own _ rfl _ _ 22 rfl w.heap.size 37 i0 _ 5 48 Tryd.underlying22 hii hz0 hz1 hzz rfl (by decide) _ _ _ rfl (O4.alloc _) ⟨w4.heap.size, 0, none⟩ 1 1 (c5 keepI) rfl rfl ?c1 ?c2 ?c3 ?c4 ?c5 ?_)
      case c1 => exact HK.out
      case c2 => exact fun u hu => ins_one [keepI] u (by rw [insC, insC, List.append_nil]; exact hu)
      case c3 => unfold maxLen; omega
      case c4 => omega
      case c5 => simp; omega
      intro v5 w5 o5 g5 _
      obtain ⟨q5, c5', rfl⟩ := lown_slice o5
      have O5 : w5.ownsRow w.heap.size 37 5 (.slice q5 (N + 1) c5') (N + 1) (insC (is ++ [keepI])) := by
        rw [insC_append, show insC [keepI] = c5 keepI from List.append_nil _]; exact o5
      have hob : ∀ j, v4.ownBlock = some j → w.heap.size ≤ j := fun j hj => (O4.lt j hj).1
      have b8 : Below w.heap.size w w5 := (A7.out.alloc hs7 _).grown g5 (by simp; omega) hob
      have hs8 := b8.size
      have A8 : Aside (Below w.heap.size w w5) := b8
      have A5 : Aside (w5.ownsRow w.heap.size 37 5 (.slice q5 (N + 1) c5') (N + 1) (insC (is ++ [keepI]))) := O5
      have cK5 := cK w5 q5 c5' b8 (ownIns (by rw [List.length_append, HN.out]; rfl) O5)
      clear o5 g5 O5 O4 HK cK A7 b7 hs7 hob
      go_wp2_with fail
      refine cK5.mono ?_
      rintro e w6 ⟨rfl, b9⟩
      have b10 : Below w.heap.size w w6 := A8.out.trans (b9.mono hs8)
      have O6 := lown_below A5.out b9
      have A6 : Aside (w6.ownsRow w.heap.size 37 5 (.slice q5 (N + 1) c5') (N + 1) (insC (is ++ [keepI]))) := O6
      clear cK5 A5 A8 O6 b8 b9 hs8
      go_wp2_with fail
      refine (cS _ b10).mono ?_
      rintro e w7 ⟨rfl, b11⟩
      have b12 : Below w.heap.size w w7 := b10.trans (b11.mono b10.size)
      have hs12 := b12.size
      have O7 := lown_below A6.out b11
      have A12 : Aside (Below w.heap.size w w7) := b12
      have hcD : ∀ j u, (c5 dropI)[j]? = some u → (w7.alloc (.cells #[.int .i64 7, .int .i64 0, .int .i64 0, .int .i64 0, .string ⟨#[]⟩] 37)).cell? ((⟨w7.heap.size, 0, none⟩ : Addr).add j) = some u := fun j u hu => by
        rw [Go.WideShapes.add_plain, Nat.zero_add, World.cell?_alloc_at _ _ _ _ rfl, ← Array.getElem?_toList]; exact hu
      have HK : Aside (∀ j u, (c5 dropI)[j]? = some u → (w7.alloc (.cells #[.int .i64 7, .int .i64 0, .int .i64 0, .int .i64 0, .string ⟨#[]⟩] 37)).cell? ((⟨w7.heap.size, 0, none⟩ : Addr).add j) = some u) := hcD
      clear cS A6 b10 b11 b12 hcD
      go_wp2_with (at_builtin; refine wpList_append_own _ rfl _ _ 22 rfl w.heap.size 37 i0 _ 5 48 Tryd.underlying22 hii hz0 hz1 hzz rfl (by decide) _ _ _ rfl (O7.alloc _) ⟨w7.heap.size, 0, none⟩ 1 1 (c5 dropI) rfl rfl ?c1 ?c2 ?c3 ?c4 ?c5 ?_)
      case c1 => exact HK.out
      case c2 => exact fun u hu => ins_one [dropI] u (by rw [insC, insC, List.append_nil]; exact hu)
      case c3 => unfold maxLen; omega
      case c4 => omega
      case c5 => simp; omega
      intro v8 w8 o8 g8 _
      obtain ⟨q8, c8, rfl⟩ := lown_slice o8
      have O8 : w8.ownsRow w.heap.size 37 5 (.slice q8 (N + 1 + 1) c8) (N + 1 + 1) (insC (is ++ [keepI, dropI])) := by
        rw [show is ++ [keepI, dropI] = (is ++ [keepI]) ++ [dropI] by simp, insC_append, show insC [dropI] = c5 dropI from List.append_nil _]; exact o8
      have hob : ∀ j, (Value.slice q5 (N + 1) c5').ownBlock = some j → w.heap.size ≤ j := fun j hj => (O7.lt j hj).1
      have b13 : Below w.heap.size w w8 := (A12.out.alloc hs12 _).grown g8 (by simp; omega) hob
      have hs13 := b13.size
      have A13 : Aside (Below w.heap.size w w8) := b13
      have cD8 := cD w8 q8 c8 b13 (ownIns (by rw [List.length_append, HN.out]; rfl) O8)
      clear o8 g8 O8 O7 HK cD A12 hs12 hob b13
      go_wp2_with fail
      refine cD8.mono ?_
      rintro e w9 ⟨rfl, b14⟩
      have b15 : Below w.heap.size w w9 := A13.out.trans (b14.mono hs13)
      clear cD8 b14 A13
      go_wp2
      go_ret
      exact ⟨rfl, b15⟩
  · have hV : errV E = .iface 53 (.int .i64 E) := by rw [errV, if_neg h0]
    simp only [hV] at cT
    obtain ⟨pz, cz, rfl, -⟩ := hc
    clear hi hz hN hE hT hV h0 hgW
    go_enter Tryd.func4, Tryd.ntmps4
    go_wp2_with fail
    refine c0.mono ?_
    rintro e w1 ⟨rfl, b1⟩
    have b2 := b0.trans (b1.mono b0.size)
    go_wp2_with fail
    refine (cS _ b2).mono ?_
    rintro e w2 ⟨rfl, b3⟩
    have b4 := b2.trans (b3.mono b2.size)
    go_wp2_with fail
    refine (cT _ b4).mono ?_
    rintro e w3 ⟨rfl, b5⟩
    have b6 := b4.trans (b5.mono b4.size)
    go_wp2
    go_ret
    exact ⟨rfl, b6⟩
end Go.Proofs.YtnpinbpjfngknaaDoor
