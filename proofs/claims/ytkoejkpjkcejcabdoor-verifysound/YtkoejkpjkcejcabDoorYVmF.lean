/-
  Instructions are done one behind the other (package vm: follow), with any function that is asked ahead of each.
-/
import Derived.Test.YtkoejkpjkcejcabDoorYVmB
import Derived.Test.YtkoejkpjkcejcabDoorYEvEv
namespace Go.Proofs.YtkoejkpjkcejcabDoor
open Go.RowKit
set_option linter.unusedVariables false

theorem vFresh_any (t n : Int) (s : ByteArray) (w : World) (hs : s.size ≤ 40) : Calls Tryd.prog 22 #[.agg #[.int .i64 t, .int .i64 n, .string s]] w fun e w' => e = .returned (.agg #[.int .i64 t, .int .i64 n, .string s]) ∧ Below w.heap.size w w' :=
  valFresh_any t n s w (by omega)
/-- All is kept but the block L, and rows of numbers behind it. -/
def LKeeps (L : Nat) (w w' : World) : Prop := Below L w w' ∧ Lib.OthersKept 3 (some L) w w'
def mayE (fuel : Int) (d : List Nat) : Int := if (d.length : Int) = fuel then 10 else 0
/-- Rows of numbers are kept. -/
def IntsKept (W W' : World) : Prop := ∀ (g : Nat) (cs : Array Value) (fz : Nat × Nat), W.heap[g]? = some (Obj.cells cs 3 fz) → W'.heap[g]? = W.heap[g]?
theorem IntsKept.of_below {W W' : World} (h : Below W.heap.size W W') : IntsKept W W' := fun g cs fz hg => h.block g (Array.getElem?_eq_some_iff.1 hg).1
theorem MKeeps.ints {W W' : World} {b : Nat} {k : Int} {rv : Value} {q : Option Addr} {c : Nat} {st : List V3} (hM : MchAt W b k rv q c st) (hk : MKeeps b W W') : IntsKept W W' := fun g cs fz hg => by
  obtain ⟨⟨cs2, h0⟩, -⟩ := hM
  rw [hg]
  refine hk.2 g _ hg (fun e => ?_) fun c2 fz2 e => ?_
  · have := Option.some.inj e
    subst this
    rw [h0] at hg
    injection hg with hg
    injection hg with _ e _
    exact absurd e (by decide)
  · injection e with _ e _
    exact absurd e (by decide)
/-- The block of a result that is a value. -/
def ResAt (W : World) (r : Nat) : Prop := W.heap[r]? = some (Obj.cells #[.int .i64 0, .int .i64 0, .string ⟨#[]⟩] 23 (0, 0))
theorem ResAt.cells {W : World} {r : Nat} (h : ResAt W r) : W.cell? ⟨r, 0, none⟩ = some (.int .i64 0) ∧ W.cell? ⟨r, 1, none⟩ = some (.int .i64 0) ∧ W.cell? ⟨r, 2, none⟩ = some (.string ⟨#[]⟩) ∧ (∀ o, W.frozen? ⟨r, o, none⟩ = false) ∧ r < W.heap.size := by
  unfold ResAt at h
  refine ⟨by simp [World.cell?, h], by simp [World.cell?, h], by simp [World.cell?, h], fun o => by simp [World.frozen?, h], (Array.getElem?_eq_some_iff.1 h).1⟩
theorem ResAt.below {W W' : World} {r n : Nat} (h : ResAt W r) (hb : Below n W W') (hr : r < n) : ResAt W' r := by
  unfold ResAt at h ⊢
  rw [hb.block r hr]
  exact h
theorem ResAt.others {W W' : World} {r L : Nat} (h : ResAt W r) (hb : Lib.OthersKept 3 (some L) W W') (hr : r ≠ L) : ResAt W' r := by
  unfold ResAt at h ⊢
  exact hb r _ h (fun e => hr (Option.some.inj e)) fun c2 fz e => by injection e with _ e _; exact absurd e (by decide)
theorem ResAt.ints {W : World} {r : Nat} (h : ResAt W r) (x y z : Value) : IntsKept W (((W.setCell ⟨r, 0, none⟩ x).setCell ⟨r, 1, none⟩ y).setCell ⟨r, 2, none⟩ z) := fun g cs fz hg => by
  have hne : g ≠ r := fun e => by
    subst e
    unfold ResAt at h
    rw [h] at hg
    injection hg with hg
    injection hg with _ e _
    exact absurd e (by decide)
  rw [Below.heap_setCell _ _ _ _ hne, Below.heap_setCell _ _ _ _ hne, Below.heap_setCell _ _ _ _ hne]
theorem ins_at {w : World} {p : Option Addr} {is : List I5} (h : InsAt w p is) (k : Nat) (hk : k < is.length) : ∃ b off, p = some ⟨b, off, none⟩ ∧ b < w.heap.size ∧ w.cell? ⟨b, off + k * 5, none⟩ = some (.int .i64 is[k].1) ∧ w.cell? ⟨b, off + k * 5 + 1, none⟩ = some (.int .i64 is[k].2.1) ∧ w.cell? ⟨b, off + k * 5 + 2, none⟩ = some (.int .i64 is[k].2.2.1) ∧ w.cell? ⟨b, off + k * 5 + 3, none⟩ = some (.int .i64 is[k].2.2.2.1) ∧ w.cell? ⟨b, off + k * 5 + 4, none⟩ = some (.string is[k].2.2.2.2) := by
  rcases h with h | ⟨b, off, e, hl, h⟩
  · omega
  · exact ⟨b, off, e, hl, h k hk⟩
/-- What is asked of the function that is asked ahead of each instruction, and of its state. -/
structure Asked (f : FuncId) (L : Nat) (fuel : Int) (St : World → List Nat → Prop) : Prop where
  may : ∀ (k : Nat) (d : List Nat) (W : World), k ≤ 1200 → d.length ≤ 1200 → L < W.heap.size → St W d → Calls Tryd.prog f #[.int .i64 (k : Int), .pointer (some ⟨L, 0, none⟩)] W fun e w' => e = .returned (errV (mayE fuel d)) ∧ Aside (mayE fuel d = 0 → St w' (d ++ [k])) ∧ Aside (LKeeps L W w')
  keep : ∀ W W' d, L < W.heap.size → Below (L + 1) W W' → IntsKept W W' → St W d → St W' d
set_option maxHeartbeats 8000000 in
set_option maxRecDepth 20000 in
theorem follow_any (f : FuncId) (hent : ∀ (args : Array Value) (W : World), Sem.run Tryd.prog (callFunc f args) W = .ok (.enter f args) W) (L : Nat) (fuel : Int) (St : World → List Nat → Prop) (is : List I5) (p : Option Addr) (N c : Nat) (pr : Option Addr) (nr cr : Nat) (rs : List V3) (zs : List (ByteArray × Int)) (l : List Pl) (t : Int) (w : World)
    (hL : L < w.heap.size) (henv : ∀ W, Below L w W → REnv W) (hI : ∀ W, Below L w W → InsAt W p is) (hN : is.length = N) (hR : ∀ W, Below L w W → ∃ rb ro, pr = some ⟨rb, ro, none⟩ ∧ rb < L ∧ ∀ j (h : j < rs.length), W.cell? ⟨rb, ro + j * 3, none⟩ = some (.int .i64 rs[j].1) ∧ W.cell? ⟨rb, ro + j * 3 + 1, none⟩ = some (.int .i64 rs[j].2.1) ∧ W.cell? ⟨rb, ro + j * 3 + 2, none⟩ = some (.string rs[j].2.2)) (hnr : rs.length = nr)
    (hrow : RowR zs rs) (hb : ∀ i ∈ is, inB i.2.2.2.1) (hsnd : Snd zs is l t) (ask : Asked f L fuel St) (h0 : St w []) (R : Rn) (hRn : runP rs fuel is 0 0 [] [] = R) (v : V3) (hv : (if R.2.2.2 = 0 then R.2.1.headD noV else noV) = v) :
    Calls Tryd.prog 46 #[.slice p N c, .slice pr nr cr, .func (.func f) #[] #[.pointer (some ⟨L, 0, none⟩)]] w fun e w' => e = .returned (.tuple #[.agg #[.int .i64 v.1, .int .i64 v.2.1, .string v.2.2], .int .i64 R.2.2.1.length, errV R.2.2.2]) ∧ Aside (R.2.2.2 = 0 → St w' R.2.2.1) ∧ Aside (Below L w w') := by
  obtain ⟨PST, hPST⟩ : ∃ PST : Ending → World → Prop, (fun (e : Ending) (w' : World) => e = .returned (.tuple #[.agg #[.int .i64 v.1, .int .i64 v.2.1, .string v.2.2], .int .i64 R.2.2.1.length, errV R.2.2.2]) ∧ Aside (R.2.2.2 = 0 → St w' R.2.2.1) ∧ Aside (Below L w w')) = PST := ⟨_, rfl⟩
  have HPE : Hid (∀ e w', (e = .returned (.tuple #[.agg #[.int .i64 v.1, .int .i64 v.2.1, .string v.2.2], .int .i64 R.2.2.1.length, errV R.2.2.2]) ∧ Aside (R.2.2.2 = 0 → St w' R.2.2.1) ∧ Aside (Below L w w')) → PST e w') := by
    intro e w' h
    rw [← hPST]
    exact h
  rw [hPST]
  clear hPST
  have HEN : Aside (∀ W, Below L w W → REnv W) := henv
  have HI : Aside (∀ W, Below L w W → InsAt W p is) := hI
  have HR : Aside (∀ W, Below L w W → ∃ rb ro, pr = some ⟨rb, ro, none⟩ ∧ rb < L ∧ ∀ j (h : j < rs.length), W.cell? ⟨rb, ro + j * 3, none⟩ = some (.int .i64 rs[j].1) ∧ W.cell? ⟨rb, ro + j * 3 + 1, none⟩ = some (.int .i64 rs[j].2.1) ∧ W.cell? ⟨rb, ro + j * 3 + 2, none⟩ = some (.string rs[j].2.2)) := hR
  have HN : Hid (is.length = N) := hN
  have HNR : Hid (rs.length = nr) := hnr
  have HROW : Aside (RowR zs rs) := hrow
  have HB : Aside (∀ i ∈ is, inB i.2.2.2.1) := hb
  have HSND : Aside (Snd zs is l t) := hsnd
  have HASK : Aside (Asked f L fuel St) := ask
  have HV : Hid ((if R.2.2.2 = 0 then R.2.1.headD noV else noV) = v) := hv
  have HRN : Hid (runP rs fuel (is.drop 0) 0 0 [] [] = R) := hRn
  have hN12 : N ≤ 1200 := by rw [← hN]; exact hsnd.most
  have hW0 : Below w.heap.size w ((w.alloc (.cells #[.int .i64 0, .int .i64 0, .string ⟨#[]⟩] 23)).alloc (.cells #[.int .i64 0, .slice pr nr cr, .slice none 0 0] 122)) := ((Below.refl _ w).alloc (Nat.le_refl _) _).alloc (by simp) _
  have M0 : Aside (MchAt ((w.alloc (.cells #[.int .i64 0, .int .i64 0, .string ⟨#[]⟩] 23)).alloc (.cells #[.int .i64 0, .slice pr nr cr, .slice none 0 0] 122)) (w.heap.size + 1) ((0 : Nat) : Int) (.slice pr nr cr) none 0 []) := by
    refine ⟨⟨#[.int .i64 0, .slice pr nr cr, .slice none 0 0], ?_⟩, ?_, ?_, ?_, World.ownsRow_nil _ _ _ _⟩
    · have := heap_alloc_new (w.alloc (.cells #[.int .i64 0, .int .i64 0, .string ⟨#[]⟩] 23)) (.cells #[.int .i64 0, .slice pr nr cr, .slice none 0 0] 122)
      simpa using this
    · rw [World.cell?_alloc_at _ _ _ _ (by simp)]; rfl
    · rw [World.cell?_alloc_at _ _ _ _ (by simp)]; rfl
    · rw [World.cell?_alloc_at _ _ _ _ (by simp)]; rfl
  have R0 : Aside (ResAt ((w.alloc (.cells #[.int .i64 0, .int .i64 0, .string ⟨#[]⟩] 23)).alloc (.cells #[.int .i64 0, .slice pr nr cr, .slice none 0 0] 122)) w.heap.size) := by
    unfold ResAt Aside
    rw [Below.heap_alloc _ _ _ (by simp)]
    have := heap_alloc_new w (.cells #[.int .i64 0, .int .i64 0, .string ⟨#[]⟩] 23)
    exact this
  have S0 : Aside (St ((w.alloc (.cells #[.int .i64 0, .int .i64 0, .string ⟨#[]⟩] 23)).alloc (.cells #[.int .i64 0, .slice pr nr cr, .slice none 0 0] 122)) []) := ask.keep _ _ _ hL (hW0.mono hL) (IntsKept.of_below hW0) h0
  have BW0 : Aside (Below L w ((w.alloc (.cells #[.int .i64 0, .int .i64 0, .string ⟨#[]⟩] 23)).alloc (.cells #[.int .i64 0, .slice pr nr cr, .slice none 0 0] 122))) := hW0.mono (Nat.le_of_lt hL)
  have A0 : Aside (AtPl l 0 []) := ⟨[], hsnd.start, StkR.nil⟩
  clear henv hI hR hN hnr hrow hb hsnd ask hv hRn hW0 h0
  go_enter Tryd.func46, Tryd.ntmps46
  go_wp2
  generalize (w.alloc (.cells #[.int .i64 0, .int .i64 0, .string ⟨#[]⟩] 23)).alloc (.cells #[.int .i64 0, .slice pr nr cr, .slice none 0 0] 122) = W0 at M0 R0 S0 BW0 ⊢
  go_loopg [10, 11, 12] N (fun gg s10 _ _ wr => ∃ (kk : Nat) (st : List V3) (d : List Nat) (q : Option Addr) (c1 : Nat), kk ≤ N ∧ N - kk ≤ gg ∧ s10 = .int .i64 (d.length : Int) ∧ Aside (MchAt wr (w.heap.size + 1) (kk : Int) (.slice pr nr cr) q c1 st) ∧ Aside (ResAt wr w.heap.size) ∧ Aside (St wr d) ∧ Aside (Below L w wr) ∧ Aside (AtPl l kk st) ∧ Hid (st.length ≤ 64 ∧ d.length ≤ kk) ∧ Hid (runP rs fuel (is.drop kk) kk 0 st d = R))
  case atStart => exact ⟨0, [], [], none, 0, Nat.zero_le _, by omega, rfl, M0, R0, S0, BW0, A0, (show Hid _ from ⟨Nat.zero_le _, Nat.zero_le _⟩), HRN⟩
  case round =>
    obtain ⟨kk, st, d, q, c1, hkk, hg, rfl, MR, RR, SR, BR, AR, HL, HE⟩ := hrel
    clear M0 R0 S0 BW0 A0 HRN
    have hbr := BR.out.size
    have hLr : L < wr.heap.size := by omega
    have m0 := MR.out.2.1
    have hbl := MR.out.lt
    by_cases hlt : kk < N
    · have hltz : (kk : Int) < (N : Int) := by omega
      have h0z : (0 : Int) ≤ (kk : Int) := by omega
      have hki : kk < is.length := by rw [HN.out]; exact hlt
      have hd12 : d.length ≤ 1200 := by have := HL.out; omega
      have cM := HASK.out.may kk d wr (by omega) hd12 hLr SR.out
      obtain ⟨hA, hnx⟩ := HSND.out.next HROW.out HB.out hki AR.out
      have hneed := HSND.out.need hki AR.out
      have hE := HE.out
      rw [run_at hki (fun h => by
        rcases hnx with ⟨_, h2, _⟩ | h9
        · exact h2
        · rw [h9] at h; exact absurd h (by decide))] at hE
      by_cases hf : (d.length : Int) = fuel
      · rw [if_pos hf] at hE
        have hme : mayE fuel d = 10 := if_pos hf
        rw [hme] at cM
        simp only [show errV 10 = .iface 37 (.int .i64 10) from rfl] at cM
        subst hE
        have hv0 : noV = v := by have := HV.out; simpa using this
        subst hv0
        clear hA hnx hneed hf hme
        go_wp2_with fail
        refine cM.mono ?_
        rintro e w2 ⟨rfl, S2, K2⟩
        obtain ⟨r0, r1, r2, rf, rl⟩ := (RR.out.others K2.out.2 (by omega)).cells
        have B2 : Below L w w2 := BR.out.trans K2.out.1
        clear cM S2 K2 MR RR SR BR m0
        go_wp2
        refine bodyPost_ret (v := .tuple #[.agg #[.int .i64 0, .int .i64 0, .string ⟨#[]⟩], .int .i64 (d.length : Int), .iface 37 (.int .i64 10)]) (by simp [results, Tryd.results46, go_sem, World.cell?_setCell_other, World.cell?_setCell_same, r0, r1, r2]) rfl ?_
        refine HPE.out _ _ ⟨rfl, (show Aside _ from fun h => absurd h (by decide)), ?_⟩
        exact (show Aside _ from ((B2.setCell (p := ⟨w.heap.size, 0, none⟩) (Nat.le_of_lt hL) _).setCell (p := ⟨w.heap.size, 1, none⟩) (Nat.le_of_lt hL) _).setCell (p := ⟨w.heap.size, 2, none⟩) (Nat.le_of_lt hL) _)
      · rw [if_neg hf] at hE
        have hme : mayE fuel d = 0 := if_neg hf
        rw [hme] at cM
        simp only [show errV 0 = .nilIface from rfl] at cM
        have HE2 : Hid ((if (vmI rs st is[kk]).2.2 ≠ 0 then (0, st, d, (vmI rs st is[kk]).2.2) else runP rs fuel (is.drop (kk + 1 + (vmI rs st is[kk]).2.1)) (kk + 1 + (vmI rs st is[kk]).2.1) 0 (vmI rs st is[kk]).1 (d ++ [kk])) = R) := hE
        have HNX : Hid ((vmI rs st is[kk]).2.2 = 0 ∧ kk + 1 + (vmI rs st is[kk]).2.1 ≤ is.length ∧ AtPl l (kk + 1 + (vmI rs st is[kk]).2.1) (vmI rs st is[kk]).1 ∧ (vmI rs st is[kk]).1.length ≤ 64 ∨ (vmI rs st is[kk]).2.2 = 9) := hnx
        have HAA : Hid (argE is[kk] zs.length ((is.length : Int) - ((kk : Int) + 1)) = 0 ∧ needN is[kk] ≤ st.length) := ⟨hA, hneed⟩
        clear hA hnx hneed hf hme HE hE
        go_wp2_with fail
        refine cM.mono ?_
        rintro e w2 ⟨rfl, S2, K2⟩
        have S2' : Aside (St w2 (d ++ [kk])) := S2.out trivial
        have B2 : Aside (Below L w w2) := BR.out.trans K2.out.1
        have M2 : Aside (MchAt w2 (w.heap.size + 1) (kk : Int) (.slice pr nr cr) q c1 st) := MR.out.others (by omega) K2.out.2
        have R2 : Aside (ResAt w2 w.heap.size) := RR.out.others K2.out.2 (by omega)
        have m2 := M2.out.2.1
        have hb2 := M2.out.lt
        obtain ⟨ib, io, rfl, hib, d0, d1, d2, d3, d4⟩ := ins_at (HI.out w2 B2.out) kk hki
        clear cM S2 K2 MR RR SR BR m0
        obtain ⟨rb, ro, hpr, hrb, hcell⟩ := HR.out w2 B2.out
        obtain ⟨⟨S', sk, E⟩, hvm⟩ : ∃ r, vmI rs st is[kk] = r := ⟨_, rfl⟩
        have hrl : rs.length = zs.length := HROW.out.1
        have cS := vStep_any (w.heap.size + 1) kk pr cr nr q c1 st rs is[kk] zs.length ((is.length : Int) - ((kk : Int) + 1)) w2 (fun W hW => HEN.out W (B2.out.trans (hW.mono (by omega)))) M2.out (by omega) HL.out.1 HNR.out (by omega) (by have := HN.out; omega) ⟨rb, ro, hpr, by omega, hcell⟩ HAA.out.1 HAA.out.2 AR.out.sized S' sk E hvm
        rw [hvm] at HE2 HNX
        simp only at HE2 HNX
        have hIN : is.length = N := HN.out
        rw [hIN] at HNX
        clear hvm hcell hpr hrl HAA hIN
        generalize is[kk] = y at d0 d1 d2 d3 d4 cS
        obtain ⟨ya, yg, yt, yn, ys⟩ := y
        simp only [insW] at d0 d1 d2 d3 d4 cS
        by_cases hE0 : E = 0
        · subst hE0
          simp only [show errV 0 = .nilIface from rfl] at cS
          obtain ⟨hle, hat, h64⟩ : kk + 1 + sk ≤ N ∧ AtPl l (kk + 1 + sk) S' ∧ S'.length ≤ 64 := by
            rcases HNX.out with ⟨_, h1, h2, h3⟩ | h9
            · exact ⟨h1, h2, h3⟩
            · exact absurd h9 (by decide)
          have HE3 : Hid (runP rs fuel (is.drop (kk + 1 + sk)) (kk + 1 + sk) 0 S' (d ++ [kk]) = R) := by
            have := HE2.out
            rwa [if_neg (by simp)] at this
          have HL3 : Hid (S'.length ≤ 64 ∧ (d ++ [kk]).length ≤ kk + 1 + sk) := ⟨h64, by have := HL.out.2; simp; omega⟩
          have AT3 : Aside (AtPl l (kk + 1 + sk) S') := hat
          have hdz : (d.length : Int) ≤ 1200 := by omega
          clear HE2 HNX hat h64 HL
          go_wp2_with fail
          refine cS.mono ?_
          rintro e w3 ⟨rfl, M3, K3⟩
          obtain ⟨q3, c3, hM3⟩ := M3.out trivial
          have M4 : Aside (MchAt w3 (w.heap.size + 1) ((kk + 1 + sk : Nat) : Int) (.slice pr nr cr) q3 c3 S') := hM3
          have B4 : Aside (Below L w w3) := B2.out.trans (K3.out.1.mono (by omega))
          have R4 : Aside (ResAt w3 w.heap.size) := R2.out.below K3.out.1 (by omega)
          have S4 : Aside (St w3 (d ++ [kk])) := HASK.out.keep _ _ _ (by omega) (K3.out.1.mono (by omega)) (K3.out.ints M2.out) S2'.out
          clear hM3 M3 K3 M2 B2 R2 S2' cS
          go_wp2
          go_roundg (N - (kk + 1 + sk))
          case measure => omega
          case rel => exact ⟨kk + 1 + sk, S', d ++ [kk], q3, c3, hle, by omega, by simp; try go_num, M4, R4, S4, B4, AT3, HL3, HE3⟩
        · have hR2 := HE2.out
          rw [if_pos hE0] at hR2
          subst hR2
          have hv0 : noV = v := by have := HV.out; rw [if_neg hE0] at this; exact this
          subst hv0
          have hV : errV E = .iface 37 (.int .i64 E) := by rw [errV, if_neg hE0]
          simp only [hV] at cS
          have HVV : Hid (errV E = .iface 37 (.int .i64 E)) := hV
          have HX : Hid (E ≠ 0) := hE0
          clear HE2 HNX hE0 hV
          go_wp2_with fail
          refine cS.mono ?_
          rintro e w3 ⟨rfl, M3, K3⟩
          have B4 : Below L w w3 := B2.out.trans (K3.out.1.mono (by omega))
          obtain ⟨r0, r1, r2, rf, rl⟩ := (R2.out.below K3.out.1 (by omega)).cells
          clear M3 K3 M2 B2 R2 S2' cS
          go_wp2
          refine bodyPost_ret (v := .tuple #[.agg #[.int .i64 0, .int .i64 0, .string ⟨#[]⟩], .int .i64 (d.length : Int), .iface 37 (.int .i64 E)]) (by simp [results, Tryd.results46, go_sem, World.cell?_setCell_other, World.cell?_setCell_same, r0, r1, r2]) rfl ?_
          refine HPE.out _ _ ⟨by rw [HVV.out]; rfl, (show Aside _ from fun h => absurd h HX.out), ?_⟩
          exact (show Aside _ from below3 B4 (Nat.le_of_lt hL) _ _ _)
    · have hltz : ¬ (kk : Int) < (N : Int) := by omega
      obtain rfl : kk = N := by omega
      have hR2 := HE.out
      rw [List.drop_eq_nil_of_le (by rw [HN.out]; exact Nat.le_refl _), runP] at hR2
      subst hR2
      obtain ⟨⟨vt, vn, vs⟩, rfl, hok⟩ := HSND.out.end (by rw [HN.out]; exact AR.out)
      have hv0 : (vt, vn, vs) = v := by have := HV.out; simpa using this
      subst hv0
      have hs40 : vs.size ≤ 40 := by have := chk_size hok.2.1; simpa using this
      have m2 := MR.out.2.2.2.1
      have ho := MR.out.2.2.2.2
      simp only [List.length_singleton] at m2 ho
      obtain ⟨g, rfl, hB, hg5, e0, e1, e2⟩ := own_last (l := 0) ho rfl (show ([(vt, vn, vs)] : List V3).getLast?.getD noV = _ from rfl)
      simp only [Nat.zero_mul, Nat.zero_add] at e0 e1 e2
      have cF := vFresh_any vt vn vs wr hs40
      have RR2 := RR.out
      clear HE ho hok AR HL
      go_wp2_with fail
      refine cF.mono ?_
      rintro e w3 ⟨rfl, b3⟩
      have B4 : Below L w w3 := BR.out.trans (b3.mono (Nat.le_of_lt hLr))
      have S4 : Aside (St w3 d) := HASK.out.keep _ _ _ hLr (b3.mono hLr) (IntsKept.of_below b3) SR.out
      have RS : Aside (ResAt w3 w.heap.size) := RR2.below b3 (by omega)
      obtain ⟨r0, r1, r2, rf, rl⟩ := RS.out.cells
      clear cF b3 MR RR SR BR RR2 m0 m2 e0 e1 e2
      go_wp2
      refine bodyPost_ret (v := .tuple #[.agg #[.int .i64 vt, .int .i64 vn, .string vs], .int .i64 (d.length : Int), .nilIface]) (by simp [results, Tryd.results46, go_sem, World.cell?_setCell_other, World.cell?_setCell_same, r0, r1, r2]) rfl ?_
      refine HPE.out _ _ ⟨rfl, (show Aside _ from fun _ => ?_), (show Aside _ from below3 B4 (Nat.le_of_lt hL) _ _ _)⟩
      refine HASK.out.keep w3 _ _ (by omega) (below3 (Below.refl _ _) (by omega) _ _ _) (RS.out.ints _ _ _) S4.out
/-- The function that Run asks: is there fuel? -/
def LeftAt (L : Nat) (fuel : Int) (W : World) (d : List Nat) : Prop := (∃ cs, W.heap[L]? = some (Obj.cells cs 3 (0, 0))) ∧ W.cell? ⟨L, 0, none⟩ = some (.int .i64 (fuel - (d.length : Int)))
theorem asked_run (L : Nat) (fuel : Int) (hf : 0 ≤ fuel ∧ fuel ≤ 1000000) : Asked 47 L fuel (fun W d => LeftAt L fuel W d ∧ (d.length : Int) ≤ fuel) where
  may k d W hk hd hLW h := by
    obtain ⟨⟨⟨cs, h1⟩, h2⟩, h3⟩ := h
    have hfz : W.frozen? ⟨L, 0, none⟩ = false := by simp [World.frozen?, h1]
    have HH : Hid (W.heap[L]? = some (Obj.cells cs 3 (0, 0))) := h1
    by_cases he : (d.length : Int) = fuel
    · have hme : mayE fuel d = 10 := if_pos he
      rw [hme]
      have h20 : W.cell? ⟨L, 0, none⟩ = some (.int .i64 0) := by rw [h2, he]; simp
      clear h1 h2 h3 he hme
      go_enter Tryd.func47, Tryd.ntmps47
      go_wp2
      go_ret
      exact ⟨rfl, (show Aside _ from fun h => absurd h (by decide)), (show Aside _ from ⟨Below.refl _ _, Lib.OthersKept.refl _ _ _⟩)⟩
    · have hme : mayE fuel d = 0 := if_neg he
      rw [hme]
      obtain ⟨F, hF⟩ : ∃ F, fuel - (d.length : Int) = F := ⟨_, rfl⟩
      rw [hF] at h2
      have hF0 : 1 ≤ F ∧ F ≤ 1000000 := by omega
      have hFb : (F == 0) = false := by simp; omega
      have P1 : Aside (LeftAt L fuel (W.setCell ⟨L, 0, none⟩ (.int .i64 (F - 1))) (d ++ [k]) ∧ ((d ++ [k]).length : Int) ≤ fuel) := by
        refine ⟨⟨⟨_, Lib.heap_setCell_same h1 _⟩, ?_⟩, by simp; omega⟩
        rw [cell_eq h2]
        congr 2
        simp
        omega
      have K1 : Aside (LKeeps L W (W.setCell ⟨L, 0, none⟩ (.int .i64 (F - 1)))) := ⟨(Below.refl _ _).setCell (p := ⟨L, 0, none⟩) (Nat.le_refl _) _, (Lib.OthersKept.refl _ _ _).setCell ⟨L, 0, none⟩ rfl _⟩
      clear h1 h3 he hme hF HH
      go_enter Tryd.func47, Tryd.ntmps47
      go_wp2
      go_ret
      exact ⟨rfl, (show Aside _ from fun _ => P1.out), K1⟩
  keep W W' d hLW hb hk h := by
    obtain ⟨⟨⟨cs, h1⟩, h2⟩, h3⟩ := h
    exact ⟨⟨⟨cs, by rw [hb.block L (by omega)]; exact h1⟩, by rw [hb.cell (p := ⟨L, 0, none⟩) (by show L < L + 1; omega)]; exact h2⟩, h3⟩
/-- The function that Trace asks: it notes the numbers. -/
def natC (d : List Nat) : List Value := d.map fun (n : Nat) => .int .i64 (n : Int)
def NotedAt (L : Nat) (W : World) (d : List Nat) : Prop := ∃ cs q c, W.heap[L]? = some (Obj.cells cs 70 (0, 0)) ∧ W.cell? ⟨L, 0, none⟩ = some (.slice q d.length c) ∧ W.ownsRow (L + 1) 3 1 (.slice q d.length c) d.length (natC d)
end Go.Proofs.YtkoejkpjkcejcabDoor
