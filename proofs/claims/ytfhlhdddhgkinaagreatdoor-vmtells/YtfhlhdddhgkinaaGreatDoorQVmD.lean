/-
  The document's Run of instructions, at sound code and a row that is right. (Written by wip/gen_vmd.py.)
-/
import Derived.Test.YtfhlhdddhgkinaaGreatDoorGrAq
import Derived.Test.YtfhlhdddhgkinaaGreatDoorGrAt
namespace Go.Proofs.YtfhlhdddhgkinaaGreatDoor
open Go.RowKit
set_option linter.unusedVariables false

theorem own_ne {W : World} {B : Nat} {e : TypeId} {size : Nat} {v : Value} {n : Nat} {xs : List Value} (ho : W.ownsRow B e size v n xs) {X : Nat} {cs : Array Value} {t : TypeId} {fz : Nat × Nat} (hX : W.heap[X]? = some (Obj.cells cs t fz)) (hte : t ≠ e) : some X ≠ v.ownBlock := fun h => by
  rcases ho.2 with ⟨rfl, _⟩ | ⟨g, cap, cur, rfl, _, hg, _⟩
  · simp [Value.ownBlock] at h
  · have : X = g := by simpa [Value.ownBlock] using h
    subst this
    rw [hX] at hg
    injection hg with hg
    injection hg with _ h2 _
    exact hte h2
theorem own_kept {W W' : World} {B e2 : Nat} {e : TypeId} {size s2 : Nat} {v u : Value} {n m : Nat} {xs ys : List Value} (ho : W.ownsRow B e size v n xs) (hu : W.ownsRow B e2 s2 u m ys) (hne : e ≠ e2) (hg : W.grownBy W' v.ownBlock) : W'.ownsRow B e2 s2 u m ys := by
  refine hu.kept hg ?_
  rcases hu.2 with ⟨rfl, _⟩ | ⟨g, cap, cur, rfl, _, hgg, _⟩
  · exact .inl rfl
  · right
    have := own_ne ho hgg (fun h => hne h.symm)
    simpa [Value.ownBlock] using this
/-- The stack and the numbers that were done, as the document has them. -/
def DocAt (B : Nat) (W : World) (q : Option Addr) (c : Nat) (st : List V3) (qd : Option Addr) (cd : Nat) (d : List Nat) : Prop := W.ownsRow B 23 3 (.slice q st.length c) st.length (vcells st) ∧ W.ownsRow B 3 1 (.slice qd d.length cd) d.length (natC d)
theorem DocAt.on {B : Nat} {W W' : World} {q : Option Addr} {c : Nat} {st : List V3} {qd : Option Addr} {cd : Nat} {d : List Nat} (h : DocAt B W q c st qd cd d) (hb : Below W.heap.size W W') : DocAt B W' q c st qd cd d := ⟨lown_below h.1 hb, lown_below h.2 hb⟩
/-- The block of an instruction. -/
def InsBox (W : World) (X : Nat) (i : I5) : Prop := W.heap[X]? = some (Obj.cells #[.int .i64 i.1, .int .i64 i.2.1, .int .i64 i.2.2.1, .int .i64 i.2.2.2.1, .string i.2.2.2.2] 52 (0, 0))
theorem InsBox.cells {W : World} {X : Nat} {i : I5} (h : InsBox W X i) : W.cell? ⟨X, 0, none⟩ = some (.int .i64 i.1) ∧ W.cell? ⟨X, 1, none⟩ = some (.int .i64 i.2.1) ∧ W.cell? ⟨X, 2, none⟩ = some (.int .i64 i.2.2.1) ∧ W.cell? ⟨X, 3, none⟩ = some (.int .i64 i.2.2.2.1) ∧ W.cell? ⟨X, 4, none⟩ = some (.string i.2.2.2.2) ∧ X < W.heap.size := by
  unfold InsBox at h
  exact ⟨by simp [World.cell?, h], by simp [World.cell?, h], by simp [World.cell?, h], by simp [World.cell?, h], by simp [World.cell?, h], (Array.getElem?_eq_some_iff.1 h).1⟩
theorem InsBox.on {W W' : World} {X : Nat} {i : I5} (h : InsBox W X i) (hb : Below W.heap.size W W') : InsBox W' X i := by
  unfold InsBox at h ⊢
  rw [hb.block X (Array.getElem?_eq_some_iff.1 h).1]
  exact h
theorem InsBox.grown {W W' : World} {X : Nat} {i : I5} {B : Nat} {e : TypeId} {size : Nat} {v : Value} {n : Nat} {xs : List Value} (h : InsBox W X i) (ho : W.ownsRow B e size v n xs) (hte : 52 ≠ e) (hg : W.grownBy W' v.ownBlock) : InsBox W' X i := by
  have hne := own_ne ho h hte
  unfold InsBox at h ⊢
  rw [hg.block X (Array.getElem?_eq_some_iff.1 h).1 hne]
  exact h
theorem insBox_new (W : World) (i : I5) : InsBox (W.alloc (.cells #[.int .i64 i.1, .int .i64 i.2.1, .int .i64 i.2.2.1, .int .i64 i.2.2.2.1, .string i.2.2.2.2] 52)) W.heap.size i := heap_alloc_new W _
/-- A value that was appended to the stack. -/
theorem doc_push {B : Nat} {W W' : World} {q q' : Option Addr} {c c' N : Nat} {st : List V3} {qd : Option Addr} {cd : Nat} {d : List Nat} {t n : Int} {s : ByteArray} (h : DocAt B W q c st qd cd d) (hN : st.length = N) (ho : W'.ownsRow B 23 3 (.slice q' (N + 1) c') (N + 1) (vcells st ++ [.int .i64 t, .int .i64 n, .string s])) (hg : W.grownBy W' (Value.slice q N c).ownBlock) : DocAt B W' q' c' (st ++ [(t, n, s)]) qd cd d := by
  have hl : (st ++ [(t, n, s)]).length = N + 1 := by rw [List.length_append, hN]; rfl
  refine ⟨by rw [hl, vcells_append]; exact ho, ?_⟩
  rw [← hN] at hg
  exact own_kept h.1 h.2 (by decide) hg
/-- A number that was appended to those that were done. -/
theorem doc_done {B : Nat} {W W' : World} {q q' : Option Addr} {c c' M k : Nat} {st : List V3} {qd : Option Addr} {cd : Nat} {d : List Nat} (h : DocAt B W q c st qd cd d) (hM : d.length = M) (ho : W'.ownsRow B 3 1 (.slice q' (M + 1) c') (M + 1) (natC d ++ [.int .i64 (k : Int)])) (hg : W.grownBy W' (Value.slice qd M cd).ownBlock) : DocAt B W' q c st q' c' (d ++ [k]) := by
  have hl : (d ++ [k]).length = M + 1 := by rw [List.length_append, hM]; rfl
  refine ⟨?_, ?_⟩
  · rw [← hM] at hg
    exact own_kept h.2 h.1 (by decide) hg
  · rw [hl]
    unfold natC at ho ⊢
    rw [List.map_append]
    exact ho
theorem doc_take {B : Nat} {W : World} {q : Option Addr} {c : Nat} {st : List V3} {qd : Option Addr} {cd : Nat} {d : List Nat} (h : DocAt B W q c st qd cd d) {l : Nat} (hl : l ≤ st.length) (h0 : st.length ≠ 0) : DocAt B W q c (st.take l) qd cd d := ⟨own_take hl h0 h.1, h.2⟩
theorem doc_ints {B : Nat} {W : World} {q : Option Addr} {c : Nat} {st : List V3} {qd : Option Addr} {cd : Nat} {d : List Nat} (h : DocAt (B + 1) W q c st qd cd d) (hr : ResAt W B) (x y z : Value) : IntsAt (((W.setCell ⟨B, 0, none⟩ x).setCell ⟨B, 1, none⟩ y).setCell ⟨B, 2, none⟩ z) qd (natZ d) := by
  refine noted_ints (L := B) (c := cd) ⟨h.2.1, ?_⟩
  rcases h.2.2 with hn | ⟨g, cap, cur, e, h5, hg, rest⟩
  · exact .inl hn
  · exact .inr ⟨g, cap, cur, e, h5, by rw [hr.ints x y z g _ _ hg]; exact hg, rest⟩
theorem grown_below {B : Nat} {W W' : World} {e : TypeId} {size : Nat} {v : Value} {n : Nat} {xs : List Value} (ho : W.ownsRow B e size v n xs) (hg : W.grownBy W' v.ownBlock) (hB : B ≤ W.heap.size) : Below B W W' := (Below.refl B W).grown hg hB fun k hk => (ho.lt k hk).1
/-- What an operation of sound code comes to. -/
theorem do_sound {zs : List (ByteArray × Int)} {T : List Int} {st : List V3} {g t n : Int} {s : ByteArray} (h : (aftP T (3, g, t, n, s) zs).2 = 0) (hs : StkR T st) : ∃ T2, ruleP (opN g) ((st.drop (st.length - cntN (opN g))).map (·.1)) = (T2, 0) ∧ (∀ v ∈ st.drop (st.length - cntN (opN g)), chk v.1 v.2.1 v.2.2.data.toList = 0) ∧ doP (opN g) (st.drop (st.length - cntN (opN g))) = appP (opN g) (st.drop (st.length - cntN (opN g))) := by
  have hn : needN (3, g, t, n, s) = cntN (opN g) := by rw [needN, if_pos rfl]
  have hd := hs.drop (st.length - cntN (opN g))
  unfold aftP at h
  split at h
  · exact absurd h (by simp)
  split at h
  · rename_i h3; exact absurd h h3
  rename_i h3
  have h3' := Classical.not_not.1 h3
  rw [hn] at h3'
  have e2 : layP (3, g, t, n, s) (T.drop (T.length - cntN (opN g))) zs = ([(ruleP (opN g) (T.drop (T.length - cntN (opN g)))).1], (ruleP (opN g) (T.drop (T.length - cntN (opN g)))).2) := by rw [layP, if_neg (show ¬ (3 : Int) = 1 by decide), if_neg (show ¬ (3 : Int) = 2 by decide), if_pos rfl]
  rw [e2] at h3'
  simp only at h3'
  have hv : ∀ v ∈ st.drop (st.length - cntN (opN g)), chk v.1 v.2.1 v.2.2.data.toList = 0 := fun v hv => (hd.2 v hv).2.1
  have hr : ruleP (opN g) ((st.drop (st.length - cntN (opN g))).map (·.1)) = ((ruleP (opN g) (T.drop (T.length - cntN (opN g)))).1, 0) := by
    rw [hd.1, hs.len]
    exact Prod.ext rfl h3'
  refine ⟨_, hr, hv, ?_⟩
  rw [doP, if_neg (by simp [vlE_zero.2 hv]), hr, if_neg (by simp)]
theorem one1 (k : Nat) : ∀ u ∈ ([.int .i64 (k : Int)] : List Value), u.oneCell' = true := by
  intro u hu
  simp at hu
  subst hu; rfl
theorem arity_do {g : Int} (h : opE g = 0) : arityT (opN g) = (cntN (opN g) : Int) := by
  have hg : 2 ≤ g ∧ g < 16 := by
    apply Classical.byContradiction
    intro hh
    rw [opE, if_neg hh] at h
    exact absurd h (by decide)
  obtain ⟨k, rfl⟩ : ∃ k : Nat, g = k := ⟨g.toNat, by omega⟩
  have : k = 2 ∨ k = 3 ∨ k = 4 ∨ k = 5 ∨ k = 6 ∨ k = 7 ∨ k = 8 ∨ k = 9 ∨ k = 10 ∨ k = 11 ∨ k = 12 ∨ k = 13 ∨ k = 14 ∨ k = 15 := by omega
  rcases this with rfl | rfl | rfl | rfl | rfl | rfl | rfl | rfl | rfl | rfl | rfl | rfl | rfl | rfl <;> decide
set_option maxHeartbeats 16000000 in
set_option maxRecDepth 20000 in
theorem refRun_any (is : List I5) (p : Option Addr) (N c : Nat) (pr : Option Addr) (nr cr : Nat) (rs : List V3) (zs : List (ByteArray × Int)) (l : List Pl) (t : Int) (fuel : Int) (w : World)
    (hi : InsAt w p is) (hN : is.length = N) (hR : ∃ rb ro, pr = some ⟨rb, ro, none⟩ ∧ rb < w.heap.size ∧ ∀ W, Below w.heap.size w W → ∀ j (h : j < rs.length), W.cell? ⟨rb, ro + j * 3, none⟩ = some (.int .i64 rs[j].1) ∧ W.cell? ⟨rb, ro + j * 3 + 1, none⟩ = some (.int .i64 rs[j].2.1) ∧ W.cell? ⟨rb, ro + j * 3 + 2, none⟩ = some (.string rs[j].2.2)) (hnr : rs.length = nr)
    (hrow : RowR zs rs) (hb : ∀ i ∈ is, inB i.2.2.2.1) (hsnd : Snd zs is l t) (R : Rn) (hRn : runP rs fuel is 0 0 [] [] = R) (v : V3) (hv : (if R.2.2.2 = 0 then R.2.1.headD noV else noV) = v) :
    Calls Tryz.prog 19 #[.slice p N c, .slice pr nr cr, .int .i64 fuel] w fun e w' => (∃ qd cd, e = .returned (.tuple #[.agg #[.int .i64 v.1, .int .i64 v.2.1, .string v.2.2], .slice qd R.2.2.1.length cd, .int .i64 R.2.2.2]) ∧ Aside (IntsAt w' qd (natZ R.2.2.1))) ∧ Below w.heap.size w w' := by
  obtain ⟨PST, hPST⟩ : ∃ PST : Ending → World → Prop, (fun (e : Ending) (w' : World) => (∃ qd cd, e = .returned (.tuple #[.agg #[.int .i64 v.1, .int .i64 v.2.1, .string v.2.2], .slice qd R.2.2.1.length cd, .int .i64 R.2.2.2]) ∧ Aside (IntsAt w' qd (natZ R.2.2.1))) ∧ Below w.heap.size w w') = PST := ⟨_, rfl⟩
  have HPE : Hid (∀ e w', ((∃ qd cd, e = .returned (.tuple #[.agg #[.int .i64 v.1, .int .i64 v.2.1, .string v.2.2], .slice qd R.2.2.1.length cd, .int .i64 R.2.2.2]) ∧ Aside (IntsAt w' qd (natZ R.2.2.1))) ∧ Below w.heap.size w w') → PST e w') := by
    intro e w' h
    rw [← hPST]
    exact h
  rw [hPST]
  clear hPST
  obtain ⟨i0, hi0, hz0, hz1, hz2⟩ := info_parts info_val
  obtain ⟨j0, hj0, hy0, hy1, hy2⟩ := info_parts info_int
  obtain ⟨rb, ro, rfl, hrb, hcell⟩ := hR
  have HC : Aside (∀ W, Below w.heap.size w W → ∀ j (h : j < rs.length), W.cell? ⟨rb, ro + j * 3, none⟩ = some (.int .i64 rs[j].1) ∧ W.cell? ⟨rb, ro + j * 3 + 1, none⟩ = some (.int .i64 rs[j].2.1) ∧ W.cell? ⟨rb, ro + j * 3 + 2, none⟩ = some (.string rs[j].2.2)) := hcell
  have HI : Aside (InsAt w p is) := hi
  have HN : Hid (is.length = N) := hN
  have HNR : Hid (rs.length = nr) := hnr
  have HROW : Aside (RowR zs rs) := hrow
  have HB : Aside (∀ i ∈ is, inB i.2.2.2.1) := hb
  have HSND : Aside (Snd zs is l t) := hsnd
  have HV : Hid ((if R.2.2.2 = 0 then R.2.1.headD noV else noV) = v) := hv
  have HRN : Hid (runP rs fuel (is.drop 0) 0 0 [] [] = R) := hRn
  have hN12 : N ≤ 1200 := by rw [← hN]; exact hsnd.most
  have hW0 := alB w (.cells #[.int .i64 0, .int .i64 0, .string ⟨#[]⟩] 23)
  have R0 : Aside (ResAt (w.alloc (.cells #[.int .i64 0, .int .i64 0, .string ⟨#[]⟩] 23)) w.heap.size) := heap_alloc_new w (.cells #[.int .i64 0, .int .i64 0, .string ⟨#[]⟩] 23)
  have BW0 : Aside (Below w.heap.size w (w.alloc (.cells #[.int .i64 0, .int .i64 0, .string ⟨#[]⟩] 23))) := hW0
  have A0 : Aside (AtPl l 0 []) := ⟨[], hsnd.start, StkR.nil⟩
  have hsz0 : w.heap.size < (w.alloc (.cells #[.int .i64 0, .int .i64 0, .string ⟨#[]⟩] 23)).heap.size := by simp
  clear hcell hi hN hnr hrow hb hsnd hv hRn hW0
  go_enter Tryz.func19, Tryz.ntmps19
  go_wp2
  generalize w.alloc (.cells #[.int .i64 0, .int .i64 0, .string ⟨#[]⟩] 23) = W0 at R0 BW0 hsz0 ⊢
  go_loopg [9, 10, 11, 12, 13, 14, 15, 16, 17, 18, 19, 20] N (fun gg s9 s10 s11 _ _ _ _ _ _ _ _ _ wr => ∃ (kk : Nat) (st : List V3) (d : List Nat) (q : Option Addr) (c1 : Nat) (qd : Option Addr) (cd : Nat), kk ≤ N ∧ N - kk ≤ gg ∧ s9 = .slice q st.length c1 ∧ s10 = .slice qd d.length cd ∧ s11 = .int .i64 (kk : Int) ∧ Aside (DocAt (w.heap.size + 1) wr q c1 st qd cd d) ∧ Aside (ResAt wr w.heap.size) ∧ Aside (Below w.heap.size w wr) ∧ Aside (AtPl l kk st) ∧ Hid (st.length ≤ 64 ∧ d.length ≤ kk) ∧ Hid (runP rs fuel (is.drop kk) kk 0 st d = R))
  case atStart => exact ⟨0, [], [], none, 0, none, 0, Nat.zero_le _, by omega, rfl, rfl, rfl, (show Aside _ from ⟨World.ownsRow_nil _ _ _ _, World.ownsRow_nil _ _ _ _⟩), R0, BW0, A0, (show Hid _ from ⟨Nat.zero_le _, Nat.zero_le _⟩), HRN⟩
  case round =>
    obtain ⟨kk, st, d, q, c1, qd, cd, hkk, hg, rfl, rfl, rfl, DR, RR, BR, AR, HL, HE⟩ := hrel
    clear R0 BW0 A0 HRN hsz0
    have hbr := BR.out.size
    have hwr : w.heap.size < wr.heap.size := RR.out.cells.2.2.2.2
    have h64 : st.length ≤ 64 := HL.out.1
    have hdk : d.length ≤ kk := HL.out.2
    by_cases hlt : kk < N
    · have hltz : (kk : Int) < (N : Int) := by omega
      have h0z : (0 : Int) ≤ (kk : Int) := by omega
      have hkz : (kk : Int) ≤ 1200 := by omega
      have hki : kk < is.length := by rw [HN.out]; exact hlt
      obtain ⟨hA, hnx⟩ := HSND.out.next HROW.out HB.out hki AR.out
      have hneed := HSND.out.need hki AR.out
      have hE := HE.out
      rw [run_at hki (fun h => by
        rcases hnx with ⟨_, h2, _⟩ | h9
        · exact h2
        · rw [h9] at h; exact absurd h (by decide))] at hE
      by_cases hf : (d.length : Int) = fuel
      · rw [if_pos hf] at hE
        subst hE
        have hv0 : noV = v := by have := HV.out; simpa using this
        subst hv0
        have hfb : ((d.length : Int) == fuel) = true := by simpa using hf
        have I2 : Aside (IntsAt (((wr.setCell ⟨w.heap.size, 0, none⟩ (.int .i64 0)).setCell ⟨w.heap.size, 1, none⟩ (.int .i64 0)).setCell ⟨w.heap.size, 2, none⟩ (.string ⟨#[]⟩)) qd (natZ d)) := doc_ints DR.out RR.out _ _ _
        obtain ⟨r0, r1, r2, rf, rl⟩ := RR.out.cells
        have B2 := BR.out
        clear hA hnx hneed hf DR RR BR AR HL HE
        go_wp2
        refine bodyPost_ret (v := .tuple #[.agg #[.int .i64 0, .int .i64 0, .string ⟨#[]⟩], .slice qd d.length cd, .int .i64 10]) (by simp [results, Tryz.results19, go_sem, World.cell?_setCell_other, World.cell?_setCell_same, r0, r1, r2]) rfl ?_
        refine HPE.out _ _ ⟨⟨qd, cd, rfl, I2⟩, ?_⟩
        exact below3 B2 (Nat.le_refl _) _ _ _
      · rw [if_neg hf] at hE
        have hfb : ((d.length : Int) == fuel) = false := by simpa using hf
        obtain ⟨⟨S', sk, E⟩, hvm⟩ : ∃ r, vmI rs st is[kk] = r := ⟨_, rfl⟩
        rw [hvm] at hE hnx
        simp only at hE hnx
        obtain ⟨ib, io, rfl, hib, d0, d1, d2, d3, d4⟩ := ins_at (HI.out.on BR.out) kk hki
        have hszd := AR.out.sized
        obtain ⟨TT, hTT, hTS⟩ := AR.out
        obtain ⟨T', e1, -, e3, -⟩ := HSND.out.step kk hki
        rw [hTT] at e1
        obtain rfl : TT = T' := Option.some.inj (Option.some.inj e1)
        have hIN : is.length = N := HN.out
        rw [hIN] at hA hnx
        have HE2 : Hid ((if E ≠ 0 then (0, st, d, E) else runP rs fuel (is.drop (kk + 1 + sk)) (kk + 1 + sk) 0 S' (d ++ [kk])) = R) := hE
        have HNX : Hid (E = 0 ∧ kk + 1 + sk ≤ N ∧ AtPl l (kk + 1 + sk) S' ∧ S'.length ≤ 64 ∨ E = 9) := hnx
        have HAF : Hid ((aftP TT is[kk] zs).2 = 0 ∧ StkR TT st) := ⟨e3, hTS⟩
        generalize is[kk] = y at d0 d1 d2 d3 d4 hvm hA hneed HAF
        obtain ⟨ya, yg, yt, yn, ys⟩ := y
        unfold vmI at hvm
        unfold argE at hA
        simp only at hvm hA d0 d1 d2 d3 d4
        have HBX : Aside (InsBox (wr.alloc (.cells #[.int .i64 ya, .int .i64 yg, .int .i64 yt, .int .i64 yn, .string ys] 52)) wr.heap.size (ya, yg, yt, yn, ys)) := insBox_new wr (ya, yg, yt, yn, ys)
        have DX : Aside (DocAt (w.heap.size + 1) (wr.alloc (.cells #[.int .i64 ya, .int .i64 yg, .int .i64 yt, .int .i64 yn, .string ys] 52)) q c1 st qd cd d) := DR.out.on (alB _ _)
        have RX : Aside (ResAt (wr.alloc (.cells #[.int .i64 ya, .int .i64 yg, .int .i64 yt, .int .i64 yn, .string ys] 52)) w.heap.size) := RR.out.below (alB wr _) hwr
        have BX : Aside (Below w.heap.size w (wr.alloc (.cells #[.int .i64 ya, .int .i64 yg, .int .i64 yt, .int .i64 yn, .string ys] 52))) := BR.out.alloc hbr _
        clear hf hE hnx hszd hTT hTS e1 e3 hIN DR RR BR AR HL HE
        by_cases w1 : ya = 1
        · subst w1
          rw [if_pos rfl] at hvm
          simp only [Prod.mk.injEq] at hvm
          obtain ⟨rfl, rfl, rfl⟩ := hvm
          obtain ⟨hle, hat, hs64⟩ : kk + 1 + 0 ≤ N ∧ AtPl l (kk + 1 + 0) (st ++ [(yt, yn, ys)]) ∧ (st ++ [(yt, yn, ys)]).length ≤ 64 := by
            rcases HNX.out with ⟨_, h1, h2, h3⟩ | h9
            · exact ⟨h1, h2, h3⟩
            · exact absurd h9 (by decide)
          have HE3 : Hid (runP rs fuel (is.drop (kk + 1 + 0)) (kk + 1 + 0) 0 (st ++ [(yt, yn, ys)]) (d ++ [kk]) = R) := by
            have := HE2.out
            rwa [if_neg (by simp)] at this
          have HL3 : Hid ((st ++ [(yt, yn, ys)]).length ≤ 64 ∧ (d ++ [kk]).length ≤ kk + 1 + 0) := ⟨hs64, by simp; omega⟩
          have AT3 : Aside (AtPl l (kk + 1 + 0) (st ++ [(yt, yn, ys)])) := hat
          clear HE2 HNX hat hs64
          obtain ⟨x0, x1, x2, x3, x4, hX⟩ := HBX.out.cells
          simp only at x0 x1 x2 x3 x4
          go_wp2_with (at_builtin; refine wpList_append_own _ rfl _ _ 28 rfl (w.heap.size + 1) 23 i0 _ 3 32 Tryz.underlying28 hi0 hz0 hz1 hz2 rfl (by decide) _ _ _ rfl (DX.out.1.alloc _) ⟨wr.heap.size + 1, 0, none⟩ 1 1 [.int .i64 yt, .int .i64 yn, .string ys] rfl rfl (news_one (by simp) _) (one3 _ _ _) (by simp [maxLen]; omega) (by omega) (by simp; omega) ?_)
          intro v' w2 hown' hgrow _
          obtain ⟨q2, c2, rfl⟩ := lown_slice hown'
          have DA := DX.out.on (alB _ (.cells #[.int .i64 yt, .int .i64 yn, .string ys] 23))
          have D2 : Aside (DocAt (w.heap.size + 1) w2 q2 c2 (st ++ [(yt, yn, ys)]) qd cd d) := doc_push DA rfl hown' hgrow
          have X2 : Aside (InsBox w2 wr.heap.size _) := (HBX.out.on (alB _ _)).grown DA.1 (by decide) hgrow
          have bg := ((Below.refl (w.heap.size + 1) _).alloc (by simp; omega) (.cells #[.int .i64 yt, .int .i64 yn, .string ys] 23)).trans (grown_below DA.1 hgrow (by simp; omega))
          have R2 : Aside (ResAt w2 w.heap.size) := RX.out.below bg (Nat.lt_succ_self _)
          have B2 : Aside (Below w.heap.size w w2) := BX.out.trans (bg.mono (Nat.le_succ _))
          have hw2 : w.heap.size < w2.heap.size := R2.out.cells.2.2.2.2
          clear hown' hgrow DA bg DX HBX RX BX
          obtain ⟨x0, x1, x2, x3, x4, hX⟩ := X2.out.cells
          simp only at x0 x1 x2 x3 x4
          go_wp2_with (at_builtin; refine wpList_append_own _ rfl _ _ 58 rfl (w.heap.size + 1) 3 j0 (.int .i64 0) 1 8 Tryz.underlying58 hj0 hy0 hy1 hy2 rfl (by decide) _ _ _ rfl (D2.out.2.alloc _) ⟨w2.heap.size, 0, none⟩ 1 1 [.int .i64 (kk : Int)] rfl rfl (news_one (by simp) _) (one1 _) (by simp [maxLen]; omega) (by omega) (by simp; omega) ?_)
          intro v' w3 hown' hgrow _
          obtain ⟨q3, c3, rfl⟩ := lown_slice hown'
          have DA := D2.out.on (alB _ (.cells #[.int .i64 (kk : Int)] 3))
          have D3 : Aside (DocAt (w.heap.size + 1) w3 q2 c2 (st ++ [(yt, yn, ys)]) q3 c3 (d ++ [kk])) := doc_done DA rfl hown' hgrow
          have X3 : Aside (InsBox w3 wr.heap.size _) := (X2.out.on (alB _ _)).grown DA.2 (by decide) hgrow
          have bg := ((Below.refl (w.heap.size + 1) _).alloc (by first | (simp; omega) | omega) (.cells #[.int .i64 (kk : Int)] 3)).trans (grown_below DA.2 hgrow (by first | (simp; omega) | omega))
          have R3 : Aside (ResAt w3 w.heap.size) := R2.out.below bg (Nat.lt_succ_self _)
          have B3 : Aside (Below w.heap.size w w3) := B2.out.trans (bg.mono (Nat.le_succ _))
          clear hown' hgrow DA bg x0 x1 x2 x3 x4 D2 X2 R2 B2
          obtain ⟨x0, x1, x2, x3, x4, hX3⟩ := X3.out.cells
          simp only at x0 x1 x2 x3 x4
          go_wp2
          go_roundg (N - (kk + 1 + 0))
          case measure => omega
          case rel => exact ⟨kk + 1 + 0, st ++ [(yt, yn, ys)], d ++ [kk], q2, c2, q3, c3, hle, by omega, by simp, by simp, by go_num, D3, R3, B3, AT3, HL3, HE3⟩
        rw [if_neg w1] at hvm hA
        by_cases w2 : ya = 2
        · subst w2
          rw [if_pos rfl] at hvm
          simp only [Prod.mk.injEq] at hvm
          obtain ⟨rfl, rfl, rfl⟩ := hvm
          rw [if_pos rfl] at hA
          have hgr : 0 ≤ yg ∧ yg < (zs.length : Int) := by
            apply Classical.byContradiction
            intro hh
            rw [if_neg hh] at hA
            exact absurd hA (by decide)
          obtain ⟨j, rfl⟩ : ∃ j : Nat, yg = j := ⟨yg.toNat, by omega⟩
          have hjr : j < rs.length := by rw [HROW.out.1]; omega
          obtain ⟨e0, e1, e2⟩ := HC.out _ BX.out j hjr
          rw [Int.toNat_natCast, List.getElem?_eq_getElem hjr, Option.getD_some] at HE2 HNX
          generalize rs[j] = rj at e0 e1 e2 HE2 HNX
          obtain ⟨vt, vn, vx⟩ := rj
          simp only at e0 e1 e2
          have hj0z : (0 : Int) ≤ (j : Int) := by omega
          have hjnz : (j : Int) < (nr : Int) := by have := HNR.out; omega
          have hrbx : rb < wr.heap.size := by omega
          clear hgr hjr hA
          obtain ⟨hle, hat, hs64⟩ : kk + 1 + 0 ≤ N ∧ AtPl l (kk + 1 + 0) (st ++ [(vt, vn, vx)]) ∧ (st ++ [(vt, vn, vx)]).length ≤ 64 := by
            rcases HNX.out with ⟨_, h1, h2, h3⟩ | h9
            · exact ⟨h1, h2, h3⟩
            · exact absurd h9 (by decide)
          have HE3 : Hid (runP rs fuel (is.drop (kk + 1 + 0)) (kk + 1 + 0) 0 (st ++ [(vt, vn, vx)]) (d ++ [kk]) = R) := by
            have := HE2.out
            rwa [if_neg (by simp)] at this
          have HL3 : Hid ((st ++ [(vt, vn, vx)]).length ≤ 64 ∧ (d ++ [kk]).length ≤ kk + 1 + 0) := ⟨hs64, by simp; omega⟩
          have AT3 : Aside (AtPl l (kk + 1 + 0) (st ++ [(vt, vn, vx)])) := hat
          clear HE2 HNX hat hs64
          obtain ⟨x0, x1, x2, x3, x4, hX⟩ := HBX.out.cells
          simp only at x0 x1 x2 x3 x4
          go_wp2_with (at_builtin; refine wpList_append_own _ rfl _ _ 28 rfl (w.heap.size + 1) 23 i0 _ 3 32 Tryz.underlying28 hi0 hz0 hz1 hz2 rfl (by decide) _ _ _ rfl (DX.out.1.alloc _) ⟨wr.heap.size + 1, 0, none⟩ 1 1 [.int .i64 vt, .int .i64 vn, .string vx] rfl rfl (news_one (by simp) _) (one3 _ _ _) (by simp [maxLen]; omega) (by omega) (by simp; omega) ?_)
          intro v' w2 hown' hgrow _
          obtain ⟨q2, c2, rfl⟩ := lown_slice hown'
          have DA := DX.out.on (alB _ (.cells #[.int .i64 vt, .int .i64 vn, .string vx] 23))
          have D2 : Aside (DocAt (w.heap.size + 1) w2 q2 c2 (st ++ [(vt, vn, vx)]) qd cd d) := doc_push DA rfl hown' hgrow
          have X2 : Aside (InsBox w2 wr.heap.size _) := (HBX.out.on (alB _ _)).grown DA.1 (by decide) hgrow
          have bg := ((Below.refl (w.heap.size + 1) _).alloc (by simp; omega) (.cells #[.int .i64 vt, .int .i64 vn, .string vx] 23)).trans (grown_below DA.1 hgrow (by simp; omega))
          have R2 : Aside (ResAt w2 w.heap.size) := RX.out.below bg (Nat.lt_succ_self _)
          have B2 : Aside (Below w.heap.size w w2) := BX.out.trans (bg.mono (Nat.le_succ _))
          have hw2 : w.heap.size < w2.heap.size := R2.out.cells.2.2.2.2
          clear hown' hgrow DA bg DX HBX RX BX
          obtain ⟨x0, x1, x2, x3, x4, hX⟩ := X2.out.cells
          simp only at x0 x1 x2 x3 x4
          go_wp2_with (at_builtin; refine wpList_append_own _ rfl _ _ 58 rfl (w.heap.size + 1) 3 j0 (.int .i64 0) 1 8 Tryz.underlying58 hj0 hy0 hy1 hy2 rfl (by decide) _ _ _ rfl (D2.out.2.alloc _) ⟨w2.heap.size, 0, none⟩ 1 1 [.int .i64 (kk : Int)] rfl rfl (news_one (by simp) _) (one1 _) (by simp [maxLen]; omega) (by omega) (by simp; omega) ?_)
          intro v' w3 hown' hgrow _
          obtain ⟨q3, c3, rfl⟩ := lown_slice hown'
          have DA := D2.out.on (alB _ (.cells #[.int .i64 (kk : Int)] 3))
          have D3 : Aside (DocAt (w.heap.size + 1) w3 q2 c2 (st ++ [(vt, vn, vx)]) q3 c3 (d ++ [kk])) := doc_done DA rfl hown' hgrow
          have X3 : Aside (InsBox w3 wr.heap.size _) := (X2.out.on (alB _ _)).grown DA.2 (by decide) hgrow
          have bg := ((Below.refl (w.heap.size + 1) _).alloc (by first | (simp; omega) | omega) (.cells #[.int .i64 (kk : Int)] 3)).trans (grown_below DA.2 hgrow (by first | (simp; omega) | omega))
          have R3 : Aside (ResAt w3 w.heap.size) := R2.out.below bg (Nat.lt_succ_self _)
          have B3 : Aside (Below w.heap.size w w3) := B2.out.trans (bg.mono (Nat.le_succ _))
          clear hown' hgrow DA bg x0 x1 x2 x3 x4 D2 X2 R2 B2
          obtain ⟨x0, x1, x2, x3, x4, hX3⟩ := X3.out.cells
          simp only at x0 x1 x2 x3 x4
          go_wp2
          go_roundg (N - (kk + 1 + 0))
          case measure => omega
          case rel => exact ⟨kk + 1 + 0, st ++ [(vt, vn, vx)], d ++ [kk], q2, c2, q3, c3, hle, by omega, by simp, by simp, by go_num, D3, R3, B3, AT3, HL3, HE3⟩
        rw [if_neg w2] at hvm hA
        by_cases w3 : ya = 3
        · subst w3
          rw [if_pos rfl] at hvm hA
          have hN3 : needN (3, yg, yt, yn, ys) = cntN (opN yg) := by rw [needN, if_pos rfl]
          rw [hN3] at hvm hneed
          obtain ⟨T2, hr2, hv2, happ⟩ := do_sound HAF.out.1 HAF.out.2
          have hsz2 := HAF.out.2.sized
          rw [happ] at hvm
          have hgo : 2 ≤ yg ∧ yg < 16 := by
            apply Classical.byContradiction
            intro hh
            rw [opE, if_neg hh] at hA
            exact absurd hA (by decide)
          have hK1 := cnt_one hgo
          have har := arity_do hA
          obtain ⟨KC, hKC⟩ : ∃ KC, cntN (opN yg) = KC := ⟨_, rfl⟩
          rw [hKC] at hvm hneed hr2 hv2 hK1 har
          obtain ⟨⟨vt, vn, vx⟩, ee, hR⟩ : ∃ v e, appP (opN yg) (st.drop (st.length - KC)) = (v, e) := ⟨_, _, rfl⟩
          rw [hR] at hvm
          simp only [Prod.mk.injEq] at hvm
          obtain ⟨rfl, rfl, rfl⟩ := hvm
          have cO := refOp_any yg (wr.alloc (.cells #[.int .i64 3, .int .i64 yg, .int .i64 yt, .int .i64 yn, .string ys] 52))
          rw [hA, show ((0 : Int) == 0) = true from rfl] at cO
          have cY := fun W => refArity_any ⟨(opN yg).toArray⟩ W
          simp only [har] at cY
          have OL := DX.out.1
          obtain ⟨p1, cc1, r1, r2, g1, rfl, hg1, hgB, hcl⟩ := val_slice_l (l := st.length - KC) OL rfl (by omega)
          have hsub : ((st.length - KC : Nat) : Int) = (st.length : Int) - (KC : Int) := by omega
          have hnn : st.length - (st.length - KC) = KC := by omega
          rw [hnn, hsub] at r1
          rw [hsub] at r2
          have hdl : (st.drop (st.length - KC)).length = KC := by rw [List.length_drop]; omega
          have htl : (st.take (st.length - KC)).length = st.length - KC := by rw [List.length_take]; omega
          have cD : Aside (∀ W, Below (wr.heap.size + 1) (wr.alloc (.cells #[.int .i64 3, .int .i64 yg, .int .i64 yt, .int .i64 yn, .string ys] 52)) W → Calls Tryz.prog 45 #[.string ⟨(opN yg).toArray⟩, .slice (some ⟨g1, (st.length - KC) * 3, none⟩) KC cc1] W fun e' w' => e' = .returned (.tuple #[.agg #[.int .i64 vt, .int .i64 vn, .string vx], .int .i64 ee]) ∧ Below W.heap.size W w') := fun W hW => refDo_any ⟨(opN yg).toArray⟩ _ cc1 KC (st.drop (st.length - KC)) W hdl (.inr ⟨g1, (st.length - KC) * 3, rfl, by have := hW.size; have : g1 < (wr.alloc (.cells #[.int .i64 3, .int .i64 yg, .int .i64 yt, .int .i64 yn, .string ys] 52)).heap.size := hg1; omega, fun j hj => by
            obtain ⟨k1, k2, k3⟩ := hcl j hj
            have hlt : g1 < wr.heap.size + 1 := by simpa using hg1
            exact ⟨by rw [hW.cell (p := ⟨g1, _, none⟩) hlt]; exact k1, by rw [hW.cell (p := ⟨g1, _, none⟩) hlt]; exact k2, by rw [hW.cell (p := ⟨g1, _, none⟩) hlt]; exact k3⟩⟩) hv2 (fun v hv => by have := hsz2 v (List.mem_of_mem_drop hv); exact ⟨by unfold maxLen; omega, this.2⟩) T2 hr2 vt vn vx ee hR
          have DT : Aside (DocAt (w.heap.size + 1) (wr.alloc (.cells #[.int .i64 3, .int .i64 yg, .int .i64 yt, .int .i64 yn, .string ys] 52)) q c1 (st.take (st.length - KC)) qd cd d) := doc_take DX.out (by omega) (by omega)
          obtain ⟨x0, x1, x2, x3, x4, hX⟩ := HBX.out.cells
          simp only at x0 x1 x2 x3 x4
          have hKz : (KC : Int) ≤ (st.length : Int) := by omega
          have hKz1 : (1 : Int) ≤ (KC : Int) := by omega
          have hSz : (st.length : Int) ≤ 64 := by omega
          have HST : Hid (st.take (st.length - KC) = st.take (st.length - KC)) := rfl
          obtain ⟨SL, hSL⟩ : ∃ SL, st.length = SL := ⟨_, rfl⟩
          obtain ⟨LK, hLK⟩ : ∃ LK, st.length - KC = LK := ⟨_, rfl⟩
          obtain ⟨TK, hTK⟩ : ∃ TK, st.take (st.length - KC) = TK := ⟨_, rfl⟩
          rw [hTK] at HE2 HNX DT htl
          rw [hLK] at r1 r2 htl cD
          rw [hSL] at r1 r2 hKz hSz ⊢
          clear hA hgo har hr2 hv2 happ hsz2 hR OL hg1 hgB hcl hsub hnn hdl hneed HAF HST
          go_wp2_with fail
          refine cO.mono ?_
          rintro e w2 ⟨rfl, b2⟩
          have P2 : Below (wr.heap.size + 1) (wr.alloc (.cells #[.int .i64 3, .int .i64 yg, .int .i64 yt, .int .i64 yn, .string ys] 52)) w2 := b2.mono (by simp)
          have hl2 : wr.heap.size + 1 ≤ w2.heap.size := by have := b2.size; simpa using this
          clear cO
          go_wp2_with fail
          refine (cY w2).mono ?_
          rintro e w3 ⟨rfl, b3⟩
          have P3 := P2.trans (b3.mono hl2)
          have hl3 : wr.heap.size + 1 ≤ w3.heap.size := by have := b3.size; omega
          have cD3 := cD.out w3 P3
          clear cY b2 b3 cD P2
          go_wp2_with fail
          refine cD3.mono ?_
          rintro e w4 ⟨rfl, b4⟩
          have P4 : Below (wr.alloc (.cells #[.int .i64 3, .int .i64 yg, .int .i64 yt, .int .i64 yn, .string ys] 52)).heap.size (wr.alloc (.cells #[.int .i64 3, .int .i64 yg, .int .i64 yt, .int .i64 yn, .string ys] 52)) w4 := by
            have := P3.trans (b4.mono hl3)
            simpa using this
          have P5 := P4.alloc P4.size (.cells #[.int .i64 vt, .int .i64 vn, .string vx] 23)
          have DV : Aside (DocAt (w.heap.size + 1) (w4.alloc (.cells #[.int .i64 vt, .int .i64 vn, .string vx] 23)) q c1 TK qd cd d) := DT.out.on P5
          have DW : Aside (DocAt (w.heap.size + 1) (w4.alloc (.cells #[.int .i64 vt, .int .i64 vn, .string vx] 23)) q c1 st qd cd d) := DX.out.on P5
          have XV : Aside (InsBox (w4.alloc (.cells #[.int .i64 vt, .int .i64 vn, .string vx] 23)) wr.heap.size _) := HBX.out.on P5
          have RV : Aside (ResAt (w4.alloc (.cells #[.int .i64 vt, .int .i64 vn, .string vx] 23)) w.heap.size) := RX.out.below P5 (by simp; omega)
          have BV : Aside (Below w.heap.size w (w4.alloc (.cells #[.int .i64 vt, .int .i64 vn, .string vx] 23))) := BX.out.trans (P5.mono (by simp; omega))
          have DW4 : Aside (DocAt (w.heap.size + 1) w4 q c1 st qd cd d) := DX.out.on P4
          have RW4 : Aside (ResAt w4 w.heap.size) := RX.out.below P4 (by simp; omega)
          have BW4 : Aside (Below w.heap.size w w4) := BX.out.trans (P4.mono (by simp; omega))
          have hw4 : wr.heap.size + 1 ≤ w4.heap.size := by have := b4.size; omega
          have v0 : (w4.alloc (.cells #[.int .i64 vt, .int .i64 vn, .string vx] 23)).cell? ⟨w4.heap.size, 0, none⟩ = some (.int .i64 vt) := by rw [World.cell?_alloc_at _ _ _ _ rfl]; rfl
          have v1 : (w4.alloc (.cells #[.int .i64 vt, .int .i64 vn, .string vx] 23)).cell? ⟨w4.heap.size, 1, none⟩ = some (.int .i64 vn) := by rw [World.cell?_alloc_at _ _ _ _ rfl]; rfl
          have v2 : (w4.alloc (.cells #[.int .i64 vt, .int .i64 vn, .string vx] 23)).cell? ⟨w4.heap.size, 2, none⟩ = some (.string vx) := by rw [World.cell?_alloc_at _ _ _ _ rfl]; rfl
          have hv4 : w4.heap.size < (w4.alloc (.cells #[.int .i64 vt, .int .i64 vn, .string vx] 23)).heap.size := by simp
          clear cD3 P3 P4 P5 b4 DX DT HBX RX BX x0 x1 x2 x3 x4 r1 hX
          by_cases hee : ee = 0
          · subst hee
            have hebz : ((0 : Int) != 0) = false := rfl
            obtain ⟨hle, hat, hs64⟩ : kk + 1 + 0 ≤ N ∧ AtPl l (kk + 1 + 0) (TK ++ [(vt, vn, vx)]) ∧ (TK ++ [(vt, vn, vx)]).length ≤ 64 := by
              rcases HNX.out with ⟨_, h1, h2, h3⟩ | h9
              · exact ⟨h1, h2, h3⟩
              · exact absurd h9 (by decide)
            have HE3 : Hid (runP rs fuel (is.drop (kk + 1 + 0)) (kk + 1 + 0) 0 (TK ++ [(vt, vn, vx)]) (d ++ [kk]) = R) := by
              have := HE2.out
              rwa [if_neg (by simp)] at this
            have HL3 : Hid ((TK ++ [(vt, vn, vx)]).length ≤ 64 ∧ (d ++ [kk]).length ≤ kk + 1 + 0) := ⟨hs64, by simp; omega⟩
            have AT3 : Aside (AtPl l (kk + 1 + 0) (TK ++ [(vt, vn, vx)])) := hat
            clear HE2 HNX hat hs64
            go_wp2_with fail
            generalize w4.alloc (.cells #[.int .i64 vt, .int .i64 vn, .string vx] 23) = W5 at DV DW XV RV BV v0 v1 v2 hv4 ⊢
            have OV := DV.out.1
            rw [htl] at OV
            have HOV : Aside (W5.ownsRow (w.heap.size + 1) 23 3 (.slice q LK c1) LK (vcells TK)) := OV
            have hLz : LK ≤ 64 := by omega
            have hLc : (LK : Int) ≤ (c1 : Int) := by
              have := DW.out.1
              rcases this.2 with ⟨_, h0⟩ | ⟨gg, cap, cur, e, _, _, hc, _⟩
              · omega
              · injection e with _ _ e3; omega
            have hLz0 : (0 : Int) ≤ (LK : Int) := by omega
            have hwr5 : IntKind.i64.wrap ((SL : Int) - (KC : Int)) = (LK : Int) := by rw [IntKind.wrap_i64]; omega
            clear OV r2
            go_region_law (refine step_append_mine rfl (.tmp 87) (.tmp 89) 28 rfl (w.heap.size + 1) 23 i0 _ 3 32 Tryz.underlying28 hi0 hz0 hz1 hz2 rfl (by decide) (.slice q LK c1) LK (vcells TK) (by simp [Act.eval]) ((lown_below HOV.out (Below.refl _ _).drew : World.ownsRow W5.drew (w.heap.size + 1) 23 3 (.slice q LK c1) LK (vcells TK)).alloc _) ⟨W5.heap.size, 0, none⟩ 1 1 [.int .i64 vt, .int .i64 vn, .string vx] (by simp [Act.eval]) rfl (news_one (by simp) _) (one3 vt vn vx) (by simp [maxLen]; omega) (by omega) (by simp; omega) ?_; intro q2 c2 w6 hown' hgrow)
            all_goals
              have hb5 : Below W5.heap.size W5 (W5.drew.alloc (.cells #[.int .i64 vt, .int .i64 vn, .string vx] 23)) := (Below.refl _ _).drew.alloc (Nat.le_refl _) _
              have DA := DV.out.on hb5
              have D2 : Aside (DocAt (w.heap.size + 1) w6 q2 c2 (TK ++ [(vt, vn, vx)]) qd cd d) := doc_push DA htl hown' hgrow
              have OA := DA.1
              rw [htl] at OA
              have X2 : Aside (InsBox w6 wr.heap.size _) := (XV.out.on hb5).grown OA (by decide) hgrow
              have bg := (hb5.mono (show w.heap.size + 1 ≤ W5.heap.size by omega)).trans (grown_below OA hgrow (by simp; omega))
              have R2 : Aside (ResAt w6 w.heap.size) := RV.out.below bg (Nat.lt_succ_self _)
              have B2 : Aside (Below w.heap.size w w6) := BV.out.trans (bg.mono (Nat.le_succ _))
              have hw6 : w.heap.size < w6.heap.size := R2.out.cells.2.2.2.2
              clear hown' hgrow DA OA bg hb5 DV DW XV RV BV v0 v1 v2 HOV DW4 RW4 BW4
              obtain ⟨x0, x1, x2, x3, x4, hX⟩ := X2.out.cells
              simp only at x0 x1 x2 x3 x4
              go_wp2_with (at_builtin; refine wpList_append_own _ rfl _ _ 58 rfl (w.heap.size + 1) 3 j0 (.int .i64 0) 1 8 Tryz.underlying58 hj0 hy0 hy1 hy2 rfl (by decide) _ _ _ rfl (D2.out.2.alloc _) ⟨w6.heap.size, 0, none⟩ 1 1 [.int .i64 (kk : Int)] rfl rfl (news_one (by simp) _) (one1 _) (by simp [maxLen]; omega) (by omega) (by simp; omega) ?_)
              intro v' w9 hown' hgrow _
              obtain ⟨q3, c3, rfl⟩ := lown_slice hown'
              have DA := D2.out.on (alB _ (.cells #[.int .i64 (kk : Int)] 3))
              have D9 : Aside (DocAt (w.heap.size + 1) w9 q2 c2 (TK ++ [(vt, vn, vx)]) q3 c3 (d ++ [kk])) := doc_done DA rfl hown' hgrow
              have X9 : Aside (InsBox w9 wr.heap.size _) := (X2.out.on (alB _ _)).grown DA.2 (by decide) hgrow
              have bg := ((Below.refl (w.heap.size + 1) _).alloc (by first | (simp; omega) | omega) (.cells #[.int .i64 (kk : Int)] 3)).trans (grown_below DA.2 hgrow (by first | (simp; omega) | omega))
              have R9 : Aside (ResAt w9 w.heap.size) := R2.out.below bg (Nat.lt_succ_self _)
              have B9 : Aside (Below w.heap.size w w9) := B2.out.trans (bg.mono (Nat.le_succ _))
              clear hown' hgrow DA bg x0 x1 x2 x3 x4 D2 X2 R2 B2
              obtain ⟨x0, x1, x2, x3, x4, hX9⟩ := X9.out.cells
              simp only at x0 x1 x2 x3 x4
              go_wp2
              go_roundg (N - (kk + 1 + 0))
              case measure => omega
              case rel => exact ⟨kk + 1 + 0, TK ++ [(vt, vn, vx)], d ++ [kk], q2, c2, q3, c3, hle, by omega, by simp [htl], by simp, by go_num, D9, R9, B9, AT3, HL3, HE3⟩
          · have hebz : (ee != 0) = true := by simpa using hee
            have hR2 := HE2.out
            rw [if_pos hee] at hR2
            subst hR2
            have hv0 : noV = v := by have := HV.out; rw [if_neg hee] at this; exact this
            subst hv0
            have I2 : Aside (IntsAt ((((w4.setCell ⟨w.heap.size, 0, none⟩ (.int .i64 0)).setCell ⟨w.heap.size, 1, none⟩ (.int .i64 0)).setCell ⟨w.heap.size, 2, none⟩ (.string ⟨#[]⟩)).alloc (.cells #[.int .i64 vt, .int .i64 vn, .string vx] 23)) qd (natZ d)) := (doc_ints DW4.out RW4.out _ _ _).on (alB _ _)
            obtain ⟨s0, s1, s2, sf, sl⟩ := RW4.out.cells
            have B9 : Aside (Below w.heap.size w ((((w4.setCell ⟨w.heap.size, 0, none⟩ (.int .i64 0)).setCell ⟨w.heap.size, 1, none⟩ (.int .i64 0)).setCell ⟨w.heap.size, 2, none⟩ (.string ⟨#[]⟩)).alloc (.cells #[.int .i64 vt, .int .i64 vn, .string vx] 23))) := by
              have h3 := below3 BW4.out (Nat.le_refl w.heap.size) (.int .i64 0) (.int .i64 0) (.string ⟨#[]⟩)
              exact h3.alloc h3.size _
            have hszW : w.heap.size < (((w4.setCell ⟨w.heap.size, 0, none⟩ (.int .i64 0)).setCell ⟨w.heap.size, 1, none⟩ (.int .i64 0)).setCell ⟨w.heap.size, 2, none⟩ (.string ⟨#[]⟩)).heap.size := by simpa [World.setCell] using sl
            have t0 : ((((w4.setCell ⟨w.heap.size, 0, none⟩ (.int .i64 0)).setCell ⟨w.heap.size, 1, none⟩ (.int .i64 0)).setCell ⟨w.heap.size, 2, none⟩ (.string ⟨#[]⟩)).alloc (.cells #[.int .i64 vt, .int .i64 vn, .string vx] 23)).cell? ⟨w.heap.size, 0, none⟩ = some (.int .i64 0) := by rw [(alB _ _).cell (p := ⟨w.heap.size, 0, none⟩) hszW, cell_ne (by decide), cell_ne (by decide), cell_eq s0]
            have t1 : ((((w4.setCell ⟨w.heap.size, 0, none⟩ (.int .i64 0)).setCell ⟨w.heap.size, 1, none⟩ (.int .i64 0)).setCell ⟨w.heap.size, 2, none⟩ (.string ⟨#[]⟩)).alloc (.cells #[.int .i64 vt, .int .i64 vn, .string vx] 23)).cell? ⟨w.heap.size, 1, none⟩ = some (.int .i64 0) := by rw [(alB _ _).cell (p := ⟨w.heap.size, 1, none⟩) hszW, cell_ne (by decide), cell_eq (u := .int .i64 0) (by rw [cell_ne (by decide)]; exact s1)]
            have t2 : ((((w4.setCell ⟨w.heap.size, 0, none⟩ (.int .i64 0)).setCell ⟨w.heap.size, 1, none⟩ (.int .i64 0)).setCell ⟨w.heap.size, 2, none⟩ (.string ⟨#[]⟩)).alloc (.cells #[.int .i64 vt, .int .i64 vn, .string vx] 23)).cell? ⟨w.heap.size, 2, none⟩ = some (.string ⟨#[]⟩) := by rw [(alB _ _).cell (p := ⟨w.heap.size, 2, none⟩) hszW, cell_eq (u := .string ⟨#[]⟩) (by rw [cell_ne (by decide), cell_ne (by decide)]; exact s2)]
            have T0 : Hid _ := t0
            have T1 : Hid _ := t1
            have T2 : Hid _ := t2
            clear HE2 HNX hee DV DW XV RV BV v0 v1 v2 DW4 RW4 BW4 t0 t1 t2 hszW
            go_wp2
            refine bodyPost_ret (v := .tuple #[.agg #[.int .i64 0, .int .i64 0, .string ⟨#[]⟩], .slice qd d.length cd, .int .i64 ee]) (by simp [results, Tryz.results19, go_sem, T0.out, T1.out, T2.out]) rfl ?_
            refine HPE.out _ _ ⟨⟨qd, cd, rfl, I2⟩, ?_⟩
            exact B9.out
        rw [if_neg w3] at hvm hA
        by_cases w4 : ya = 4
        · subst w4
          rw [if_pos rfl] at hvm
          simp only [Prod.mk.injEq] at hvm
          obtain ⟨rfl, rfl, rfl⟩ := hvm
          rw [if_pos (Or.inl rfl)] at hA
          have hgr : 0 ≤ yg ∧ yg ≤ (N : Int) - ((kk : Int) + 1) := by
            apply Classical.byContradiction
            intro hh
            rw [if_neg hh] at hA
            exact absurd hA (by decide)
          obtain ⟨j, rfl⟩ : ∃ j : Nat, yg = j := ⟨yg.toNat, by omega⟩
          rw [Int.toNat_natCast] at HE2 HNX
          have hj0z : (0 : Int) ≤ (j : Int) := by omega
          have hjnz : (j : Int) ≤ 1200 := by omega
          clear hgr hA
          obtain ⟨hle, hat, hs64⟩ : kk + 1 + j ≤ N ∧ AtPl l (kk + 1 + j) (st) ∧ (st).length ≤ 64 := by
            rcases HNX.out with ⟨_, h1, h2, h3⟩ | h9
            · exact ⟨h1, h2, h3⟩
            · exact absurd h9 (by decide)
          have HE3 : Hid (runP rs fuel (is.drop (kk + 1 + j)) (kk + 1 + j) 0 (st) (d ++ [kk]) = R) := by
            have := HE2.out
            rwa [if_neg (by simp)] at this
          have HL3 : Hid ((st).length ≤ 64 ∧ (d ++ [kk]).length ≤ kk + 1 + j) := ⟨hs64, by simp; omega⟩
          have AT3 : Aside (AtPl l (kk + 1 + j) (st)) := hat
          clear HE2 HNX hat hs64
          obtain ⟨x0, x1, x2, x3, x4, hX⟩ := HBX.out.cells
          simp only at x0 x1 x2 x3 x4
          go_wp2_with (at_builtin; refine wpList_append_own _ rfl _ _ 58 rfl (w.heap.size + 1) 3 j0 (.int .i64 0) 1 8 Tryz.underlying58 hj0 hy0 hy1 hy2 rfl (by decide) _ _ _ rfl (DX.out.2.alloc _) ⟨wr.heap.size + 1, 0, none⟩ 1 1 [.int .i64 (kk : Int)] rfl rfl (news_one (by simp) _) (one1 _) (by simp [maxLen]; omega) (by omega) (by simp; omega) ?_)
          intro v' w3 hown' hgrow _
          obtain ⟨q3, c3, rfl⟩ := lown_slice hown'
          have DA := DX.out.on (alB _ (.cells #[.int .i64 (kk : Int)] 3))
          have D3 : Aside (DocAt (w.heap.size + 1) w3 q c1 st q3 c3 (d ++ [kk])) := doc_done DA rfl hown' hgrow
          have X3 : Aside (InsBox w3 wr.heap.size _) := (HBX.out.on (alB _ _)).grown DA.2 (by decide) hgrow
          have bg := ((Below.refl (w.heap.size + 1) _).alloc (by first | (simp; omega) | omega) (.cells #[.int .i64 (kk : Int)] 3)).trans (grown_below DA.2 hgrow (by first | (simp; omega) | omega))
          have R3 : Aside (ResAt w3 w.heap.size) := RX.out.below bg (Nat.lt_succ_self _)
          have B3 : Aside (Below w.heap.size w w3) := BX.out.trans (bg.mono (Nat.le_succ _))
          clear hown' hgrow DA bg x0 x1 x2 x3 x4 DX HBX RX BX
          obtain ⟨x0, x1, x2, x3, x4, hX3⟩ := X3.out.cells
          simp only at x0 x1 x2 x3 x4
          go_wp2
          go_roundg (N - (kk + 1 + j))
          case measure => omega
          case rel => exact ⟨kk + 1 + j, st, d ++ [kk], q, c1, q3, c3, hle, by omega, by simp, by simp, by go_num, D3, R3, B3, AT3, HL3, HE3⟩
        rw [if_neg w4] at hvm
        by_cases w5 : ya = 5
        · subst w5
          rw [if_pos rfl] at hvm
          rw [if_pos (Or.inr rfl)] at hA
          have hgr : 0 ≤ yg ∧ yg ≤ (N : Int) - ((kk : Int) + 1) := by
            apply Classical.byContradiction
            intro hh
            rw [if_neg hh] at hA
            exact absurd hA (by decide)
          obtain ⟨j, rfl⟩ : ∃ j : Nat, yg = j := ⟨yg.toNat, by omega⟩
          rw [Int.toNat_natCast] at hvm
          have hj0z : (0 : Int) ≤ (j : Int) := by omega
          have hjnz : (j : Int) ≤ 1200 := by omega
          clear hgr hA
          have hn1 : 1 ≤ st.length := by
            have := hneed
            rw [needN, if_neg (show ¬ (5 : Int) = 3 by decide), if_pos (by simp)] at this
            exact this
          obtain ⟨l1, hl1⟩ : ∃ l1, st.length = l1 + 1 := ⟨st.length - 1, by omega⟩
          have hl64 : (l1 : Int) ≤ 63 := by omega
          have hl0 : (0 : Int) ≤ (l1 : Int) := by omega
          have hlt1 : (st.take l1).length = l1 := by rw [List.length_take]; omega
          have OL := DX.out.1
          rw [hl1] at OL
          obtain ⟨p1, cc1, -, r2, -⟩ := val_slice_l (l := l1) OL hl1 (by omega)
          obtain ⟨⟨vt, vn, vx⟩, hgl⟩ : ∃ v, st.getLast?.getD noV = v := ⟨_, rfl⟩
          rw [hgl, List.dropLast_eq_take, hl1, Nat.add_sub_cancel] at hvm
          simp only at hvm
          have HGL : Hid (st.getLast?.getD noV = (vt, vn, vx)) := hgl
          have HL1 : Hid (st.length = l1 + 1) := hl1
          have HDX : Aside (DocAt (w.heap.size + 1) (wr.alloc (.cells #[.int .i64 5, .int .i64 j, .int .i64 yt, .int .i64 yn, .string ys] 52)) q c1 st qd cd d) := DX.out
          have hsl : st.length = l1 + 1 := hl1
          rw [hl1]
          clear hgl OL
          obtain ⟨x0, x1, x2, x3, x4, hX⟩ := HBX.out.cells
          simp only at x0 x1 x2 x3 x4
          clear hneed
          go_wp2_with (at_builtin; refine wpList_append_own _ rfl _ _ 58 rfl (w.heap.size + 1) 3 j0 (.int .i64 0) 1 8 Tryz.underlying58 hj0 hy0 hy1 hy2 rfl (by decide) _ _ _ rfl (DX.out.2.alloc _) ⟨wr.heap.size + 1, 0, none⟩ 1 1 [.int .i64 (kk : Int)] rfl rfl (news_one (by simp) _) (one1 _) (by simp [maxLen]; omega) (by omega) (by simp; omega) ?_)
          intro v' w3 hown' hgrow _
          obtain ⟨q3, c3, rfl⟩ := lown_slice hown'
          have DA := DX.out.on (alB _ (.cells #[.int .i64 (kk : Int)] 3))
          have D3 : Aside (DocAt (w.heap.size + 1) w3 q c1 st q3 c3 (d ++ [kk])) := doc_done DA rfl hown' hgrow
          have X3 : Aside (InsBox w3 wr.heap.size _) := (HBX.out.on (alB _ _)).grown DA.2 (by decide) hgrow
          have bg := ((Below.refl (w.heap.size + 1) _).alloc (by first | (simp; omega) | omega) (.cells #[.int .i64 (kk : Int)] 3)).trans (grown_below DA.2 hgrow (by first | (simp; omega) | omega))
          have R3 : Aside (ResAt w3 w.heap.size) := RX.out.below bg (Nat.lt_succ_self _)
          have B3 : Aside (Below w.heap.size w w3) := BX.out.trans (bg.mono (Nat.le_succ _))
          clear hown' hgrow DA bg x0 x1 x2 x3 x4 DX HBX RX BX
          obtain ⟨x0, x1, x2, x3, x4, hX3⟩ := X3.out.cells
          simp only at x0 x1 x2 x3 x4
          have ho3 := D3.out.1
          rw [hsl] at ho3
          obtain ⟨gL, rfl, hgB, hgl3, e0, e1, e2⟩ := own_last ho3 hsl HGL.out
          have D4 : Aside (DocAt (w.heap.size + 1) (w3.alloc (.cells #[.int .i64 vt, .int .i64 vn, .string vx] 23)) (some ⟨gL, 0, none⟩) c1 (st.take l1) q3 c3 (d ++ [kk])) := (doc_take D3.out (by omega) (by omega)).on (alB _ _)
          have R4 : Aside (ResAt (w3.alloc (.cells #[.int .i64 vt, .int .i64 vn, .string vx] 23)) w.heap.size) := R3.out.below (alB _ _) R3.out.cells.2.2.2.2
          have B4 : Aside (Below w.heap.size w (w3.alloc (.cells #[.int .i64 vt, .int .i64 vn, .string vx] 23))) := B3.out.alloc B3.out.size _
          clear ho3 D3 R3 B3 X3 HDX
          clear hsl hl1
          by_cases hz : vn = 0
          · subst hz
            rw [if_pos rfl] at hvm
            simp only [Prod.mk.injEq] at hvm
            obtain ⟨rfl, rfl, rfl⟩ := hvm
            obtain ⟨hle, hat, hs64⟩ : kk + 1 + j ≤ N ∧ AtPl l (kk + 1 + j) (st.take l1) ∧ (st.take l1).length ≤ 64 := by
              rcases HNX.out with ⟨_, h1, h2, h3⟩ | h9
              · exact ⟨h1, h2, h3⟩
              · exact absurd h9 (by decide)
            have HE3 : Hid (runP rs fuel (is.drop (kk + 1 + j)) (kk + 1 + j) 0 (st.take l1) (d ++ [kk]) = R) := by
              have := HE2.out
              rwa [if_neg (by simp)] at this
            have HL3 : Hid ((st.take l1).length ≤ 64 ∧ (d ++ [kk]).length ≤ kk + 1 + j) := ⟨hs64, by simp; omega⟩
            have AT3 : Aside (AtPl l (kk + 1 + j) (st.take l1)) := hat
            clear HE2 HNX hat hs64
            have hdl2 := hdk
            go_wp2
            go_roundg (N - (kk + 1 + j))
            case measure => omega
            case rel => exact ⟨kk + 1 + j, st.take l1, d ++ [kk], some ⟨gL, 0, none⟩, c1, q3, c3, hle, by omega, by rw [hlt1], by simp, by go_num, D4, R4, B4, AT3, HL3, HE3⟩
          · rw [if_neg hz] at hvm
            simp only [Prod.mk.injEq] at hvm
            obtain ⟨rfl, rfl, rfl⟩ := hvm
            have hzb : (vn == 0) = false := by simpa using hz
            clear hz
            obtain ⟨hle, hat, hs64⟩ : kk + 1 + 0 ≤ N ∧ AtPl l (kk + 1 + 0) (st.take l1) ∧ (st.take l1).length ≤ 64 := by
              rcases HNX.out with ⟨_, h1, h2, h3⟩ | h9
              · exact ⟨h1, h2, h3⟩
              · exact absurd h9 (by decide)
            have HE3 : Hid (runP rs fuel (is.drop (kk + 1 + 0)) (kk + 1 + 0) 0 (st.take l1) (d ++ [kk]) = R) := by
              have := HE2.out
              rwa [if_neg (by simp)] at this
            have HL3 : Hid ((st.take l1).length ≤ 64 ∧ (d ++ [kk]).length ≤ kk + 1 + 0) := ⟨hs64, by simp; omega⟩
            have AT3 : Aside (AtPl l (kk + 1 + 0) (st.take l1)) := hat
            clear HE2 HNX hat hs64
            go_wp2
            go_roundg (N - (kk + 1 + 0))
            case measure => omega
            case rel => exact ⟨kk + 1 + 0, st.take l1, d ++ [kk], some ⟨gL, 0, none⟩, c1, q3, c3, hle, by omega, by rw [hlt1], by simp, by go_num, D4, R4, B4, AT3, HL3, HE3⟩
        rw [if_neg w5] at hvm
        by_cases w6 : ya = 6
        · subst w6
          rw [if_pos rfl] at hvm
          simp only [Prod.mk.injEq] at hvm
          obtain ⟨rfl, rfl, rfl⟩ := hvm
          have hn1 : 1 ≤ st.length := by
            have := hneed
            rw [needN, if_neg (show ¬ (6 : Int) = 3 by decide), if_pos (by simp)] at this
            exact this
          obtain ⟨l1, hl1⟩ : ∃ l1, st.length = l1 + 1 := ⟨st.length - 1, by omega⟩
          have hl64 : (l1 : Int) ≤ 63 := by omega
          have hl0 : (0 : Int) ≤ (l1 : Int) := by omega
          have hlt1 : (st.take l1).length = l1 := by rw [List.length_take]; omega
          have OL := DX.out.1
          rw [hl1] at OL
          obtain ⟨p1, cc1, -, r2, -⟩ := val_slice_l (l := l1) OL hl1 (by omega)
          obtain ⟨⟨vt, vn, vx⟩, hgl⟩ : ∃ v, st.getLast?.getD noV = v := ⟨_, rfl⟩
          rw [hgl] at HE2 HNX
          obtain ⟨gL, rfl, hgB, hgl3, e0, e1, e2⟩ := own_last OL hl1 hgl
          obtain ⟨hle, hat, hs64⟩ : kk + 1 + 0 ≤ N ∧ AtPl l (kk + 1 + 0) (st ++ [(vt, vn, vx)]) ∧ (st ++ [(vt, vn, vx)]).length ≤ 64 := by
            rcases HNX.out with ⟨_, h1, h2, h3⟩ | h9
            · exact ⟨h1, h2, h3⟩
            · exact absurd h9 (by decide)
          have HE3 : Hid (runP rs fuel (is.drop (kk + 1 + 0)) (kk + 1 + 0) 0 (st ++ [(vt, vn, vx)]) (d ++ [kk]) = R) := by
            have := HE2.out
            rwa [if_neg (by simp)] at this
          have HL3 : Hid ((st ++ [(vt, vn, vx)]).length ≤ 64 ∧ (d ++ [kk]).length ≤ kk + 1 + 0) := ⟨hs64, by simp; omega⟩
          have AT3 : Aside (AtPl l (kk + 1 + 0) (st ++ [(vt, vn, vx)])) := hat
          clear HE2 HNX hat hs64
          have DY : Aside (DocAt (w.heap.size + 1) ((wr.alloc (.cells #[.int .i64 6, .int .i64 yg, .int .i64 yt, .int .i64 yn, .string ys] 52)).alloc (.cells #[.int .i64 vt, .int .i64 vn, .string vx] 23)) (some ⟨gL, 0, none⟩) c1 st qd cd d) := DX.out.on (alB _ _)
          have XY : Aside (InsBox ((wr.alloc (.cells #[.int .i64 6, .int .i64 yg, .int .i64 yt, .int .i64 yn, .string ys] 52)).alloc (.cells #[.int .i64 vt, .int .i64 vn, .string vx] 23)) wr.heap.size _) := HBX.out.on (alB _ _)
          have RY : Aside (ResAt ((wr.alloc (.cells #[.int .i64 6, .int .i64 yg, .int .i64 yt, .int .i64 yn, .string ys] 52)).alloc (.cells #[.int .i64 vt, .int .i64 vn, .string vx] 23)) w.heap.size) := RX.out.below (alB _ _) (by simp; omega)
          have BY : Aside (Below w.heap.size w ((wr.alloc (.cells #[.int .i64 6, .int .i64 yg, .int .i64 yt, .int .i64 yn, .string ys] 52)).alloc (.cells #[.int .i64 vt, .int .i64 vn, .string vx] 23))) := BX.out.alloc BX.out.size _
          obtain ⟨x0, x1, x2, x3, x4, hX⟩ := HBX.out.cells
          simp only at x0 x1 x2 x3 x4
          have hgl4 : gL < wr.heap.size + 1 := by simpa using hgl3
          have hdoc : (DocAt (w.heap.size + 1) ((wr.alloc (.cells #[.int .i64 6, .int .i64 yg, .int .i64 yt, .int .i64 yn, .string ys] 52)).alloc (.cells #[.int .i64 vt, .int .i64 vn, .string vx] 23)) (some ⟨gL, 0, none⟩) c1 st qd cd d) := DY.out
          have HSL : Hid (st.length = l1 + 1) := hl1
          have HOY : Aside (World.ownsRow ((wr.alloc (.cells #[.int .i64 6, .int .i64 yg, .int .i64 yt, .int .i64 yn, .string ys] 52)).alloc (.cells #[.int .i64 vt, .int .i64 vn, .string vx] 23)) (w.heap.size + 1) 23 3 (.slice (some ⟨gL, 0, none⟩) (l1 + 1) c1) (l1 + 1) (vcells st)) := by
            have := hdoc.1
            rw [hl1] at this
            exact this
          rw [hl1]
          clear OL hdoc hl1 hneed DX HBX RX BX
          go_wp2_with (at_builtin; refine wpList_append_own _ rfl _ _ 28 rfl (w.heap.size + 1) 23 i0 _ 3 32 Tryz.underlying28 hi0 hz0 hz1 hz2 rfl (by decide) _ _ _ rfl (HOY.out.alloc _) ⟨wr.heap.size + 1 + 1, 0, none⟩ 1 1 [.int .i64 vt, .int .i64 vn, .string vx] rfl rfl (news_one (by simp) _) (one3 _ _ _) (by simp [maxLen]; omega) (by omega) (by simp; omega) ?_)
          intro v' w2 hown' hgrow _
          obtain ⟨q2, c2, rfl⟩ := lown_slice hown'
          have DA := DY.out.on (alB _ (.cells #[.int .i64 vt, .int .i64 vn, .string vx] 23))
          have D2 : Aside (DocAt (w.heap.size + 1) w2 q2 c2 (st ++ [(vt, vn, vx)]) qd cd d) := doc_push DA HSL.out hown' hgrow
          have OA := DA.1
          rw [HSL.out] at OA
          have X2 : Aside (InsBox w2 wr.heap.size _) := (XY.out.on (alB _ _)).grown OA (by decide) hgrow
          have bg := ((Below.refl (w.heap.size + 1) _).alloc (by simp; omega) (.cells #[.int .i64 vt, .int .i64 vn, .string vx] 23)).trans (grown_below OA hgrow (by simp; omega))
          have R2 : Aside (ResAt w2 w.heap.size) := RY.out.below bg (Nat.lt_succ_self _)
          have B2 : Aside (Below w.heap.size w w2) := BY.out.trans (bg.mono (Nat.le_succ _))
          have hw2 : w.heap.size < w2.heap.size := R2.out.cells.2.2.2.2
          clear hown' hgrow DA OA HOY bg DY XY RY BY
          obtain ⟨x0, x1, x2, x3, x4, hX⟩ := X2.out.cells
          simp only at x0 x1 x2 x3 x4
          go_wp2_with (at_builtin; refine wpList_append_own _ rfl _ _ 58 rfl (w.heap.size + 1) 3 j0 (.int .i64 0) 1 8 Tryz.underlying58 hj0 hy0 hy1 hy2 rfl (by decide) _ _ _ rfl (D2.out.2.alloc _) ⟨w2.heap.size, 0, none⟩ 1 1 [.int .i64 (kk : Int)] rfl rfl (news_one (by simp) _) (one1 _) (by simp [maxLen]; omega) (by omega) (by simp; omega) ?_)
          intro v' w3 hown' hgrow _
          obtain ⟨q3, c3, rfl⟩ := lown_slice hown'
          have DA := D2.out.on (alB _ (.cells #[.int .i64 (kk : Int)] 3))
          have D3 : Aside (DocAt (w.heap.size + 1) w3 q2 c2 (st ++ [(vt, vn, vx)]) q3 c3 (d ++ [kk])) := doc_done DA rfl hown' hgrow
          have X3 : Aside (InsBox w3 wr.heap.size _) := (X2.out.on (alB _ _)).grown DA.2 (by decide) hgrow
          have bg := ((Below.refl (w.heap.size + 1) _).alloc (by first | (simp; omega) | omega) (.cells #[.int .i64 (kk : Int)] 3)).trans (grown_below DA.2 hgrow (by first | (simp; omega) | omega))
          have R3 : Aside (ResAt w3 w.heap.size) := R2.out.below bg (Nat.lt_succ_self _)
          have B3 : Aside (Below w.heap.size w w3) := B2.out.trans (bg.mono (Nat.le_succ _))
          clear hown' hgrow DA bg x0 x1 x2 x3 x4 D2 X2 R2 B2
          obtain ⟨x0, x1, x2, x3, x4, hX3⟩ := X3.out.cells
          simp only at x0 x1 x2 x3 x4
          go_wp2
          go_roundg (N - (kk + 1 + 0))
          case measure => omega
          case rel => exact ⟨kk + 1 + 0, st ++ [(vt, vn, vx)], d ++ [kk], q2, c2, q3, c3, hle, by omega, by simp [HSL.out], by simp, by go_num, D3, R3, B3, AT3, HL3, HE3⟩
        rw [if_neg w6] at hvm
        by_cases w7 : ya = 7
        · subst w7
          simp only [Prod.mk.injEq] at hvm
          obtain ⟨rfl, rfl, rfl⟩ := hvm
          have hn1 : 1 ≤ st.length := by
            have := hneed
            rw [needN, if_neg (show ¬ (7 : Int) = 3 by decide), if_pos (by simp)] at this
            exact this
          obtain ⟨l1, hl1⟩ : ∃ l1, st.length = l1 + 1 := ⟨st.length - 1, by omega⟩
          have hl64 : (l1 : Int) ≤ 63 := by omega
          have hl0 : (0 : Int) ≤ (l1 : Int) := by omega
          have hlt1 : (st.take l1).length = l1 := by rw [List.length_take]; omega
          have OL := DX.out.1
          rw [hl1] at OL
          obtain ⟨p1, cc1, -, r2, -⟩ := val_slice_l (l := l1) OL hl1 (by omega)
          rw [List.dropLast_eq_take, hl1, Nat.add_sub_cancel] at HE2 HNX
          obtain ⟨hle, hat, hs64⟩ : kk + 1 + 0 ≤ N ∧ AtPl l (kk + 1 + 0) (st.take l1) ∧ (st.take l1).length ≤ 64 := by
            rcases HNX.out with ⟨_, h1, h2, h3⟩ | h9
            · exact ⟨h1, h2, h3⟩
            · exact absurd h9 (by decide)
          have HE3 : Hid (runP rs fuel (is.drop (kk + 1 + 0)) (kk + 1 + 0) 0 (st.take l1) (d ++ [kk]) = R) := by
            have := HE2.out
            rwa [if_neg (by simp)] at this
          have HL3 : Hid ((st.take l1).length ≤ 64 ∧ (d ++ [kk]).length ≤ kk + 1 + 0) := ⟨hs64, by simp; omega⟩
          have AT3 : Aside (AtPl l (kk + 1 + 0) (st.take l1)) := hat
          clear HE2 HNX hat hs64
          have DT : Aside (DocAt (w.heap.size + 1) (wr.alloc (.cells #[.int .i64 7, .int .i64 yg, .int .i64 yt, .int .i64 yn, .string ys] 52)) q c1 (st.take l1) qd cd d) := doc_take DX.out (by omega) (by omega)
          rw [hl1]
          clear OL hl1 hneed DX
          obtain ⟨x0, x1, x2, x3, x4, hX⟩ := HBX.out.cells
          simp only at x0 x1 x2 x3 x4
          go_wp2_with (at_builtin; refine wpList_append_own _ rfl _ _ 58 rfl (w.heap.size + 1) 3 j0 (.int .i64 0) 1 8 Tryz.underlying58 hj0 hy0 hy1 hy2 rfl (by decide) _ _ _ rfl (DT.out.2.alloc _) ⟨wr.heap.size + 1, 0, none⟩ 1 1 [.int .i64 (kk : Int)] rfl rfl (news_one (by simp) _) (one1 _) (by simp [maxLen]; omega) (by omega) (by simp; omega) ?_)
          intro v' w3 hown' hgrow _
          obtain ⟨q3, c3, rfl⟩ := lown_slice hown'
          have DA := DT.out.on (alB _ (.cells #[.int .i64 (kk : Int)] 3))
          have D3 : Aside (DocAt (w.heap.size + 1) w3 q c1 (st.take l1) q3 c3 (d ++ [kk])) := doc_done DA rfl hown' hgrow
          have X3 : Aside (InsBox w3 wr.heap.size _) := (HBX.out.on (alB _ _)).grown DA.2 (by decide) hgrow
          have bg := ((Below.refl (w.heap.size + 1) _).alloc (by first | (simp; omega) | omega) (.cells #[.int .i64 (kk : Int)] 3)).trans (grown_below DA.2 hgrow (by first | (simp; omega) | omega))
          have R3 : Aside (ResAt w3 w.heap.size) := RX.out.below bg (Nat.lt_succ_self _)
          have B3 : Aside (Below w.heap.size w w3) := BX.out.trans (bg.mono (Nat.le_succ _))
          clear hown' hgrow DA bg x0 x1 x2 x3 x4 DT HBX RX BX
          obtain ⟨x0, x1, x2, x3, x4, hX3⟩ := X3.out.cells
          simp only at x0 x1 x2 x3 x4
          go_wp2
          go_roundg (N - (kk + 1 + 0))
          case measure => omega
          case rel => exact ⟨kk + 1 + 0, st.take l1, d ++ [kk], q, c1, q3, c3, hle, by omega, by rw [hlt1], by simp, by go_num, D3, R3, B3, AT3, HL3, HE3⟩
        exact absurd hA (by rw [if_neg (by omega), if_neg (by omega)]; decide)
    · have hltz : ¬ (kk : Int) < (N : Int) := by omega
      obtain rfl : kk = N := by omega
      have hR2 := HE.out
      rw [List.drop_eq_nil_of_le (by rw [HN.out]; exact Nat.le_refl _), runP] at hR2
      subst hR2
      obtain ⟨⟨vt, vn, vs⟩, rfl, hok⟩ := HSND.out.end (by rw [HN.out]; exact AR.out)
      have hv0 : (vt, vn, vs) = v := by have := HV.out; simpa using this
      subst hv0
      have ho := DR.out.1
      simp only [List.length_singleton] at ho
      obtain ⟨gL, rfl, hB, hg5, e0, e1, e2⟩ := own_last (l := 0) ho rfl (show ([(vt, vn, vs)] : List V3).getLast?.getD noV = _ from rfl)
      simp only [Nat.zero_mul, Nat.zero_add] at e0 e1 e2
      have I2 : Aside (IntsAt (((wr.setCell ⟨w.heap.size, 0, none⟩ (.int .i64 vt)).setCell ⟨w.heap.size, 1, none⟩ (.int .i64 vn)).setCell ⟨w.heap.size, 2, none⟩ (.string vs)) qd (natZ d)) := doc_ints DR.out RR.out _ _ _
      obtain ⟨s0, s1, s2, sf, sl⟩ := RR.out.cells
      have B9 := BR.out
      have hgne : gL ≠ w.heap.size := by omega
      simp only [List.length_singleton]
      clear HE ho hok AR HL DR RR BR
      go_wp2
      refine bodyPost_ret (v := .tuple #[.agg #[.int .i64 vt, .int .i64 vn, .string vs], .slice qd d.length cd, .int .i64 0]) (by simp [results, Tryz.results19, go_sem, World.cell?_setCell_other, World.cell?_setCell_same, s0, s1, s2]) rfl ?_
      refine HPE.out _ _ ⟨⟨qd, cd, rfl, I2⟩, ?_⟩
      exact below3 B9 (Nat.le_refl _) _ _ _
end Go.Proofs.YtfhlhdddhgkinaaGreatDoor
