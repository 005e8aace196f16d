/-
  The walk of sluicelaw4.LexSpaces, for all texts.
-/
import Derived.Test.YtacfgibmdobnpabDoorLex6
namespace Go.Proofs.YtacfgibmdobnpabDoor
open Go.RowKit
set_option linter.unusedVariables false

theorem one_fact : lexAll (⟨#[49]⟩ : ByteArray).data.toList = ([(2, ⟨#[49]⟩, 0)], 0, 0) := by kernel_rfl
theorem spac_step {ts : List Tok} {k : Nat} (h : k < ts.length) : spacL (ts.take (k + 1)) = spacL (ts.take k) ++ (ts[k].2.1.data.toList ++ [32, 32]) := by
  rw [List.take_succ_eq_append_getElem h, spacL_snoc]
theorem app_l (a b : ByteArray) : (a ++ b).data.toList = a.data.toList ++ b.data.toList := by simp
theorem app_z (a b : ByteArray) : (a ++ b).size = a.size + b.size := by simp
theorem map_at {us ts : List Tok} (h : us.map (fun t => (t.1, t.2.1.data.toList)) = ts.map (fun t => (t.1, t.2.1.data.toList))) (k : Nat) (h1 : k < us.length) (h2 : k < ts.length) : us[k].1 = ts[k].1 ∧ us[k].2.1.data.toList = ts[k].2.1.data.toList := by
  have e : (us.map (fun t => (t.1, t.2.1.data.toList)))[k]? = (ts.map (fun t => (t.1, t.2.1.data.toList)))[k]? := by rw [h]
  rw [List.getElem?_map, List.getElem?_map, List.getElem?_eq_getElem h1, List.getElem?_eq_getElem h2] at e
  have e2 := Option.some.inj e
  exact ⟨(Prod.mk.inj e2).1, (Prod.mk.inj e2).2⟩
theorem map_len {us ts : List Tok} (h : us.map (fun t => (t.1, t.2.1.data.toList)) = ts.map (fun t => (t.1, t.2.1.data.toList))) : us.length = ts.length := by
  have := congrArg List.length h
  simpa using this
set_option maxHeartbeats 16000000 in
set_option maxRecDepth 20000 in
theorem spaces_any (s : ByteArray) (w : World) (henv : Env w) (hw : SG w) :
    Calls Tryd.prog 6 #[.string s] w fun e w' => e = .returned (.bool true) ∧ Below w.heap.size w w' := by
  obtain ⟨R, E, P, hR⟩ : ∃ R E P, lexAll s.data.toList = (R, E, P) := ⟨_, _, _, rfl⟩
  have HR : Hid (lexAll s.data.toList = (R, E, P)) := hR
  clear hR
  go_enter Tryd.func6, Tryd.ntmps6
  go_wp2_with fail
  refine (tokens_as ⟨#[49]⟩ _ 0 0 _ henv hw one_fact).mono ?_
  rintro e w1 ⟨⟨v1, rfl, hv1⟩, b1⟩
  obtain ⟨p1, c1, rfl, _, hin1⟩ := hv1
  rcases hin1 with h0 | ⟨bb, off, rfl, hin1⟩
  · exact absurd h0 (by decide)
  obtain ⟨q0, _, _⟩ := hin1.2 0 (by decide)
  have hbb := hin1.1
  simp only [Nat.zero_mul, Nat.add_zero, List.getElem_cons_zero] at q0
  have hl1 : [((2 : Int), (⟨#[49]⟩ : ByteArray), (0 : Nat))].length = 1 := rfl
  rw [hl1]
  have B1 := b1.alloc b1.size (.cells #[.int .i64 0, .int .i64 ((0 : Nat) : Int)] 36)
  clear b1 hin1 hl1
  go_wp2_with fail
  refine (tokens_as s R E P _ (henv.on B1) (hw.on B1) HR.out).mono ?_
  rintro e w2 ⟨⟨v2, rfl, hv2⟩, b2⟩
  obtain ⟨p2, c2, rfl, hm2, hin2⟩ := hv2
  have B2 := (B1.trans (b2.mono B1.size)).alloc (B1.trans (b2.mono B1.size)).size (.cells #[.int .i64 E, .int .i64 (P : Int)] 36)
  clear b2 q0 hbb B1
  by_cases hE : E = 0
  · subst hE
    obtain ⟨hs400, hP, HST, HGD⟩ := lexAll_ok HR.out
    subst hP
    obtain ⟨hr1, hr2⟩ := stand_small _ R 0 (Nat.zero_le _) HST
    have hrn : R.length ≤ 400 := by omega
    have HZ : Hid (∀ t ∈ R, t.2.1.size ≤ 400) := fun t ht => by have := (hr2 t ht).1; omega
    have HG : Hid (∀ t ∈ R, Good t.1 t.2.1.data.toList) := HGD
    have hin2' : R.length = 0 ∨ ∃ b off, p2 = some ⟨b, off, none⟩ ∧ ToksIn (w2.alloc (.cells #[.int .i64 0, .int .i64 0] 36)) b off R := by
      rcases hin2 with h | ⟨b, off, e, h⟩
      · exact .inl h
      · exact .inr ⟨b, off, e, h.on ((Below.refl _ _).alloc (Nat.le_refl _) _)⟩
    have B2' : Below w.heap.size w (w2.alloc (.cells #[.int .i64 0, .int .i64 0] 36)) := B2
    clear B2
    clear HR HST HGD hr1 hr2 hs400 hin2
    go_wp2
    go_loopg [7, 8] R.length (fun gg s7 s8 wr => ∃ (kk : Nat) (T : ByteArray), kk ≤ R.length ∧ R.length - kk ≤ gg ∧ s8 = .int .i64 kk ∧ s7 = .string T ∧ wr = w2.alloc (.cells #[.int .i64 0, .int .i64 0] 36) ∧ Hid (T.data.toList = [10, 32] ++ spacL (R.take kk)) ∧ T.size ≤ 2 + kk * 402)
    case atStart => exact ⟨0, ⟨#[10, 32]⟩, Nat.zero_le _, by omega, rfl, rfl, rfl, rfl, by decide⟩
    case round =>
      obtain ⟨kk, T, hkk, hg, rfl, rfl, rfl, HT, hT⟩ := hrel
      by_cases hlt : kk < R.length
      · have hltz : (kk : Int) < (R.length : Int) := by omega
        have k0 : (0 : Int) ≤ (kk : Int) := by omega
        rcases hin2' with h0 | ⟨b, off, rfl, hin⟩
        · exact absurd h0 (by omega)
        obtain ⟨d0, d1, d2⟩ := hin.2 kk hlt
        have hbl := hin.1
        have HS : Hid (spacL (R.take (kk + 1)) = spacL (R.take kk) ++ (R[kk].2.1.data.toList ++ [32, 32])) := spac_step hlt
        have hys := HZ.out _ (List.getElem_mem hlt)
        generalize R[kk] = y at d0 d1 d2 HS hys
        obtain ⟨yk, yx, ya⟩ := y
        simp only at d0 d1 d2 HS hys
        have hs1 : (T ++ yx).size = T.size + yx.size := app_z _ _
        have hs2 : (T ++ yx).size ≤ 1000000 := by omega
        have HA : Hid ((T ++ yx ++ ⟨#[32, 32]⟩).data.toList = [10, 32] ++ spacL (R.take (kk + 1))) := by
          show _ = _
          rw [app_l, app_l, HT.out, HS.out]
          simp
        have hs3 : (T ++ yx ++ ⟨#[32, 32]⟩).size ≤ 2 + (kk + 1) * 402 := by
          rw [app_z, hs1]
          have : (⟨#[32, 32]⟩ : ByteArray).size = 2 := rfl
          omega
        clear HS HT
        go_wp2
        go_roundg (R.length - (kk + 1))
        case measure => omega
        case rel => exact ⟨kk + 1, _, by omega, by omega, by go_num, rfl, rfl, HA, hs3⟩
      · have hltz : ¬ (kk : Int) < (R.length : Int) := by omega
        have HT2 : Hid (T.data.toList = [10, 32] ++ spacL R) := by
          have := HT.out
          rwa [List.take_of_length_le (by omega)] at this
        obtain ⟨U, E2, P2, hU⟩ : ∃ U E2 P2, lexAll T.data.toList = (U, E2, P2) := ⟨_, _, _, rfl⟩
        have HU : Hid (lexAll T.data.toList = (U, E2, P2)) := hU
        have hTl : T.data.toList.length = T.size := by simp
        clear HT hU
        go_wp2_with fail
        refine (tokens_as T U E2 P2 _ (henv.on B2') (hw.on B2') HU.out).mono ?_
        rintro e w3 ⟨⟨v3, rfl, hv3⟩, b3⟩
        obtain ⟨p3, c3, rfl, hm3, hin3⟩ := hv3
        have B3 := B2'.trans (b3.mono B2'.size)
        by_cases h4 : 400 < T.size
        · have h4z : (400 : Int) < (T.size : Int) := by omega
          have hF : (U, E2, P2) = ([], 4, 0) := by rw [← HU.out]; exact lexAll_full (by omega)
          obtain ⟨rfl, he⟩ := Prod.mk.inj hF
          obtain ⟨rfl, rfl⟩ := Prod.mk.inj he
          clear hF he
          clear HU hin3
          go_wp2
          go_ret
          exact ⟨rfl, B3.alloc B3.size _⟩
        · have h4z : ¬ (400 : Int) < (T.size : Int) := by omega
          obtain ⟨us, hus, hmap⟩ := spac_back HG.out (by rw [← HT2.out]; omega)
          have hF : (U, E2, P2) = (us, 0, 0) := by rw [← HU.out, HT2.out]; exact hus
          obtain ⟨rfl, he⟩ := Prod.mk.inj hF
          obtain ⟨rfl, rfl⟩ := Prod.mk.inj he
          clear hF he
          have HM : Hid (U.map (fun t => (t.1, t.2.1.data.toList)) = R.map (fun t => (t.1, t.2.1.data.toList))) := hmap
          have hul : U.length = R.length := map_len hmap
          have hulz : ((U.length : Int) != (R.length : Int)) = false := by simp; omega
          have B4 := B3.alloc B3.size (.cells #[.int .i64 0, .int .i64 0] 36)
          have hinU : U.length = 0 ∨ ∃ b off, p3 = some ⟨b, off, none⟩ ∧ ToksIn (w3.alloc (.cells #[.int .i64 0, .int .i64 0] 36)) b off U := by
            rcases hin3 with h | ⟨b, off, e, h⟩
            · exact .inl h
            · exact .inr ⟨b, off, e, h.on ((Below.refl _ _).alloc (Nat.le_refl _) _)⟩
          have hinR : R.length = 0 ∨ ∃ b off, p2 = some ⟨b, off, none⟩ ∧ ToksIn (w3.alloc (.cells #[.int .i64 0, .int .i64 0] 36)) b off R := by
            rcases hin2' with h | ⟨b, off, e, h⟩
            · exact .inl h
            · exact .inr ⟨b, off, e, (h.on b3).on ((Below.refl _ _).alloc (Nat.le_refl _) _)⟩
          clear HU hus hmap HT2 hin3 hin2' b3 B3 HG HZ
          go_wp2
          go_loopg [11] R.length (fun gg s11 wr => ∃ kk : Nat, kk ≤ R.length ∧ R.length - kk ≤ gg ∧ s11 = .int .i64 kk ∧ Aside (Below (w3.alloc (.cells #[.int .i64 0, .int .i64 0] 36)).heap.size (w3.alloc (.cells #[.int .i64 0, .int .i64 0] 36)) wr))
          case atStart => exact ⟨0, Nat.zero_le _, by omega, rfl, Below.refl _ _⟩
          case round =>
            obtain ⟨kk, hkk, hg, rfl, BW⟩ := hrel
            by_cases hlt : kk < R.length
            · have hltz : (kk : Int) < (R.length : Int) := by omega
              have hltu : (kk : Int) < (U.length : Int) := by omega
              have k0 : (0 : Int) ≤ (kk : Int) := by omega
              rcases hinR with h0 | ⟨rb, ro, rfl, hinR⟩
              · exact absurd h0 (by omega)
              rcases hinU with h0 | ⟨ub, uo, rfl, hinU⟩
              · exact absurd h0 (by omega)
              obtain ⟨d0, d1, d2⟩ := (hinR.on BW.out).2 kk hlt
              obtain ⟨f0, f1, f2⟩ := (hinU.on BW.out).2 kk (by omega)
              obtain ⟨m1, m2⟩ := map_at HM.out kk (by omega) hlt
              generalize R[kk] = y at d0 d1 d2 m1 m2
              generalize U[kk] = z at f0 f1 f2 m1 m2
              obtain ⟨yk, yx, ya⟩ := y
              obtain ⟨zk, zx, za⟩ := z
              simp only at d0 d1 d2 f0 f1 f2 m1 m2
              subst m1
              obtain rfl : zx = yx := by rw [eq_of_list m2]
              clear m2
              go_wp2
              go_quiet (fail)
              go_wp2
              go_roundg (R.length - (kk + 1))
              case measure => omega
              case rel => exact ⟨kk + 1, by omega, by omega, by go_num, by repeat (first | exact BW.out | apply below_drewN | refine Below.drew ?_)⟩
            · have hltz : ¬ (kk : Int) < (R.length : Int) := by omega
              go_wp2
              go_ret
              exact ⟨rfl, B4.trans (BW.out.mono B4.size)⟩
  · have hEz : (E != 0) = true := by simpa using hE
    clear hE HR hin2
    go_wp2
    go_ret
    exact ⟨rfl, B2⟩
end Go.Proofs.YtacfgibmdobnpabDoor
