/-
  The walk of sluicelaw1.LexBack, for all texts.
-/
import Derived.Test.YtacfgibmdobnpabDoorLexSp
namespace Go.Proofs.YtacfgibmdobnpabDoor
open Go.RowKit
set_option linter.unusedVariables false

theorem three_fact : lexAll (⟨#[97, 60, 61, 32, 39, 98, 39, 39, 99, 39]⟩ : ByteArray).data.toList = ([(1, ⟨#[97]⟩, 0), (4, ⟨#[60, 61]⟩, 1), (3, ⟨#[39, 98, 39, 39, 99, 39]⟩, 4)], 0, 0) := by kernel_rfl
theorem join_v (v : Value) (ts : List Tok) (J : ByteArray) (w : World) (h : IsToks w v ts) (hn : ts.length ≤ 400) (hz : ∀ t ∈ ts, t.2.1.size ≤ 400) (hJ : J.data.toList = joinL ts) :
    Calls Tryd.prog 12 #[v] w fun e w' => e = .returned (.string J) ∧ Below w.heap.size w w' := by
  obtain ⟨p, c, rfl, hm, h⟩ := h
  rcases h with h0 | ⟨b, off, rfl, h⟩
  · have hr := List.length_eq_zero_iff.1 h0
    subst hr
    have hJ0 : J = ⟨#[]⟩ := eq_of_list hJ
    subst hJ0
    exact join_none p c w
  · have hJ1 : J = ⟨(joinL ts).toArray⟩ := eq_of_list hJ
    subst hJ1
    exact join_some b off c ts w h hn hz
theorem blank_at {s : ByteArray} {A tt j : Nat} (h : ∀ c ∈ (s.data.toList.drop A).take (tt - A), blB c = true) (h1 : A ≤ j) (h2 : j < tt) (h3 : j < s.size) : s[j] = 32 ∨ s[j] = 10 := by
  refine bl_cases (h _ ?_)
  have hl : s.data.toList.length = s.size := by simp
  have e : ((s.data.toList.drop A).take (tt - A))[j - A]? = some s[j] := by
    rw [List.getElem?_take_of_lt (by omega), List.getElem?_drop, show A + (j - A) = j from by omega, List.getElem?_eq_getElem (by omega)]
    rfl
  exact List.mem_of_getElem? e
theorem blank_end {s : ByteArray} {A j : Nat} (h : ∀ c ∈ s.data.toList.drop A, blB c = true) (h1 : A ≤ j) (h3 : j < s.size) : s[j] = 32 ∨ s[j] = 10 := by
  refine bl_cases (h _ ?_)
  have hl : s.data.toList.length = s.size := by simp
  have e : (s.data.toList.drop A)[j - A]? = some s[j] := by
    rw [List.getElem?_drop, show A + (j - A) = j from by omega, List.getElem?_eq_getElem (by omega)]
    rfl
  exact List.mem_of_getElem? e
theorem stand_at {s : List UInt8} {p : Nat} {ts : List Tok} {k : Nat} (h : k < ts.length) (hs : Stand s p (ts.drop k)) : p ≤ ts[k].2.2 ∧ ts[k].2.2 + ts[k].2.1.size ≤ s.length ∧ 0 < ts[k].2.1.size ∧ (∀ c ∈ (s.drop p).take (ts[k].2.2 - p), blB c = true) ∧ (s.drop ts[k].2.2).take ts[k].2.1.size = ts[k].2.1.data.toList ∧ Stand s (ts[k].2.2 + ts[k].2.1.size) (ts.drop (k + 1)) := by
  rw [List.drop_eq_getElem_cons h] at hs
  exact hs
theorem not_empty' (s : ByteArray) (hp : 0 < s.size) : s.toList.isEmpty = false := by
  rw [Lib.toList_data, List.isEmpty_eq_false_iff]
  intro e
  have : s.data.toList.length = s.size := by simp
  rw [e] at this; simp at this; omega
set_option maxHeartbeats 32000000 in
set_option maxRecDepth 20000 in
theorem lexback_bad (s : ByteArray) (R : List Tok) (E : Int) (P : Nat) (w : World) (henv : Env w) (hw : SG w) (hR : lexAll s.data.toList = (R, E, P)) (hE : E ≠ 0) :
    Calls Tryd.prog 5 #[.string s] w fun e w' => e = .returned (.bool true) ∧ Below w.heap.size w w' := by
  obtain ⟨rfl, hP, _⟩ := lexAll_bad hR hE
  have hPz : (P : Int) ≤ (s.size : Int) := by simp at hP; omega
  have hP0 : (0 : Int) ≤ (P : Int) := by omega
  have HR : Hid (lexAll s.data.toList = ([], E, P)) := hR
  have hEz : (E != 0) = true := by simpa using hE
  clear hR hE hP
  go_enter Tryd.func5, Tryd.ntmps5
  go_wp2_with fail
  refine (tokens_as ⟨#[97, 60, 61, 32, 39, 98, 39, 39, 99, 39]⟩ _ 0 0 _ henv hw three_fact).mono ?_
  rintro e w1 ⟨⟨v1, rfl, hv1⟩, b1⟩
  obtain ⟨p1, c1, rfl, _, hin1⟩ := hv1
  rcases hin1 with h0 | ⟨bb, off, rfl, hin1⟩
  · exact absurd h0 (by decide)
  obtain ⟨_, q1, _⟩ := hin1.2 1 (by decide)
  obtain ⟨_, _, q2⟩ := hin1.2 2 (by decide)
  have hbb := hin1.1
  simp only [Nat.one_mul, List.getElem_cons_zero, List.getElem_cons_succ, show 2 * 3 = 6 from rfl] at q1 q2
  have hl1 : [((1 : Int), (⟨#[97]⟩ : ByteArray), (0 : Nat)), (4, ⟨#[60, 61]⟩, 1), (3, ⟨#[39, 98, 39, 39, 99, 39]⟩, 4)].length = 3 := rfl
  rw [hl1]
  have B1 := b1.alloc b1.size (.cells #[.int .i64 0, .int .i64 0] 36)
  clear b1 hin1 hl1
  go_wp2_with fail
  refine (tokens_as s [] E P _ (henv.on B1) (hw.on B1) HR.out).mono ?_
  rintro e w2 ⟨⟨v2, rfl, hv2⟩, b2⟩
  obtain ⟨p2, c2, rfl, hm2, hin2⟩ := hv2
  have B2 := (B1.trans (b2.mono B1.size)).alloc (B1.trans (b2.mono B1.size)).size (.cells #[.int .i64 E, .int .i64 (P : Int)] 36)
  have hl0 : ([] : List Tok).length = 0 := rfl
  rw [hl0]
  clear b2 q1 q2 hbb B1 HR hin2
  go_wp2
  go_ret
  exact ⟨rfl, B2⟩
set_option maxHeartbeats 32000000 in
set_option maxRecDepth 20000 in
theorem lexback_ok (s : ByteArray) (R : List Tok) (P : Nat) (w : World) (henv : Env w) (hw : SG w) (hR : lexAll s.data.toList = (R, 0, P)) :
    Calls Tryd.prog 5 #[.string s] w fun e w' => e = .returned (.bool true) ∧ Below w.heap.size w w' := by
  obtain ⟨hs400, hP, HST, HGD⟩ := lexAll_ok hR
  subst hP
  have hsl : s.data.toList.length = s.size := by simp
  obtain ⟨hr1, hr2⟩ := stand_small _ R 0 (Nat.zero_le _) HST
  have hrn : R.length ≤ 400 := by omega
  have hsz : s.size ≤ 400 := by omega
  have HZ : Hid (∀ t ∈ R, t.2.1.size ≤ 400) := fun t ht => by have := (hr2 t ht).1; omega
  have HG : Hid (∀ t ∈ R, Good t.1 t.2.1.data.toList) := HGD
  have HS0 : Hid (Stand s.data.toList 0 R) := HST
  have HR : Hid (lexAll s.data.toList = (R, 0, 0)) := hR
  clear hR HST HGD hr1 hr2 hs400 hsl
  go_enter Tryd.func5, Tryd.ntmps5
  go_wp2_with fail
  refine (tokens_as ⟨#[97, 60, 61, 32, 39, 98, 39, 39, 99, 39]⟩ _ 0 0 _ henv hw three_fact).mono ?_
  rintro e w1 ⟨⟨v1, rfl, hv1⟩, b1⟩
  obtain ⟨p1, c1, rfl, _, hin1⟩ := hv1
  rcases hin1 with h0 | ⟨bb, off, rfl, hin1⟩
  · exact absurd h0 (by decide)
  obtain ⟨_, q1, _⟩ := hin1.2 1 (by decide)
  obtain ⟨_, _, q2⟩ := hin1.2 2 (by decide)
  have hbb := hin1.1
  simp only [Nat.one_mul, List.getElem_cons_zero, List.getElem_cons_succ, show 2 * 3 = 6 from rfl] at q1 q2
  have hl1 : [((1 : Int), (⟨#[97]⟩ : ByteArray), (0 : Nat)), (4, ⟨#[60, 61]⟩, 1), (3, ⟨#[39, 98, 39, 39, 99, 39]⟩, 4)].length = 3 := rfl
  rw [hl1]
  have B1 := b1.alloc b1.size (.cells #[.int .i64 0, .int .i64 0] 36)
  clear b1 hin1 hl1
  go_wp2_with fail
  refine (tokens_as s R 0 0 _ (henv.on B1) (hw.on B1) HR.out).mono ?_
  rintro e w2 ⟨⟨v2, rfl, hv2⟩, b2⟩
  obtain ⟨p2, c2, rfl, hm2, hin2⟩ := hv2
  have B2 : Below w.heap.size w (w2.alloc (.cells #[.int .i64 0, .int .i64 0] 36)) := (B1.trans (b2.mono B1.size)).alloc (B1.trans (b2.mono B1.size)).size _
  have hin2' : R.length = 0 ∨ ∃ b off, p2 = some ⟨b, off, none⟩ ∧ ToksIn (w2.alloc (.cells #[.int .i64 0, .int .i64 0] 36)) b off R := by
    rcases hin2 with h | ⟨b, off, e, h⟩
    · exact .inl h
    · exact .inr ⟨b, off, e, h.on ((Below.refl _ _).alloc (Nat.le_refl _) _)⟩
  clear b2 q1 q2 hbb B1 HR hin2
  go_wp2
  go_loopg [7, 8, 9, 10, 11] (R.length + 1) (fun gg s7 s8 _ _ _ wr => ∃ (kk A : Nat), kk ≤ R.length ∧ R.length + 1 - kk ≤ gg ∧ A ≤ s.size ∧ s8 = .int .i64 kk ∧ s7 = .int .i64 A ∧ wr = w2.alloc (.cells #[.int .i64 0, .int .i64 0] 36) ∧ Hid (Stand s.data.toList A (R.drop kk)))
  case atStart => exact ⟨0, 0, Nat.zero_le _, by omega, Nat.zero_le _, rfl, rfl, rfl, HS0⟩
  case round =>
    obtain ⟨kk, A, hkk, hg, hA, rfl, rfl, rfl, HS⟩ := hrel
    have hlez : (kk : Int) ≤ (R.length : Int) := by omega
    clear HS0
    by_cases hlt : kk < R.length
    · have hltz : (kk : Int) < (R.length : Int) := by omega
      have hneq : ((kk : Int) == (R.length : Int)) = false := by rw [beq_eq_false_iff_ne]; omega
      have k0 : (0 : Int) ≤ (kk : Int) := by omega
      rcases hin2' with h0 | ⟨b, off, rfl, hin⟩
      · exact absurd h0 (by omega)
      obtain ⟨d0, d1, d2⟩ := hin.2 kk hlt
      have hbl := hin.1
      have hst := stand_at hlt HS.out
      clear HS
      generalize R[kk] = y at d0 d1 d2 hst
      obtain ⟨yk, yx, ya⟩ := y
      simp only at d0 d1 d2 hst
      obtain ⟨t1, t2, t3, t4, t5, t6⟩ := hst
      have hsl : s.data.toList.length = s.size := by simp
      rw [hsl] at t2
      have HB : Hid (∀ c ∈ (s.data.toList.drop A).take (ya - A), blB c = true) := t4
      have HN : Hid (Stand s.data.toList (ya + yx.size) (R.drop (kk + 1))) := t6
      have c1z : ¬ (ya : Int) < (A : Int) := by omega
      have c2z : ¬ (s.size : Int) < (ya : Int) := by omega
      have ne := not_empty' yx t3
      have c3z : ¬ (s.size : Int) - (ya : Int) < (yx.size : Int) := by omega
      obtain ⟨Y, hY, hY1, hY2⟩ := slice_mid s ya (ya + yx.size) (by omega) t2
      have hYx : Y = yx := by rw [eq_of_list hY1, show ya + yx.size - ya = yx.size from by omega, t5]
      subst hYx
      have hYz : ∀ W : World, Sem.run Tryd.prog (Instr.slice 9 (.string s) (some (.int .i64 (ya : Int))) (some (.int .i64 ((ya : Int) + (Y.size : Int)))) none) W = .ok (.string Y) W := by
        have e : ((ya + Y.size : Nat) : Int) = (ya : Int) + (Y.size : Int) := by omega
        rw [e] at hY; exact hY
      clear t4 t5 t6 hsl hY hY1 hY2
      go_wp2
      go_loopg [10] (ya - A) (fun gg s10 wr => ∃ j : Nat, A ≤ j ∧ j ≤ ya ∧ ya - j ≤ gg ∧ s10 = .int .i64 j ∧ wr = w2.alloc (.cells #[.int .i64 0, .int .i64 0] 36))
      case atStart => exact ⟨A, Nat.le_refl _, t1, Nat.le_refl _, rfl, rfl⟩
      case round =>
        obtain ⟨j, j1, j2, j3, rfl, rfl⟩ := hrel
        by_cases jl : j < ya
        · have jlz : (j : Int) < (ya : Int) := by omega
          have js : j < s.size := by omega
          rcases blank_at HB.out j1 jl js with hb | hb
          · have b1 : ((s[j].toNat : Int) != 32) = false := by rw [hb]; rfl
            clear hb
            go_wp2
            go_roundg (ya - (j + 1))
            case measure => omega
            case rel => exact ⟨j + 1, by omega, by omega, by omega, by go_num, rfl⟩
          · have b1 : ((s[j].toNat : Int) != 32) = true := by rw [hb]; rfl
            have b2 : ((s[j].toNat : Int) != 10) = false := by rw [hb]; rfl
            clear hb
            go_wp2
            go_roundg (ya - (j + 1))
            case measure => omega
            case rel => exact ⟨j + 1, by omega, by omega, by omega, by go_num, rfl⟩
        · have jlz : ¬ (j : Int) < (ya : Int) := by omega
          go_wp2
          go_roundg (R.length + 1 - (kk + 1))
          case measure => omega
          case rel => exact ⟨kk + 1, ya + Y.size, by omega, by omega, t2, by go_num, by go_num, rfl, HN⟩
    · have hltz : ¬ (kk : Int) < (R.length : Int) := by omega
      have heq : ((kk : Int) == (R.length : Int)) = true := by rw [beq_iff_eq]; omega
      have HB : Hid (∀ c ∈ s.data.toList.drop A, blB c = true) := by
        have := HS.out
        rw [List.drop_eq_nil_of_le (by omega)] at this
        exact this
      have c1z : ¬ (s.size : Int) < (A : Int) := by omega
      clear HS
      go_wp2
      go_loopg [10] (s.size - A) (fun gg s10 wr => ∃ j : Nat, A ≤ j ∧ j ≤ s.size ∧ s.size - j ≤ gg ∧ s10 = .int .i64 j ∧ wr = w2.alloc (.cells #[.int .i64 0, .int .i64 0] 36))
      case atStart => exact ⟨A, Nat.le_refl _, hA, Nat.le_refl _, rfl, rfl⟩
      case round =>
        obtain ⟨j, j1, j2, j3, rfl, rfl⟩ := hrel
        by_cases jl : j < s.size
        · have jlz : (j : Int) < (s.size : Int) := by omega
          rcases blank_end HB.out j1 jl with hb | hb
          · have b1 : ((s[j].toNat : Int) != 32) = false := by rw [hb]; rfl
            clear hb
            go_wp2
            go_roundg (s.size - (j + 1))
            case measure => omega
            case rel => exact ⟨j + 1, by omega, by omega, by omega, by go_num, rfl⟩
          · have b1 : ((s[j].toNat : Int) != 32) = true := by rw [hb]; rfl
            have b2 : ((s[j].toNat : Int) != 10) = false := by rw [hb]; rfl
            clear hb
            go_wp2
            go_roundg (s.size - (j + 1))
            case measure => omega
            case rel => exact ⟨j + 1, by omega, by omega, by omega, by go_num, rfl⟩
        · have jlz : ¬ (j : Int) < (s.size : Int) := by omega
          obtain ⟨J, hJ⟩ : ∃ J : ByteArray, J.data.toList = joinL R := ⟨⟨(joinL R).toArray⟩, rfl⟩
          have HJ : Hid (J.data.toList = joinL R) := hJ
          obtain ⟨U, E2, P2, hU⟩ : ∃ U E2 P2, lexAll J.data.toList = (U, E2, P2) := ⟨_, _, _, rfl⟩
          have HU : Hid (lexAll J.data.toList = (U, E2, P2)) := hU
          have hJl : J.data.toList.length = J.size := by simp
          have HTR : IsToks (w2.alloc (.cells #[.int .i64 0, .int .i64 0] 36)) (.slice p2 R.length c2) R := ⟨p2, c2, rfl, hm2, hin2'⟩
          clear hJ hU HB
          go_wp2_with fail
          refine (join_v _ R J _ HTR hrn HZ.out HJ.out).mono ?_
          rintro e w3 ⟨rfl, b3⟩
          have B3 := B2.trans (b3.mono B2.size)
          go_wp2_with fail
          refine (tokens_as J U E2 P2 _ (henv.on B3) (hw.on B3) HU.out).mono ?_
          rintro e w4 ⟨⟨v4, rfl, hv4⟩, b4⟩
          obtain ⟨p4, c4, rfl, hm4, hin4⟩ := hv4
          have B4 := B3.trans (b4.mono B3.size)
          by_cases h4 : 400 < J.size
          · have h4z : (400 : Int) < (J.size : Int) := by omega
            have hF : (U, E2, P2) = ([], 4, 0) := by rw [← HU.out]; exact lexAll_full (by omega)
            obtain ⟨rfl, he⟩ := Prod.mk.inj hF
            obtain ⟨rfl, rfl⟩ := Prod.mk.inj he
            clear hF he HU hin4
            go_wp2
            go_ret
            exact ⟨rfl, B4.alloc B4.size _⟩
          · have h4z : ¬ (400 : Int) < (J.size : Int) := by omega
            obtain ⟨us, hus, hmap⟩ := join_back HG.out (by rw [← HJ.out]; omega)
            have hF : (U, E2, P2) = (us, 0, 0) := by rw [← HU.out, HJ.out]; exact hus
            obtain ⟨rfl, he⟩ := Prod.mk.inj hF
            obtain ⟨rfl, rfl⟩ := Prod.mk.inj he
            have HM : Hid (U.map (fun t => (t.1, t.2.1.data.toList)) = R.map (fun t => (t.1, t.2.1.data.toList))) := hmap
            have hul : U.length = R.length := map_len hmap
            have hulz : ((U.length : Int) != (R.length : Int)) = false := by simp; omega
            have B5 := B4.alloc B4.size (.cells #[.int .i64 0, .int .i64 0] 36)
            have hinU : U.length = 0 ∨ ∃ b off, p4 = some ⟨b, off, none⟩ ∧ ToksIn (w4.alloc (.cells #[.int .i64 0, .int .i64 0] 36)) b off U := by
              rcases hin4 with h | ⟨b, off, e, h⟩
              · exact .inl h
              · exact .inr ⟨b, off, e, h.on ((Below.refl _ _).alloc (Nat.le_refl _) _)⟩
            have hinR : R.length = 0 ∨ ∃ b off, p2 = some ⟨b, off, none⟩ ∧ ToksIn (w4.alloc (.cells #[.int .i64 0, .int .i64 0] 36)) b off R := by
              rcases hin2' with h | ⟨b, off, e, h⟩
              · exact .inl h
              · exact .inr ⟨b, off, e, ((h.on b3).on b4).on ((Below.refl _ _).alloc (Nat.le_refl _) _)⟩
            clear hF he HU hus hmap HJ hin4 hin2' b3 b4 B4 B3 HG HZ HTR
            go_wp2
            go_loopg [15] U.length (fun gg s15 wr => ∃ kk : Nat, kk ≤ U.length ∧ U.length - kk ≤ gg ∧ s15 = .int .i64 kk ∧ Aside (Below (w4.alloc (.cells #[.int .i64 0, .int .i64 0] 36)).heap.size (w4.alloc (.cells #[.int .i64 0, .int .i64 0] 36)) wr))
            case atStart => exact ⟨0, Nat.zero_le _, by omega, rfl, Below.refl _ _⟩
            case round =>
              obtain ⟨kq, hkq, hgq, rfl, BW⟩ := hrel
              by_cases hlq : kq < U.length
              · have hltq : (kq : Int) < (U.length : Int) := by omega
                have hltr : (kq : Int) < (R.length : Int) := by omega
                have kq0 : (0 : Int) ≤ (kq : Int) := by omega
                rcases hinR with h0 | ⟨rb, ro, rfl, hinR⟩
                · exact absurd h0 (by omega)
                rcases hinU with h0 | ⟨ub, uo, rfl, hinU⟩
                · exact absurd h0 (by omega)
                obtain ⟨d0, d1, d2⟩ := (hinR.on BW.out).2 kq (by omega)
                obtain ⟨f0, f1, f2⟩ := (hinU.on BW.out).2 kq hlq
                obtain ⟨m1, m2⟩ := map_at HM.out kq hlq (by omega)
                generalize R[kq] = y at d0 d1 d2 m1 m2
                generalize U[kq] = z at f0 f1 f2 m1 m2
                obtain ⟨yk, yx, ya⟩ := y
                obtain ⟨zk, zx, za⟩ := z
                simp only at d0 d1 d2 f0 f1 f2 m1 m2
                subst m1
                obtain rfl : zx = yx := by rw [eq_of_list m2]
                clear m2
                go_wp2
                go_quiet (fail)
                go_wp2
                go_roundg (U.length - (kq + 1))
                case measure => omega
                case rel => exact ⟨kq + 1, by omega, by omega, by go_num, by repeat (first | exact BW.out | apply below_drewN | refine Below.drew ?_)⟩
              · have hltq : ¬ (kq : Int) < (U.length : Int) := by omega
                go_wp2
                go_ret
                exact ⟨rfl, B5.trans (BW.out.mono B5.size)⟩
theorem lexback_any (s : ByteArray) (w : World) (henv : Env w) (hw : SG w) :
    Calls Tryd.prog 5 #[.string s] w fun e w' => e = .returned (.bool true) ∧ Below w.heap.size w w' := by
  obtain ⟨R, E, P, hR⟩ : ∃ R E P, lexAll s.data.toList = (R, E, P) := ⟨_, _, _, rfl⟩
  by_cases hE : E = 0
  · subst hE
    exact lexback_ok s R P w henv hw hR
  · exact lexback_bad s R E P w henv hw hR hE
end Go.Proofs.YtacfgibmdobnpabDoor
