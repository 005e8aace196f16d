/-
  What cutValue of package row says of any text: cut at the first comma that is not within a Text.
-/
import Derived.Test.YtggabncpedcmdaaGreatDoorRow2
import Derived.WalkSmall
import Derived.Deep.RegionWith
import Derived.Deep.Heap
namespace Go.Proofs.YtggabncpedcmdaaGreatDoor
open Go.RowKit
set_option linter.unusedVariables false

/-- Where the first comma stands that is not within a Text; b: is the beginning within one? -/
def cutPos : Bool → List UInt8 → Option Nat
  | _, [] => none
  | b, c :: l => if c = 44 ∧ b = false then some 0 else (cutPos (if c = 39 then !b else b) l).map (· + 1)
theorem drop_at (s : ByteArray) (k : Nat) (h : k < s.size) : s.data.toList.drop k = s[k] :: s.data.toList.drop (k + 1) := by
  rw [List.drop_eq_getElem_cons (by simpa using h)]; rfl
theorem cutPos_hit (s : ByteArray) (k : Nat) (h : k < s.size) (hc : s[k] = 44) : cutPos false (s.data.toList.drop k) = some 0 := by
  rw [drop_at s k h, cutPos, if_pos ⟨hc, rfl⟩]
theorem cutPos_next (s : ByteArray) (k : Nat) (b : Bool) (h : k < s.size) (hc : ¬ (s[k] = 44 ∧ b = false)) : cutPos b (s.data.toList.drop k) = (cutPos (if s[k] = 39 then !b else b) (s.data.toList.drop (k + 1))).map (· + 1) := by
  rw [drop_at s k h, cutPos, if_neg hc]
theorem map_add (o : Option Nat) (a b : Nat) : (o.map (· + a)).map (· + b) = o.map (· + (a + b)) := by cases o <;> simp [Nat.add_assoc]
/-- Over bytes that are neither. -/
theorem cutPos_over (s : ByteArray) (b : Bool) (k : Nat) : ∀ (n : Nat), (∀ j, j < n → ∃ h : k + j < s.size, 128 ≤ (s[k + j]).toNat) → cutPos b (s.data.toList.drop k) = (cutPos b (s.data.toList.drop (k + n))).map (· + n)
  | 0, _ => by simp
  | n + 1, hall => by
    have ih := cutPos_over s b k n (fun j hj => hall j (by omega))
    obtain ⟨hk, hb⟩ := hall n (by omega)
    have h44 : ¬ (s[k + n] = 44 ∧ b = false) := fun e => by rw [e.1] at hb; exact absurd hb (by decide)
    have h39 : s[k + n] ≠ 39 := fun e => by rw [e] at hb; exact absurd hb (by decide)
    rw [ih, cutPos_next s (k + n) b hk h44, if_neg h39, map_add, Nat.add_assoc, Nat.add_comm 1 n]
theorem get_in (s : ByteArray) (i : Nat) (h : i < s.size) : s.get! i = s[i] := by
  simp [ByteArray.get!, getElem!_pos, h]; rfl
theorem decode_span (s : ByteArray) (pos : Nat) (h : pos < s.size) (ha : 128 ≤ (s[pos]'h).toNat) : ∀ j, j < (Utf8.decode s pos).2 → ∃ hj : pos + j < s.size, 128 ≤ (s[pos + j]).toNat := by
  have hn : ¬ (s[pos]'h).toNat < 128 := by omega
  have key : ∀ j, (pos + j < s.size ∧ (s.get! (pos + j)).toNat / 64 = 2) → ∃ hj : pos + j < s.size, 128 ≤ (s[pos + j]).toNat := fun j ⟨h1, h2⟩ => ⟨h1, by rw [get_in s _ h1] at h2; omega⟩
  have k0 : ∃ hj : pos + 0 < s.size, 128 ≤ (s[pos + 0]).toNat := ⟨h, ha⟩
  intro j hj
  have hd : Utf8.decode s pos = Utf8.decode s pos := rfl
  rcases j with _ | j
  · exact k0
  · simp only [Utf8.decode, get_at s pos h, hn, if_false] at hj
    split at hj
    · rename_i h1
      simp only [Bool.and_eq_true, decide_eq_true_eq, beq_iff_eq] at h1
      split at hj
      · have : j = 0 := by simp at hj; omega
        subst this; exact key 1 h1.2
      · simp at hj
    · split at hj
      · rename_i h1
        simp only [Bool.and_eq_true, decide_eq_true_eq, beq_iff_eq] at h1
        split at hj
        · have : j = 0 ∨ j = 1 := by simp at hj; omega
          rcases this with rfl | rfl
          · exact key 1 h1.1.2
          · exact key 2 h1.2
        · simp at hj
      · split at hj
        · rename_i h1
          simp only [Bool.and_eq_true, decide_eq_true_eq, beq_iff_eq] at h1
          split at hj
          · have : j = 0 ∨ j = 1 ∨ j = 2 := by simp at hj; omega
            rcases this with rfl | rfl | rfl
            · exact key 1 h1.1.1.2
            · exact key 2 h1.1.2
            · exact key 3 h1.2
          · simp at hj
        · simp at hj

theorem cut1_quote (b : Bool) (p : Nat) (w : World) (hp : w.cell? ⟨p, 0, none⟩ = some (.bool b)) (hf : w.frozen? ⟨p, 0, none⟩ = false) :
    Calls Tryz.prog 81 #[.int .i32 39, .pointer (some ⟨p, 0, none⟩)] w fun e w' => e = .returned (.bool false) ∧ w' = w.setCell ⟨p, 0, none⟩ (.bool !b) := by
  go_enter Tryz.func81, Tryz.ntmps81
  go_wp2
  go_ret
  exact ⟨rfl, rfl⟩
theorem cut1_comma (b : Bool) (p : Nat) (w : World) (hp : w.cell? ⟨p, 0, none⟩ = some (.bool b)) :
    Calls Tryz.prog 81 #[.int .i32 44, .pointer (some ⟨p, 0, none⟩)] w fun e w' => e = .returned (.bool !b) ∧ w' = w := by
  go_enter Tryz.func81, Tryz.ntmps81
  go_wp2
  go_ret
  exact ⟨rfl, rfl⟩
theorem cut1_other (r : Int) (p : Nat) (w : World) (h1 : r ≠ 39) (h2 : r ≠ 44) :
    Calls Tryz.prog 81 #[.int .i32 r, .pointer (some ⟨p, 0, none⟩)] w fun e w' => e = .returned (.bool false) ∧ w' = w := by
  have e1 : (r == 39) = false := by simpa using h1
  have e2 : (r == 44) = false := by simpa using h2
  go_enter Tryz.func81, Tryz.ntmps81
  go_wp2
  go_ret
  exact ⟨rfl, rfl⟩
theorem cell_lt'' {w : World} {b o : Nat} {v : Value} (h : w.cell? ⟨b, o, none⟩ = some v) : b < w.heap.size := by
  rcases Nat.lt_or_ge b w.heap.size with h' | h'
  · exact h'
  · simp [World.cell?, Array.getElem?_eq_none h'] at h
theorem heap_set (w : World) (a : Addr) (v : Value) (k : Nat) (h : a.block ≠ k) : (w.setCell a v).heap[k]? = w.heap[k]? := Go.Deep.blk_setCell_other w a v k (Ne.symm h)
theorem frozen_set (w : World) (a c : Addr) (v : Value) : (w.setCell a v).frozen? c = w.frozen? c := by simp
def posV (o : Option Nat) : Int := match o with
  | some k => k
  | none => -1
set_option maxHeartbeats 4000000 in
theorem indexFunc_cut (s : ByteArray) (p : Nat) (w : World) (hp : w.cell? ⟨p, 0, none⟩ = some (.bool false)) (hf : w.frozen? ⟨p, 0, none⟩ = false) (hpl : p < w.heap.size) :
    Calls Tryz.prog 105 #[.string s, .func (.func 81) #[] #[.pointer (some ⟨p, 0, none⟩)], .bool true] w fun e w' => e = .returned (.int .i64 (posV (cutPos false s.data.toList))) ∧ Below p w w' := by
  obtain ⟨E, hE⟩ : ∃ E, cutPos false s.data.toList = E := ⟨_, rfl⟩
  rw [hE]
  go_enter Tryz.func105, Tryz.ntmps105
  go_wp2
  go_loopg [7, 8] s.size (fun gf _ _ wx => ∃ (pos : Nat) (b : Bool), wx.heap[w.heap.size]? = some (.stringIter s pos) ∧ Below p w wx ∧ wx.cell? ⟨p, 0, none⟩ = some (.bool b) ∧ wx.frozen? ⟨p, 0, none⟩ = false ∧ Hid (E = (cutPos b (s.data.toList.drop pos)).map (· + pos)) ∧ s.size ≤ pos + gf ∧ pos ≤ s.size)
  case atStart => exact ⟨0, false, World.iter_heap w s 0, (Below.refl _ w).alloc (by omega) _, by rw [show w.iter s 0 = w.alloc _ from rfl, World.cell?_alloc_lt _ _ _ hpl]; exact hp, by rw [show w.iter s 0 = w.alloc _ from rfl, World.frozen?_alloc_old _ _ _ (by simp; omega)]; exact hf, (show Hid _ by simp [Hid, hE]), by omega, by omega⟩
  case round =>
    obtain ⟨pos, b, hit, hbw, hpc, hpf, HA, hfu, hps'⟩ := hrel
    by_cases hps : pos < s.size
    · obtain ⟨g', rfl⟩ : ∃ g', gk = g' + 1 := ⟨gk - 1, by omega⟩
      have hnx : ∀ ty, (Instr.next (.pointer (some ⟨w.heap.size, 0, none⟩)) true ty).run Tryz.prog wr = _ := fun ty => Lib.run_next_any_at wr w.heap.size s pos ty hit hps
      have hit2 := Lib.iterAt_heap wr w.heap.size s pos (pos + (Utf8.decode s pos).2) hit
      have hbw2 := Lib.below_iterAt hbw (k := w.heap.size) (by omega) s (pos + (Utf8.decode s pos).2)
      have hkp := Lib.below_iterAt (Below.refl w.heap.size wr) (k := w.heap.size) (Nat.le_refl _) s (pos + (Utf8.decode s pos).2)
      have hpc2 := hkp.cell (p := ⟨p, 0, none⟩) hpl
      have hpf2 := hkp.frozen (p := ⟨p, 0, none⟩) hpl
      rw [hpc] at hpc2
      rw [hpf] at hpf2
      clear hkp hpc hpf hp hf
      by_cases hlow : s[pos].toNat < 128
      · have hd := decode_ascii s pos hps hlow
        rw [hd] at hnx hit2 hbw2 hpc2 hpf2
        obtain ⟨W, hWd⟩ : ∃ W, wr.iterAt w.heap.size s (pos + 1) = W := ⟨_, rfl⟩
        simp only [hWd] at hnx hit2 hbw2 hpc2 hpf2
        by_cases h39 : s[pos] = 39
        · have HT : Hid (E = (cutPos (!b) (s.data.toList.drop (pos + 1))).map (· + (pos + 1))) := by
            show _ = _
            have := HA.out
            rwa [cutPos_next s pos b hps (fun e => by rw [h39] at e; exact absurd e.1 (by decide)), if_pos h39, map_add, Nat.add_comm 1 pos] at this
          rw [h39] at hnx
          have hR : (((39 : UInt8).toNat : Nat) : Int) = 39 := rfl
          simp only [hR] at hnx
          have hpb := cell_lt'' hpc2
          have hit3 : (W.setCell ⟨p, 0, none⟩ (.bool !b)).heap[w.heap.size]? = some (.stringIter s (pos + 1)) := by
            rw [heap_set _ _ _ _ (by simp; omega)]; exact hit2
          have hbw3 := hbw2.setCell (p := ⟨p, 0, none⟩) (Nat.le_refl _) (.bool !b)
          have hpc3 := World.cell?_setCell_same W ⟨p, 0, none⟩ (.bool !b) hpc2
          have hpf3 : (W.setCell ⟨p, 0, none⟩ (.bool !b)).frozen? ⟨p, 0, none⟩ = false := by rw [frozen_set]; exact hpf2
          have cS := cut1_quote b p W hpc2 hpf2
          clear HA
          go_wp2_with (go_at_call 81; refine cS.mono ?_; rintro e W' ⟨rfl, rfl⟩)
          go_roundg g'
          case measure => omega
          case rel => exact ⟨pos + 1, !b, hit3, hbw3, hpc3, hpf3, HT, by omega, by omega⟩
        · by_cases h44 : s[pos] = 44
          · have hR : (((44 : UInt8).toNat : Nat) : Int) = 44 := rfl
            rw [h44] at hnx
            simp only [hR] at hnx
            have cS := cut1_comma b p W hpc2
            cases b
            · have HT : E = some pos := by
                rw [HA.out, cutPos_hit s pos hps h44]; simp
              subst HT
              clear HA
              go_wp2_with (go_at_call 81; refine cS.mono ?_; rintro e W' ⟨rfl, rfl⟩)
              go_ret
              exact ⟨rfl, hbw2⟩
            · have HT : Hid (E = (cutPos true (s.data.toList.drop (pos + 1))).map (· + (pos + 1))) := by
                show _ = _
                have := HA.out
                rwa [cutPos_next s pos true hps (fun e => absurd e.2 (by decide)), if_neg h39, map_add, Nat.add_comm 1 pos] at this
              clear HA
              go_wp2_with (go_at_call 81; refine cS.mono ?_; rintro e W' ⟨rfl, rfl⟩)
              go_roundg g'
              case measure => omega
              case rel => exact ⟨pos + 1, true, hit2, hbw2, hpc2, hpf2, HT, by omega, by omega⟩
          · have HT : Hid (E = (cutPos b (s.data.toList.drop (pos + 1))).map (· + (pos + 1))) := by
              show _ = _
              have := HA.out
              rwa [cutPos_next s pos b hps (fun e => h44 e.1), if_neg h39, map_add, Nat.add_comm 1 pos] at this
            obtain ⟨R, hR⟩ : ∃ R : Int, (s[pos].toNat : Int) = R := ⟨_, rfl⟩
            have r1 : R ≠ 39 := fun e => h39 (by rw [← hR] at e; exact UInt8.toNat_inj.1 (by simpa using (by omega : s[pos].toNat = 39)))
            have r2 : R ≠ 44 := fun e => h44 (by rw [← hR] at e; exact UInt8.toNat_inj.1 (by simpa using (by omega : s[pos].toNat = 44)))
            simp only [hR] at hnx
            have cS := cut1_other R p W r1 r2
            clear HA
            go_wp2_with (go_at_call 81; refine cS.mono ?_; rintro e W' ⟨rfl, rfl⟩)
            go_roundg g'
            case measure => omega
            case rel => exact ⟨pos + 1, b, hit2, hbw2, hpc2, hpf2, HT, by omega, by omega⟩
      · have hhi := decode_high s pos hps (by omega)
        have hspan := decode_span s pos hps (by omega)
        obtain ⟨R, hR⟩ : ∃ R, (Utf8.decode s pos).1 = R := ⟨_, rfl⟩
        obtain ⟨K, hK⟩ : ∃ K, (Utf8.decode s pos).2 = K := ⟨_, rfl⟩
        rw [hR, hK] at hnx hhi
        rw [hK] at hit2 hbw2 hpc2 hpf2 hspan
        have hKs : pos + K ≤ s.size := by
          obtain ⟨h1, _⟩ := hspan (K - 1) (by omega)
          omega
        have HT : Hid (E = (cutPos b (s.data.toList.drop (pos + K))).map (· + (pos + K))) := by
          show _ = _
          have := HA.out
          rwa [cutPos_over s b pos K hspan, map_add, Nat.add_comm K pos] at this
        obtain ⟨W, hWd⟩ : ∃ W, wr.iterAt w.heap.size s (pos + K) = W := ⟨_, rfl⟩
        rw [hWd] at hnx hit2 hbw2 hpc2 hpf2
        have cS := cut1_other (R : Int) p W (by omega) (by omega)
        have hK1 := hhi.2
        clear HA hspan hR hK hWd
        go_wp2_with (go_at_call 81; refine cS.mono ?_; rintro e W' ⟨rfl, rfl⟩)
        go_roundg g'
        case measure => omega
        case rel => exact ⟨pos + K, b, hit2, hbw2, hpc2, hpf2, HT, by omega, by omega⟩
    · have hnx : ∀ ty, (Instr.next (.pointer (some ⟨w.heap.size, 0, none⟩)) true ty).run Tryz.prog wr = _ := fun ty => Lib.run_next_end_at wr w.heap.size s pos ty hit hps
      have HF : E = none := by
        rw [HA.out, List.drop_eq_nil_of_le (by simp; omega)]; rfl
      subst HF
      clear HA
      go_wp2
      go_ret
      exact ⟨rfl, hbw⟩
theorem indexFunc_cut2 (s : ByteArray) (p : Nat) (w : World) (hp : w.cell? ⟨p, 0, none⟩ = some (.bool false)) (hf : w.frozen? ⟨p, 0, none⟩ = false) (hpl : p < w.heap.size) :
    Calls Tryz.prog 80 #[.string s, .func (.func 81) #[] #[.pointer (some ⟨p, 0, none⟩)]] w fun e w' => e = .returned (.int .i64 (posV (cutPos false s.data.toList))) ∧ Below p w w' := by
  go_enter Tryz.func80, Tryz.ntmps80
  go_wp2_with fail
  refine (indexFunc_cut s p _ hp hf hpl).mono ?_
  rintro e w' ⟨rfl, b1⟩
  go_wp2
  go_ret
  exact ⟨rfl, b1⟩
/-- The part ahead of the comma, what is behind it, and whether there is one. -/
def cutV (l : List UInt8) : List UInt8 × List UInt8 × Bool := match cutPos false l with
  | some k => (l.take k, l.drop (k + 1), true)
  | none => (l, [], false)
theorem of_list {x : ByteArray} {l : List UInt8} (h : x.data.toList = l) : x = ⟨l.toArray⟩ := by subst h; simp
theorem cutPos_lt : ∀ {l : List UInt8} {b : Bool} {k : Nat}, cutPos b l = some k → k < l.length
  | [], b, k, h => by simp [cutPos] at h
  | c :: l, b, k, h => by
    rw [cutPos] at h
    split at h
    · obtain rfl := Option.some.inj h; simp
    · obtain ⟨j, hj, rfl⟩ := Option.map_eq_some_iff.1 h
      have := cutPos_lt hj
      simp; omega
theorem cutValue_none (s : ByteArray) (w : World) (h : cutPos false s.data.toList = none) :
    Calls Tryz.prog 57 #[.string s] w fun e w' => e = .returned (.tuple #[.string s, .string ⟨#[]⟩, .bool false]) ∧ Below w.heap.size w w' := by
  have cS := indexFunc_cut2 s w.heap.size (w.alloc (.cells #[.bool false] 4)) (by simp) (by simp) (by simp)
  rw [h] at cS
  go_enter Tryz.func57, Tryz.ntmps57
  go_wp2_with fail
  refine cS.mono ?_
  rintro e w1 ⟨rfl, b1⟩
  have hm : posV none = -1 := rfl
  rw [hm]
  go_wp2
  go_ret3
  exact ⟨rfl, ((Below.refl _ _).alloc (Nat.le_refl _) _).trans b1⟩
set_option maxHeartbeats 1000000 in
theorem cutValue_some (s : ByteArray) (k : Nat) (w : World) (hs : s.size ≤ maxLen) (h : cutPos false s.data.toList = some k) :
    Calls Tryz.prog 57 #[.string s] w fun e w' => e = .returned (.tuple #[.string ⟨(s.data.toList.take k).toArray⟩, .string ⟨(s.data.toList.drop (k + 1)).toArray⟩, .bool true]) ∧ Below w.heap.size w w' := by
  have cS := indexFunc_cut2 s w.heap.size (w.alloc (.cells #[.bool false] 4)) (by simp) (by simp) (by simp)
  rw [h] at cS
  have hk : k < s.size := by have := cutPos_lt h; simpa using this
  unfold maxLen at hs
  have c1 : (0 : Int) ≤ (k : Int) := by omega
  have c2 : (k : Int) ≤ (s.size : Int) := by omega
  have c3 : (0 : Int) ≤ (k : Int) + 1 := by omega
  have c4 : (k : Int) + 1 ≤ (s.size : Int) := by omega
  have cn : ¬ (k : Int) < 0 := by omega
  clear h
  go_enter Tryz.func57, Tryz.ntmps57
  go_wp2_with fail
  refine cS.mono ?_
  rintro e w1 ⟨rfl, b1⟩
  have hm : posV (some k) = (k : Int) := rfl
  rw [hm]
  go_wp2
  go_region
  go_wp2
  go_ret3
  have B := ((Below.refl _ _).alloc (Nat.le_refl _) (.cells #[.bool false] 4)).trans b1
  refine ⟨?_, by repeat (first | exact B | apply below_drewN | refine Below.drew ?_)⟩
  show Ending.returned (.tuple #[.string (s.extract 0 k), .string (s.extract (k + 1) s.size), .bool true]) = _
  rw [of_list (show (s.extract 0 k).data.toList = s.data.toList.take k by rw [Lib.extract_data]; simp), of_list (show (s.extract (k + 1) s.size).data.toList = s.data.toList.drop (k + 1) by rw [Lib.extract_data, List.take_of_length_le (by simp)])]
end Go.Proofs.YtggabncpedcmdaaGreatDoor
