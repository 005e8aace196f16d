/-
  What Print of package row says of any values.
-/
import Derived.Test.YtggabncpedcmdaaGreatDoorRow5
import Derived.Test.YtggabncpedcmdaaGreatDoorPrint
import Derived.Test.YtggabncpedcmdaaGreatDoorUnquote
import Derived.Lib.ItoaLen
namespace Go.Proofs.YtggabncpedcmdaaGreatDoor
open Go.RowKit
set_option linter.unusedVariables false

/-- The values of a row lie in memory one behind the other. -/
def ValsIn (w : World) (b off : Nat) (rs : List (Int × Int × ByteArray)) : Prop :=
  b < w.heap.size ∧ ∀ j (h : j < rs.length), w.cell? ⟨b, off + j * 3, none⟩ = some (.int .i64 rs[j].1) ∧ w.cell? ⟨b, off + j * 3 + 1, none⟩ = some (.int .i64 rs[j].2.1) ∧ w.cell? ⟨b, off + j * 3 + 2, none⟩ = some (.string rs[j].2.2)
theorem ValsIn.on {w w' : World} {b off : Nat} {rs : List (Int × Int × ByteArray)} (h : ValsIn w b off rs) (hb : Below w.heap.size w w') : ValsIn w' b off rs :=
  ⟨by have := hb.size; have := h.1; omega, fun j hj => by
    rw [hb.cell (p := ⟨b, off + j * 3, none⟩) h.1, hb.cell (p := ⟨b, off + j * 3 + 1, none⟩) h.1, hb.cell (p := ⟨b, off + j * 3 + 2, none⟩) h.1]; exact h.2 j hj⟩
/-- What may be handed in. -/
def Sized (rs : List (Int × Int × ByteArray)) : Prop := ∀ r ∈ rs, r.2.2.size ≤ maxLen ∧ -9223372036854775808 ≤ r.2.1 ∧ r.2.1 ≤ 9223372036854775807
theorem errR_errV (k : Int) : errR k = errV k := rfl
theorem errV_neq (k : Int) (W : World) : Sem.run Tryz.prog (binOp .neq 27 (errV k) .nilIface) W = .ok (.bool (k != 0)) W := err_neq k W
theorem errV_gneq (k : Int) (W : World) (j : Nat) : Sem.run Tryz.prog (eqGuard .neq 27 (.tmp j) (.const .nilIface) (errV k) .nilIface) W = .ok () W := err_gneq k W j
theorem own_below {W W' : World} {base : Nat} {e : TypeId} {size : Nat} {v : Value} {n : Nat} {xs : List Value} (h : W.ownsRow base e size v n xs) (hb : Below W.heap.size W W') : W'.ownsRow base e size v n xs := by
  refine ⟨h.1, ?_⟩
  rcases h.2 with hn | ⟨g, cap, cur, rfl, h1, hgg, rest⟩
  · exact .inl hn
  · exact .inr ⟨g, cap, cur, rfl, h1, by rw [hb.block g (Array.getElem?_eq_some_iff.1 hgg).1]; exact hgg, rest⟩
/-- The first fault of values. -/
def valsE : List (Int × Int × ByteArray) → Int
  | [] => 0
  | r :: rs => if chk r.1 r.2.1 r.2.2.data.toList ≠ 0 then chk r.1 r.2.1 r.2.2.data.toList else valsE rs
def shownA (r : Int × Int × ByteArray) : ByteArray := ⟨(shown r.1 r.2.1 r.2.2.data.toList).toArray⟩
def rowE (rs : List (Int × Int × ByteArray)) : Int := if 6 < rs.length then 4 else valsE rs
def rowT (rs : List (Int × Int × ByteArray)) : List UInt8 := Lib.join (rs.map fun r => shown r.1 r.2.1 r.2.2.data.toList) [44]
theorem info_str : (Tryz.prog.info? 9).map (fun i => (i.zero, i.size, i.bytes)) = some (some (.string ⟨#[]⟩), 1, 16) := by kernel_rfl
def strCells (xs : List ByteArray) : List Value := xs.map .string
theorem rel_str {B : Nat} {l : List ByteArray} {c : ByteArray} {w wr w1 : World} {v v' : Value} {o : Obj} (hown : wr.ownsRow B 9 1 v l.length (strCells l)) (hnx : Below B w wr) (hB : B ≤ wr.heap.size)
    (hown' : w1.ownsRow B 9 1 v' (l.length + 1) (strCells l ++ [.string c])) (hgrow : (wr.alloc o).grownBy w1 v.ownBlock) :
    w1.ownsRow B 9 1 v' (l ++ [c]).length (strCells (l ++ [c])) ∧ Below B w w1 :=
  ⟨by rw [List.length_append]; simpa [strCells] using hown', (hnx.alloc hB o).grown hgrow (by simp; omega) (fun j hj => (hown.lt j hj).1)⟩
theorem rprint_full (p : Option Addr) (n c : Nat) (w : World) (hn : 6 < n) :
    Calls Tryz.prog 22 #[.slice p n c] w fun e w' => e = .returned (.tuple #[.string ⟨#[]⟩, errV 4]) ∧ w' = w := by
  have h6 : (6 : Int) < (n : Int) := by omega
  go_enter Tryz.func22, Tryz.ntmps22
  go_wp2
  go_ret2
  exact ⟨rfl, rfl⟩
theorem valsE_at {rs : List (Int × Int × ByteArray)} {k : Nat} (h : k < rs.length) : valsE (rs.drop k) = if chk rs[k].1 rs[k].2.1 rs[k].2.2.data.toList ≠ 0 then chk rs[k].1 rs[k].2.1 rs[k].2.2.data.toList else valsE (rs.drop (k + 1)) := by
  rw [List.drop_eq_getElem_cons h, valsE]
theorem shown_len {t n : Int} {l : List UInt8} (hk : chk t n l = 0) (hn : -9223372036854775808 ≤ n ∧ n ≤ 9223372036854775807) : (shown t n l).length ≤ 100 := by
  rcases chk_type hk with ⟨rfl, _⟩ | ⟨rfl, _, _⟩ | ⟨rfl, _, h40, _⟩
  · have := Lib.itoa_length_le n hn.1 hn.2
    rw [shown, if_pos rfl]
    omega
  · rw [shown, if_neg (by decide), if_pos rfl]
    split <;> simp
  · rw [shown, if_neg (by decide), if_neg (by decide)]
    have := esc_len l
    simp
    omega
theorem join_len (sep : List UInt8) : ∀ (ls : List (List UInt8)), (∀ l ∈ ls, l.length ≤ 100) → sep.length = 1 → (Lib.join ls sep).length ≤ 101 * ls.length
  | [], _, _ => by simp [Lib.join]
  | [a], h, _ => by
    have := h a (by simp)
    simp [Lib.join]; omega
  | a :: b :: r, h, hs => by
    have h1 := h a (by simp)
    have h2 := join_len sep (b :: r) (fun l hl => h l (by simp [hl])) hs
    simp [Lib.join] at h2 ⊢
    omega
set_option maxHeartbeats 4000000 in
theorem rprint_loop (b off c : Nat) (rs : List (Int × Int × ByteArray)) (w : World) (henv : Env w) (h6 : ¬ 6 < rs.length) (hsz : Sized rs) (hc : ValsIn w b off rs) :
    Calls Tryz.prog 22 #[.slice (some ⟨b, off, none⟩) rs.length c] w fun e w' => e = .returned (.tuple #[.string ⟨(if valsE rs = 0 then rowT rs else []).toArray⟩, errV (valsE rs)]) ∧ Below w.heap.size w w' := by
  have z6 : ¬ (6 : Int) < (rs.length : Int) := by omega
  obtain ⟨E, hE⟩ : ∃ E, valsE rs = E := ⟨_, rfl⟩
  obtain ⟨T, hT⟩ : ∃ T : ByteArray, (⟨(if valsE rs = 0 then rowT rs else []).toArray⟩ : ByteArray) = T := ⟨_, rfl⟩
  have HT0 : Hid (E ≠ 0 → T = ⟨#[]⟩) := fun h => by rw [← hT, hE, if_neg h]
  have HT1 : Hid (E = 0 → T = ⟨(rowT rs).toArray⟩) := fun h => by rw [← hT, hE, if_pos h]
  rw [hE, show (⟨(if E = 0 then rowT rs else []).toArray⟩ : ByteArray) = T by rw [← hE]; exact hT]
  clear hT
  obtain ⟨i0, hi, hz0, hz1, hz2⟩ := info_parts info_str
  go_enter Tryz.func22, Tryz.ntmps22
  go_wp2
  go_loopg [4, 6, 7, 8, 15] rs.length (fun gg s4 _ _ _ s15 wr => ∃ (kk : Nat) (L : List ByteArray), kk ≤ rs.length ∧ rs.length - kk ≤ gg ∧ s15 = .int .i64 kk ∧ wr.ownsRow w.heap.size 9 1 s4 L.length (strCells L) ∧ Hid (L = (rs.take kk).map shownA) ∧ Aside (Below w.heap.size w wr) ∧ Hid (E = valsE (rs.drop kk)) ∧ Hid (∀ r ∈ rs.take kk, chk r.1 r.2.1 r.2.2.data.toList = 0))
  case atStart => exact ⟨0, [], Nat.zero_le _, by omega, rfl, World.ownsRow_nil _ _ _ _, (show Hid _ by simp [Hid]), Below.refl _ w, (show Hid _ by simp [Hid, hE]), (show Hid _ by simp [Hid])⟩
  case round =>
    obtain ⟨kk, L, hkk, hg, rfl, hown, HLL, BW, HS, HA⟩ := hrel
    by_cases hlt : kk < rs.length
    · have hltz : (kk : Int) < (rs.length : Int) := by omega
      obtain ⟨c0, c1, c2⟩ := (hc.on BW.out).2 kk hlt
      have HS2 : Hid (E = if chk rs[kk].1 rs[kk].2.1 rs[kk].2.2.data.toList ≠ 0 then chk rs[kk].1 rs[kk].2.1 rs[kk].2.2.data.toList else valsE (rs.drop (kk + 1))) := HS.out.trans (valsE_at hlt)
      obtain ⟨hs1, hn1⟩ := hsz _ (List.getElem_mem hlt)
      have HT : Hid (rs.take (kk + 1) = rs.take kk ++ [rs[kk]]) := List.take_succ_eq_append_getElem hlt
      generalize hy : rs[kk] = y at c0 c1 c2 HS2 hs1 hn1 HT
      obtain ⟨yt, yn, ys⟩ := y
      have B1 := BW.out.alloc BW.out.size (.cells #[.int .i64 yt, .int .i64 yn, .string ys] 23)
      have cP := print_any yt yn ys (wr.alloc (.cells #[.int .i64 yt, .int .i64 yn, .string ys] 23)) hs1 hn1 (henv.on B1)
      simp only at HS2 c0 c1 c2
      obtain ⟨ce, hce⟩ : ∃ ce, chk yt yn ys.data.toList = ce := ⟨_, rfl⟩
      have HP : Hid (ce = 0 → prS yt yn ys.data.toList = shown yt yn ys.data.toList) := fun e => by rw [prS, if_pos (by rw [hce]; exact e)]
      have HC : Hid (chk yt yn ys.data.toList = ce) := hce
      rw [hce] at cP
      generalize hX : (⟨(prS yt yn ys.data.toList).toArray⟩ : ByteArray) = X at cP
      have HX : Hid ((⟨(prS yt yn ys.data.toList).toArray⟩ : ByteArray) = X) := hX
      have e1 := errV_neq ce
      have e2 := errV_gneq ce
      have o1 := hown.alloc (.cells #[.int .i64 yt, .int .i64 yn, .string ys] 23)
      clear HS hy hX hce hsz
      go_wp2_with fail
      refine cP.mono ?_
      rintro e w1 ⟨rfl, b1⟩
      have o2 := own_below o1 b1
      have B2 := B1.trans (b1.mono B1.size)
      clear o1 b1 B1 cP
      by_cases hz : ce = 0
      · have hb : (ce != 0) = false := by simpa using hz
        rw [hb] at e1
        have HS3 : Hid (E = valsE (rs.drop (kk + 1))) := by
          have := HS2.out
          rwa [HC.out, if_neg (by simpa using hz)] at this
        have hXs : X = shownA (yt, yn, ys) := by rw [← HX.out, HP.out hz, shownA]
        have HA2 : Hid (∀ r ∈ rs.take (kk + 1), chk r.1 r.2.1 r.2.2.data.toList = 0) := by
          intro r hr
          rw [HT.out] at hr
          rcases List.mem_append.1 hr with h | h
          · exact HA.out r h
          · obtain rfl := List.mem_singleton.1 h
            exact HC.out.trans hz
        have HL : Hid (L ++ [X] = (rs.take (kk + 1)).map shownA) := by
          show _ = _
          rw [HT.out, List.map_append, hXs, HLL.out]; rfl
        have HLen : Hid (L.length ≤ 6) := by
          show _ ≤ _
          rw [HLL.out]; simp; omega
        clear HS2 HT HA HP HX hXs hz hb HC HLL
        go_wp2_with (at_builtin; refine wpList_append_own _ rfl _ _ 88 rfl w.heap.size 9 i0 (.string ⟨#[]⟩) 1 16 Tryz.underlying88 hi hz0 hz1 hz2 rfl (by decide) _ _ _ rfl (o2.alloc _) ⟨w1.heap.size, 0, none⟩ 1 1 [.string X] rfl rfl ?c1 ?c2 ?c3 ?c4 ?c5 ?_)
        case c1 =>
          intro i u hu
          match i, hu with
          | 0, hu => simp at hu; subst hu; simp [Addr.add]
        case c2 => intro u hu; simp at hu; subst hu; rfl
        case c3 => have := HLen.out; unfold maxLen; omega
        case c4 => have := HLen.out; omega
        case c5 => have := B2.size; simp; omega
        · intro v' w2 hown' hgrow _
          have R := rel_str o2 B2 (by have := B2.size; omega) hown' hgrow
          clear hown' hgrow o2 hown
          go_wp2
          go_roundg (rs.length - (kk + 1))
          case measure => omega
          case rel => exact ⟨kk + 1, L ++ [X], by omega, by omega, by go_num, R.1, HL, R.2, HS3, HA2⟩
      · have hb : (ce != 0) = true := by simpa using hz
        rw [hb] at e1
        have HS3 : E = ce := by
          have := HS2.out
          rwa [HC.out, if_pos hz] at this
        have HQ : T = ⟨#[]⟩ := HT0.out (by rw [HS3]; exact hz)
        subst HQ
        subst HS3
        clear HS2 hz hb HA HP HX HC HT HT0 HT1
        go_wp2
        go_ret2
        exact ⟨rfl, B2⟩
    · have hltz : ¬ (kk : Int) < (rs.length : Int) := by omega
      have hk : kk = rs.length := by omega
      subst hk
      have hz : E = 0 := by
        rw [HS.out, List.drop_length]; rfl
      have HQ : T = ⟨(rowT rs).toArray⟩ := HT1.out hz
      subst hz
      have HA2 : Hid (∀ r ∈ rs, chk r.1 r.2.1 r.2.2.data.toList = 0) := by
        have := HA.out
        rwa [List.take_length] at this
      have HL2 : Hid (L = rs.map shownA) := by
        have := HLL.out
        rwa [List.take_length] at this
      have HR : Hid ((Lib.join (L.map (·.data.toList)) [44]) = rowT rs) := by
        show _ = _
        rw [rowT, HL2.out, List.map_map]
        congr 1
      have hlen : (Lib.join (L.map (·.data.toList)) [44]).length ≤ 140737488355328 := by
        have := join_len [44] (L.map (·.data.toList)) (fun l hl => by
          obtain ⟨x, hx, rfl⟩ := List.mem_map.1 hl
          rw [HL2.out] at hx
          obtain ⟨r, hr, rfl⟩ := List.mem_map.1 hx
          simp only [shownA]
          exact shown_len (HA2.out r hr) (hsz r hr).2) rfl
        have h3 : L.length = rs.length := by rw [HL2.out]; simp
        simp at this
        omega
      have HN : Hid (L.length ≤ 6) := by
        show _ ≤ _
        rw [HL2.out]; simp; omega
      clear HS HA HA2 HLL HL2 hsz
      rcases hown.2 with ⟨rfl, hn0⟩ | ⟨g, cap, cur, rfl, _, hgg, hcap, _, _, _⟩
      · have hL0 := List.length_eq_zero_iff.1 hn0
        have HQ2 : T = ⟨#[]⟩ := by rw [HQ, ← HR.out, hL0]; rfl
        subst HQ2
        clear HQ HR hlen HN hown HT0 HT1
        go_wp2_with fail
        refine (Tryz.strings_Join_none _ _ _ _).mono ?_
        rintro e w1 ⟨rfl, rfl⟩
        go_wp2
        go_ret2
        exact ⟨rfl, BW.out⟩
      · have hgl : g < wr.heap.size := (Array.getElem?_eq_some_iff.1 hgg).1
        have cJ := Tryz.strings_Join g 0 cap L ⟨#[44]⟩ wr (fun j x hx => by
          have := hown.cells (g := g) rfl j (.string x) (by simp only [strCells, List.getElem?_map, hx]; rfl)
          rw [Go.WideShapes.add_plain] at this
          simpa using this) hgl (by have := HN.out; omega) hcap hlen
        have hJ : (⟨(Lib.join (L.map (·.data.toList)) (⟨#[44]⟩ : ByteArray).data.toList).toArray⟩ : ByteArray) = T := by
          rw [HQ, ← HR.out]
        rw [hJ] at cJ
        clear hJ HR hlen HQ HT0 HT1 hown HN
        go_wp2_with fail
        refine cJ.mono ?_
        rintro e w1 ⟨rfl, b1⟩
        go_wp2
        go_ret2
        exact ⟨rfl, BW.out.trans (b1.mono BW.out.size)⟩
theorem rprint_nil (q : Option Addr) (c : Nat) (w : World) :
    Calls Tryz.prog 22 #[.slice q 0 c] w fun e w' => e = .returned (.tuple #[.string ⟨#[]⟩, errV 0]) ∧ Below w.heap.size w w' := by
  go_enter Tryz.func22, Tryz.ntmps22
  go_wp2
  refine wp_loop_rounds 1 ?_
  rw [rounds_succ]
  go_wp2_with fail
  refine (Tryz.strings_Join_none _ _ _ _).mono ?_
  rintro e w1 ⟨rfl, rfl⟩
  go_wp2
  go_ret2
  exact ⟨rfl, Below.refl _ _⟩
theorem rprint_any (b off c : Nat) (rs : List (Int × Int × ByteArray)) (w : World) (henv : Env w) (hsz : Sized rs) (hc : ValsIn w b off rs) :
    Calls Tryz.prog 22 #[.slice (some ⟨b, off, none⟩) rs.length c] w fun e w' => e = .returned (.tuple #[.string ⟨(if rowE rs = 0 then rowT rs else []).toArray⟩, errV (rowE rs)]) ∧ Below w.heap.size w w' := by
  by_cases h6 : 6 < rs.length
  · have he : rowE rs = 4 := by rw [rowE, if_pos h6]
    rw [he, if_neg (by decide)]
    exact (rprint_full _ _ c w h6).mono fun e w' hh => ⟨hh.1, by rw [hh.2]; exact Below.refl _ _⟩
  · have he : rowE rs = valsE rs := by rw [rowE, if_neg h6]
    rw [he]
    exact rprint_loop b off c rs w henv h6 hsz hc
end Go.Proofs.YtggabncpedcmdaaGreatDoor
