/-
  Ref2, TtA, TelP, TelQ, TelM, in one text.
-/
import Derived.Test.YtckonjacccfmmaaDoorGrAi
import Derived.Test.YtckonjacccfmmaaDoorGrAa
import Derived.BigQuiet
import Derived.Test.YtckonjacccfmmaaDoorGrAh
import Derived.Deep.CutBlock
import Derived.Deep.DeepCutAuto
namespace Go.Proofs.YtckonjacccfmmaaDoor
open Go.RowKit
set_option linter.unusedVariables false

theorem head_iff (s : ByteArray) (h : 0 < s.size) : s.data.toList.head? = some 48 ↔ (s[0].toNat : Int) = 48 := by
  have hl : 0 < s.data.toList.length := by simpa using h
  have e : s.data.toList.head? = some s[0] := by
    rw [List.head?_eq_getElem?, List.getElem?_eq_getElem hl]; rfl
  rw [e]
  constructor
  · intro h; rw [Option.some.inj h]; rfl
  · intro h
    have : s[0] = 48 := UInt8.toNat_inj.1 (by rw [show (48 : UInt8).toNat = 48 from rfl]; omega)
    rw [this]
theorem all_takeR (s : ByteArray) (k : Nat) (h : k < s.size) : (s.data.toList.take (k + 1)).all digB = ((s.data.toList.take k).all digB && digB s[k]) ∧ val10 (s.data.toList.take (k + 1)) = val10 (s.data.toList.take k) * 10 + (s[k].toNat - 48) := by
  have e : s.data.toList.take (k + 1) = s.data.toList.take k ++ [s[k]] := by
    rw [List.take_succ_eq_append_getElem (by simpa using h)]; rfl
  rw [e]
  exact ⟨by simp [List.all_append], val10_snoc _ _⟩
theorem all_not (s : ByteArray) (k : Nat) (h : k < s.size) (hc : digB s[k] = false) : s.data.toList.all digB = false := by
  rw [List.all_eq_false]
  exact ⟨s[k], by rw [show s[k] = s.data.toList[k]'(by simpa using h) from rfl]; exact List.getElem_mem _, by simp [hc]⟩
theorem dig_false (c : UInt8) (h : (c.toNat : Int) < 48 ∨ 57 < (c.toNat : Int)) : digB c = false := by
  cases hd : digB c with
  | false => rfl
  | true => have := (digB_iff c).1 hd; omega
theorem dig_true (c : UInt8) (h : 48 ≤ (c.toNat : Int) ∧ (c.toNat : Int) ≤ 57) : digB c = true := (digB_iff c).2 (by omega)

def numV (o : Option Nat) : Value := match o with
  | some n => .tuple #[.int .i64 (n : Int), .bool true]
  | none => .tuple #[.int .i64 0, .bool false]
set_option maxHeartbeats 1000000 in
theorem order_int (t n n' : Int) (w : World) :
    Calls Tryd.prog 29 #[.agg #[.int .i64 t, .int .i64 n, .string ⟨#[]⟩], .agg #[.int .i64 t, .int .i64 n', .string ⟨#[]⟩]] w fun e w' => e = .returned (.int .i64 (cmpI n n')) ∧ Below w.heap.size w w' := by
  have hl : Op.bytesLess (⟨#[]⟩ : ByteArray).toList (⟨#[]⟩ : ByteArray).toList = false := by rw [bytesLess_lt]; simp
  have hr := fun W => (run_gtr_str ⟨#[]⟩ ⟨#[]⟩ W).trans (by rw [hl, beq_self_eq_true]; rfl : _ = .ok (.bool false) W)
  by_cases h1 : n < n'
  · have hc : cmpI n n' = -1 := by rw [cmpI, if_pos h1]
    rw [hc]
    clear hc
    go_enter Tryd.func29, Tryd.ntmps29
    go_wp2
    go_ret
    exact ⟨rfl, by repeat (first | exact Below.refl _ _ | (refine Below.alloc ?_ (by first | (simp; done) | (simp; omega)) _))⟩
  · by_cases h2 : n' < n
    · have hc : cmpI n n' = 1 := by rw [cmpI, if_neg h1, if_pos h2]
      rw [hc]
      clear hc
      go_enter Tryd.func29, Tryd.ntmps29
      go_wp2
      go_ret
      exact ⟨rfl, by repeat (first | exact Below.refl _ _ | (refine Below.alloc ?_ (by first | (simp; done) | (simp; omega)) _))⟩
    · have hc : cmpI n n' = 0 := by rw [cmpI, if_neg h1, if_neg h2]
      rw [hc]
      clear hc
      go_enter Tryd.func29, Tryd.ntmps29
      go_wp2
      go_ret
      exact ⟨rfl, by repeat (first | exact Below.refl _ _ | (refine Below.alloc ?_ (by first | (simp; done) | (simp; omega)) _))⟩

set_option maxHeartbeats 1000000 in
theorem order_str (x y : ByteArray) (w : World) :
    Calls Tryd.prog 29 #[.agg #[.int .i64 3, .int .i64 0, .string x], .agg #[.int .i64 3, .int .i64 0, .string y]] w fun e w' => e = .returned (.int .i64 (cmpS x.data.toList y.data.toList)) ∧ Below w.heap.size w w' := by
  by_cases h1 : x.data.toList < y.data.toList
  · have hc : cmpS x.data.toList y.data.toList = -1 := by rw [cmpS, if_pos h1]
    have hl : Op.bytesLess x.toList y.toList = true := by rw [bytesLess_lt, Lib.toList_data, Lib.toList_data]; simpa using h1
    rw [hc]
    clear h1 hc
    go_enter Tryd.func29, Tryd.ntmps29
    go_wp2
    go_ret
    exact ⟨rfl, by repeat (first | exact Below.refl _ _ | (refine Below.alloc ?_ (by first | (simp; done) | (simp; omega)) _))⟩
  · have hl : Op.bytesLess x.toList y.toList = false := by rw [bytesLess_lt, Lib.toList_data, Lib.toList_data]; simpa using h1
    by_cases h2 : y.data.toList < x.data.toList
    · have hc : cmpS x.data.toList y.data.toList = 1 := by rw [cmpS, if_neg h1, if_pos h2]
      have hm : ¬ x.toList = y.toList := by rw [Lib.toList_data, Lib.toList_data]; intro e; rw [e] at h2; exact List.lt_irrefl _ h2
      have hq : (x.toList == y.toList) = false := by simpa using hm
      have hr := fun W => (run_gtr_str x y W).trans (by rw [hl, hq]; rfl : _ = .ok (.bool true) W)
      rw [hc]
      clear h1 h2 hc hm hq
      go_enter Tryd.func29, Tryd.ntmps29
      go_wp2
      go_ret
      exact ⟨rfl, by repeat (first | exact Below.refl _ _ | (refine Below.alloc ?_ (by first | (simp; done) | (simp; omega)) _))⟩
    · have hc : cmpS x.data.toList y.data.toList = 0 := by rw [cmpS, if_neg h1, if_neg h2]
      have hm : x.data.toList = y.data.toList := List.le_antisymm (List.not_lt.1 h2) (List.not_lt.1 h1)
      obtain rfl : x = y := by cases x; cases y; simp_all
      have hr := fun W => (run_gtr_str x x W).trans (by rw [hl, beq_self_eq_true]; rfl : _ = .ok (.bool false) W)
      rw [hc]
      clear h1 h2 hc hm
      go_enter Tryd.func29, Tryd.ntmps29
      go_wp2
      go_ret
      exact ⟨rfl, by repeat (first | exact Below.refl _ _ | (refine Below.alloc ?_ (by first | (simp; done) | (simp; omega)) _))⟩

theorem order_any (t n : Int) (s : ByteArray) (t' n' : Int) (s' : ByteArray) (w : World) (h : cmpE t n s.data.toList t' n' s'.data.toList = 0) :
    Calls Tryd.prog 29 #[.agg #[.int .i64 t, .int .i64 n, .string s], .agg #[.int .i64 t', .int .i64 n', .string s']] w fun e w' => e = .returned (.int .i64 (cmpN t n s.data.toList t' n' s'.data.toList)) ∧ Below w.heap.size w w' := by
  have h1 : chk t n s.data.toList = 0 := Classical.byContradiction fun e => by rw [cmpE, if_pos e] at h; exact e h
  have h2 : chk t' n' s'.data.toList = 0 := Classical.byContradiction fun e => by rw [cmpE, if_neg (by simp [h1]), if_pos e] at h; exact e h
  have h3 : t = t' := Classical.byContradiction fun e => by rw [cmpE, if_neg (by simp [h1]), if_neg (by simp [h2]), if_pos e] at h; exact absurd h (by decide)
  subst h3
  have hN : cmpN t n s.data.toList t n' s'.data.toList = if t = 3 then cmpS s.data.toList s'.data.toList else cmpI n n' := by rw [cmpN, if_neg (by simp [h])]
  rw [hN]
  by_cases e3 : t = 3
  · subst e3
    obtain rfl : n = 0 := by rcases chk_type h1 with ⟨e, _⟩ | ⟨e, _⟩ | ⟨_, e, _⟩ <;> first | exact e | exact absurd e (by decide)
    obtain rfl : n' = 0 := by rcases chk_type h2 with ⟨e, _⟩ | ⟨e, _⟩ | ⟨_, e, _⟩ <;> first | exact e | exact absurd e (by decide)
    rw [if_pos rfl]
    exact order_str s s' w
  · have e1 : s.data.toList = [] := by rcases chk_type h1 with ⟨_, e⟩ | ⟨_, e, _⟩ | ⟨e, _⟩ <;> first | exact e | exact absurd e e3
    have e2 : s'.data.toList = [] := by rcases chk_type h2 with ⟨_, e⟩ | ⟨_, e, _⟩ | ⟨e, _⟩ <;> first | exact e | exact absurd e e3
    obtain rfl : s = ⟨#[]⟩ := by cases s; simp_all
    obtain rfl : s' = ⟨#[]⟩ := by cases s'; simp_all
    rw [if_neg e3]
    exact order_int t n n' w
end Go.Proofs.YtckonjacccfmmaaDoor
namespace Go.Proofs.YtckonjacccfmmaaDoor
open Go.RowKit
set_option linter.unusedVariables false

/-- A column of rows. -/
structure Col (w : World) (rb ro N kk : Nat) (vs : List V3) : Prop where
  lt : rb < w.heap.size
  at_ : ∀ j (h : j < vs.length), ∃ g o c, w.cell? ⟨rb, ro + j, none⟩ = some (.slice (some ⟨g, o, none⟩) N c) ∧ g < w.heap.size ∧ w.rangeAt g (o + kk * 3) [.int .i64 vs[j].1, .int .i64 vs[j].2.1, .string vs[j].2.2]
theorem Col.on {w w' : World} {rb ro N kk : Nat} {vs : List V3} (h : Col w rb ro N kk vs) (hb : Below w.heap.size w w') : Col w' rb ro N kk vs := by
  refine ⟨by have := h.lt; have := hb.size; omega, fun j hj => ?_⟩
  obtain ⟨g, o, c, h1, h2, h3⟩ := h.at_ j hj
  exact ⟨g, o, c, by rw [hb.cell (p := ⟨rb, _, none⟩) h.lt]; exact h1, by have := hb.size; omega, fun j v hv => by rw [hb.cell (p := ⟨g, _, none⟩) h2]; exact h3 j v hv⟩
theorem colV_len (i : Nat) (rs : List (List V3)) : (colV i rs).length = rs.length := by simp [colV]
theorem col_of {w : World} {p : Option Addr} {rws : List (List V3)} {N kk : Nat} (hr : RowsAt w p rws) (hn : ∀ r ∈ rws, r.length = N) (hk : kk < N) : rws.length = 0 ∨ ∃ rb ro, p = some ⟨rb, ro, none⟩ ∧ Col w rb ro N kk (colV kk rws) := by
  rcases hr with h | ⟨rb, ro, e, hl, hr⟩
  · exact .inl h
  refine .inr ⟨rb, ro, e, hl, fun j hj => ?_⟩
  rw [colV_len] at hj
  obtain ⟨q, c, h1, h2, h3⟩ := hr j hj
  have hln := hn _ (List.getElem_mem hj)
  rw [hln] at h1
  obtain ⟨g, o, rfl, hg, hv⟩ := h2.resolve_left (by omega)
  refine ⟨g, o, c, h1, hg, ?_⟩
  have hkr : kk < rws[j].length := by omega
  obtain ⟨c0, c1, c2⟩ := hv kk hkr
  have hcv : (colV kk rws)[j]'(by rw [colV_len]; exact hj) = rws[j][kk] := by
    simp only [colV, List.getElem_map]
    rw [List.getD_eq_getElem?_getD, List.getElem?_eq_getElem hkr]; rfl
  rw [hcv]
  intro i v hi
  match i, hi with
  | 0, hi => simp at hi; subst hi; exact c0
  | 1, hi => simp at hi; subst hi; exact c1
  | 2, hi => simp at hi; subst hi; exact c2
  | i + 3, hi => simp at hi
/-- What is gathered so far. -/
structure TtSt (w : World) (q : Option Addr) (n c : Nat) (vs : List V3) (W : World) : Prop where
  old : Below w.heap.size w W
  own : W.ownsRow w.heap.size 26 3 (.slice q n c) n (vcells vs)
theorem TtSt.on {w W W' : World} {q : Option Addr} {n c : Nat} {vs : List V3} (h : TtSt w q n c vs W) (hb : Below W.heap.size W W') : TtSt w q n c vs W' := ⟨h.old.trans (hb.mono h.old.size), lown_below h.own hb⟩
theorem TtSt.push {w W W2 : World} {q q' : Option Addr} {n c c' : Nat} {vs us : List V3} (h : TtSt w q n c vs W) (ho : W2.ownsRow w.heap.size 26 3 (.slice q' (n + 1) c') (n + 1) (vcells us)) (hg : W.grownBy W2 (Value.slice q n c).ownBlock) : TtSt w q' (n + 1) c' us W2 :=
  ⟨h.old.trans ((Below.refl _ W).grown hg h.old.size (fun k hk => (h.own.lt k hk).1)), ho⟩
theorem tot_at {xs : List ByteArray} {rws : List (List V3)} {k : Nat} (h : k < xs.length) : (totV xs rws).take (k + 1) = (totV xs rws).take k ++ [(tot1 xs[k].data.toList (colV k rws) (rws.length : Int)).1] ∧ fstE (((totL xs rws).map Prod.snd).drop k) = if (tot1 xs[k].data.toList (colV k rws) (rws.length : Int)).2 ≠ 0 then (tot1 xs[k].data.toList (colV k rws) (rws.length : Int)).2 else fstE (((totL xs rws).map Prod.snd).drop (k + 1)) := by
  have hL : (totL xs rws).length = xs.length := by simp [totL]
  have hxd : xs.getD k ⟨#[]⟩ = xs[k] := by rw [List.getD_eq_getElem?_getD, List.getElem?_eq_getElem h]; rfl
  have hk : (totL xs rws)[k]'(by rw [hL]; exact h) = tot1 xs[k].data.toList (colV k rws) (rws.length : Int) := by
    simp only [totL, List.getElem_map, List.getElem_range, hxd]
  refine ⟨?_, ?_⟩
  · rw [List.take_succ_eq_append_getElem (by simp [totV, hL]; exact h)]
    simp only [totV, List.getElem_map, hk]
  · rw [fstE_at (by simp [hL]; exact h)]
    simp only [List.getElem_map, hk]
set_option maxHeartbeats 8000000 in
set_option maxRecDepth 20000 in
theorem total_gen (ap : Option Addr) (ac : Nat) (xs : List ByteArray) (rp : Option Addr) (rc : Nat) (rws : List (List V3)) (w : World) (ha : AgsW w ap xs) (hr : RowsAt w rp rws) (hx : xs.length ≤ 6) (hrl : rws.length ≤ 60) (hln : ∀ r ∈ rws, r.length = xs.length) (hag : ∀ x ∈ xs, isAg x.data.toList = true) (hsz : ∀ r ∈ rws, SizedV r)
    (hok : ∀ i (h : i < xs.length), xs[i].data.toList = wLeast ∨ xs[i].data.toList = wMost → ∃ t, ∀ v ∈ colV i rws, okT t v)
    (PST : Ending → World → Prop) (hpg : totE xs rws = 0 → ∀ q c W, ValsAt W q (totV xs rws) → Below w.heap.size w W → PST (.returned (.tuple #[.slice q xs.length c, .int .i64 0])) W) (hpb : ∀ E, totE xs rws = E → E ≠ 0 → ∀ W, Below w.heap.size w W → PST (.returned (.tuple #[.slice none 0 0, .int .i64 E])) W) :
    Calls Tryd.prog 11 #[.slice ap xs.length ac, .slice rp rws.length rc] w PST := by
  have hVL : (totV xs rws).length = xs.length := by simp [totV, totL]
  obtain ⟨N, hN⟩ : ∃ N, xs.length = N := ⟨_, rfl⟩
  obtain ⟨R, hR⟩ : ∃ R, rws.length = R := ⟨_, rfl⟩
  have HN : Hid (xs.length = N) := hN
  have HR : Hid (rws.length = R) := hR
  have HVL : Hid ((totV xs rws).length = N) := (show Hid _ from hVL.trans hN)
  have HAG : Aside (AgsW w ap xs) := ha
  have HCOL : Aside (∀ kk, kk < N → rws.length = 0 ∨ ∃ rb ro, rp = some ⟨rb, ro, none⟩ ∧ Col w rb ro N kk (colV kk rws)) := fun kk hk => col_of hr (fun r hr => by rw [hln r hr, hN]) hk
  have HIS : Aside (∀ x ∈ xs, isAg x.data.toList = true) := hag
  have HOK : Aside (∀ i (h : i < xs.length), xs[i].data.toList = wLeast ∨ xs[i].data.toList = wMost → ∃ t, ∀ v ∈ colV i rws, okT t v) := hok
  have HIN : Aside (∀ kk, kk < N → ∀ v ∈ colV kk rws, inB v.2.1) := fun kk hk v hv => by
    obtain ⟨r, hr, rfl⟩ := List.mem_map.1 hv
    have hkr : kk < r.length := by rw [hln r hr, hN]; exact hk
    rw [List.getD_eq_getElem?_getD, List.getElem?_eq_getElem hkr]
    exact (hsz r hr _ (List.getElem_mem hkr)).2
  rw [hN] at hx hpg ⊢
  have HPG := (show Aside (totE xs rws = 0 → ∀ q c W, ValsAt W q (totV xs rws) → Below w.heap.size w W → PST (.returned (.tuple #[.slice q N c, .int .i64 0])) W) from hpg)
  have HPB := (show Aside (∀ E, totE xs rws = E → E ≠ 0 → ∀ W, Below w.heap.size w W → PST (.returned (.tuple #[.slice none 0 0, .int .i64 E])) W) from hpb)
  clear hpg hpb
  rw [hR] at hrl ⊢
  have H0 : Aside (TtSt w none 0 0 ((totV xs rws).take 0) w) := ⟨Below.refl _ _, World.ownsRow_nil _ _ _ _⟩
  have HF0 : Hid (fstE (((totL xs rws).map Prod.snd).drop 0) = totE xs rws) := rfl
  clear ha hr hln hag hsz hok hN hR hVL
  go_enter Tryd.func11, Tryd.ntmps11
  go_wp2
  go_loopg [6, 7] N (fun gg s6 s7 wr => ∃ (kk : Nat) (q6 : Option Addr) (c6 : Nat), kk ≤ N ∧ N - kk ≤ gg ∧ s6 = .slice q6 kk c6 ∧ s7 = .int .i64 kk ∧ Aside (TtSt w q6 kk c6 ((totV xs rws).take kk) wr) ∧ Hid (fstE (((totL xs rws).map Prod.snd).drop kk) = totE xs rws))
  case atStart => exact ⟨0, none, 0, Nat.zero_le _, by omega, rfl, rfl, H0, HF0⟩
  case round =>
    obtain ⟨kk, q6, c6, hkk, hg, rfl, rfl, SR, HFR⟩ := hrel
    clear H0 HF0
    by_cases hlt : kk < N
    · have hltz : (kk : Int) < (N : Int) := by omega
      have h0z : (0 : Int) ≤ (kk : Int) := by omega
      have hkx : kk < xs.length := by rw [HN.out]; exact hlt
      obtain ⟨ab, ao, rfl, hal, hagc⟩ := HAG.out.resolve_left (by omega)
      obtain ⟨op, nm, vt, vn, vs', gp, gn, gc, pos, name, hr⟩ := hagc kk hkx
      have x0 : w.cell? ⟨ab, ao + kk * 9, none⟩ = some (.string xs[kk]) := hr 0 _ rfl
      have HIk := HIN.out kk hlt
      have HCk := HCOL.out kk hlt
      have hisk := HIS.out _ (List.getElem_mem hkx)
      have hokk := HOK.out kk hkx
      obtain ⟨htk, hfe⟩ := tot_at (rws := rws) hkx
      have hfr := HFR.out
      rw [hfe, HR.out] at hfr
      rw [HR.out] at htk HCk
      have hvl : (colV kk rws).length = R := by rw [colV_len]; exact HR.out
      have htl : ((totV xs rws).take kk).length = kk := by rw [List.length_take, HVL.out]; omega
      clear hr hagc hfe HFR
      generalize xs[kk] = x at *
      generalize colV kk rws = vs at *
      have HTK := (show Hid _ from htk)
      have HFE := (show Hid _ from hfr)
      have HVS : Hid (vs.length = R) := hvl
      have HTL : Hid (((totV xs rws).take kk).length = kk) := htl
      have HCK : Aside (R = 0 ∨ ∃ rb ro, rp = some ⟨rb, ro, none⟩ ∧ Col w rb ro N kk vs) := HCk
      have HIK : Aside (∀ v ∈ vs, inB v.2.1) := HIk
      clear htk hfr hvl htl HCk HIk
      have hx4 := isAg_four hisk
      have hxw : x = ⟨#[99, 111, 117, 110, 116]⟩ ∨ x = ⟨#[115, 117, 109]⟩ ∨ x = ⟨#[108, 101, 97, 115, 116]⟩ ∨ x = ⟨#[109, 111, 115, 116]⟩ := by
        rcases hx4 with h | h | h | h
        · exact .inl (byte_eq h)
        · exact .inr (.inl (byte_eq h))
        · exact .inr (.inr (.inl (byte_eq h)))
        · exact .inr (.inr (.inr (byte_eq h)))
      clear hisk hx4
      have xr : wr.cell? ⟨ab, ao + kk * 9, none⟩ = some (.string x) := by rw [SR.out.old.cell (p := ⟨ab, _, none⟩) hal]; exact x0
      clear x0
      rcases hxw with rfl | rfl | rfl | rfl
      · have hnx : (totV xs rws).take (kk + 1) = (totV xs rws).take kk ++ [(1, (R : Int), ⟨#[]⟩)] ∧ fstE (((totL xs rws).map Prod.snd).drop (kk + 1)) = totE xs rws := ⟨HTK.out, by simpa [tot1, wCount] using HFE.out⟩
        have HNX := (show Hid _ from hnx)
        clear hnx hokk HIK HCK HTK HFE
        go_wp2_with (refine wpList_append_val rfl _ _ rfl w.heap.size (.slice q6 kk c6) kk ((totV xs rws).take kk) rfl (lown_below SR.out.own (alB wr _)) wr.heap.size 1 1 (R : Int) ⟨#[]⟩ rfl (news1 rfl _) (by omega) (by have := SR.out.old.size; simp; omega) ?_; intro q' c' W3 o1 g1)
        have SN : Aside (TtSt w q' (kk + 1) c' ((totV xs rws).take (kk + 1)) W3) := by
          rw [HNX.out.1]
          exact (SR.out.on (alB wr _)).push o1 g1
        clear SR o1 g1
        go_wp2
        go_roundg (N - (kk + 1))
        case measure => omega
        case rel => exact ⟨kk + 1, q', c', by omega, by omega, rfl, by go_num, SN, HNX.out.2⟩
      · have hS1 : (vs.map (·.2.1)).sum = ((vs.take R).map (·.2.1)).sum := by rw [List.take_of_length_le (by rw [HVS.out]; exact Nat.le_refl _)]
        have HSU : Hid ((-9223372036854775808 ≤ ((vs.take R).map (·.2.1)).sum ∧ ((vs.take R).map (·.2.1)).sum ≤ 9223372036854775807 → (totV xs rws).take (kk + 1) = (totV xs rws).take kk ++ [(1, ((vs.take R).map (·.2.1)).sum, ⟨#[]⟩)] ∧ fstE (((totL xs rws).map Prod.snd).drop (kk + 1)) = totE xs rws) ∧ (¬ (-9223372036854775808 ≤ ((vs.take R).map (·.2.1)).sum ∧ ((vs.take R).map (·.2.1)).sum ≤ 9223372036854775807) → totE xs rws = 9)) := by
          have h1 := HTK.out
          have h2 := HFE.out
          rw [show tot1 [115, 117, 109] vs (R : Int) = if -9223372036854775808 ≤ (vs.map (·.2.1)).sum ∧ (vs.map (·.2.1)).sum ≤ 9223372036854775807 then ((1, (vs.map (·.2.1)).sum, ⟨#[]⟩), 0) else ((1, 0, ⟨#[]⟩), 9) by rw [tot1, if_neg (by decide), if_pos (by decide)]] at h1 h2
          rw [hS1] at h1 h2
          refine (show Hid _ from ⟨fun h => ?_, fun h => ?_⟩)
          · rw [if_pos h] at h1 h2
            exact ⟨h1, by simpa using h2⟩
          · rw [if_neg h] at h2
            simpa using h2.symm
        clear hS1 hokk HTK HFE
        have BWR : Aside (Below w.heap.size w wr) := SR.out.old
        generalize wr = WR at *
        have HB0 : Hid (-(((0 : Nat) : Int) * 2147483648) ≤ (0 : Int) ∧ (0 : Int) ≤ ((0 : Nat) : Int) * 2147483648 ∧ -(((0 : Nat) : Int) * 4294967296) ≤ (0 : Int) ∧ (0 : Int) ≤ ((0 : Nat) : Int) * 4294967296 ∧ (0 : Int) * 4294967296 + 0 = ((vs.take 0).map (·.2.1)).sum) := (show Hid _ from ⟨by simp, by simp, by simp, by simp, by simp⟩)
        go_wp2
        go_loopg [8, 9, 10] R (fun gg s8 s9 s10 wz => ∃ (jj : Nat) (hi lo : Int), jj ≤ R ∧ R - jj ≤ gg ∧ s8 = .int .i64 hi ∧ s9 = .int .i64 lo ∧ s10 = .int .i64 jj ∧ Hid (-((jj : Int) * 2147483648) ≤ hi ∧ hi ≤ (jj : Int) * 2147483648 ∧ -((jj : Int) * 4294967296) ≤ lo ∧ lo ≤ (jj : Int) * 4294967296 ∧ hi * 4294967296 + lo = ((vs.take jj).map (·.2.1)).sum) ∧ Aside (Below WR.heap.size WR wz))
        case atStart => exact ⟨0, 0, 0, Nat.zero_le _, by omega, rfl, rfl, rfl, HB0, (show Aside _ from Below.refl _ _)⟩
        case round =>
          obtain ⟨jj, hi, lo, hjj, hgj, rfl, rfl, rfl, HB, BZ⟩ := hrel
          clear HB0
          by_cases hltj : jj < R
          · have hjz : (jj : Int) < (R : Int) := by omega
            have hj0 : (0 : Int) ≤ (jj : Int) := by omega
            obtain ⟨rb, ro, rfl, hc⟩ := HCK.out.resolve_left (by omega)
            have hjv : jj < vs.length := by rw [HVS.out]; exact hltj
            have hcw := (hc.on BWR.out).on BZ.out
            obtain ⟨g, o, c, y1, y2, y3⟩ := hcw.at_ jj hjv
            have y4 : wr.cell? ⟨g, o + kk * 3 + 1, none⟩ = some (.int .i64 vs[jj].2.1) := y3 1 _ rfl
            have hin := HIK.out _ (List.getElem_mem hjv)
            have hts : ((vs.take (jj + 1)).map (·.2.1)).sum = ((vs.take jj).map (·.2.1)).sum + vs[jj].2.1 := by rw [List.take_succ_eq_append_getElem hjv, List.map_append, List.sum_append]; simp only [List.map_cons, List.map_nil, List.sum_cons, List.sum_nil, Int.add_zero]
            obtain ⟨b1, b2, b3, b4, b5⟩ := HB.out
            clear hc hcw y2 y3 HB
            generalize vs[jj].2.1 = x at *
            unfold inB at hin
            have q1 := Int.mul_tdiv_add_tmod x 4294967296
            have q2 : -4294967296 < x.tmod 4294967296 ∧ x.tmod 4294967296 < 4294967296 := by
              have := Int.tmod_lt_of_pos x (show (0 : Int) < 4294967296 by decide)
              have := Int.lt_tmod_of_pos x (show (0 : Int) < 4294967296 by decide)
              omega
            have q3 : -2147483648 ≤ x.tdiv 4294967296 ∧ x.tdiv 4294967296 ≤ 2147483648 := by omega
            have hn2 : (-(((jj + 1 : Nat) : Int) * 2147483648) ≤ hi + x.tdiv 4294967296 ∧ hi + x.tdiv 4294967296 ≤ ((jj + 1 : Nat) : Int) * 2147483648 ∧ -(((jj + 1 : Nat) : Int) * 4294967296) ≤ lo + x.tmod 4294967296 ∧ lo + x.tmod 4294967296 ≤ ((jj + 1 : Nat) : Int) * 4294967296 ∧ (hi + x.tdiv 4294967296) * 4294967296 + (lo + x.tmod 4294967296) = ((vs.take (jj + 1)).map (·.2.1)).sum) := by rw [hts]; omega
            have HN2 := (show Hid _ from hn2)
            have z1 : -9223372036854775808 ≤ hi + x.tdiv 4294967296 ∧ hi + x.tdiv 4294967296 ≤ 9223372036854775807 := by omega
            have z2 : -9223372036854775808 ≤ lo + x.tmod 4294967296 ∧ lo + x.tmod 4294967296 ≤ 9223372036854775807 := by omega
            clear hts b5 q1 hn2
            go_wp2
            go_roundg (R - (jj + 1))
            case measure => omega
            case rel => exact ⟨jj + 1, hi + x.tdiv 4294967296, lo + x.tmod 4294967296, by omega, by omega, by go_num, by go_num, by go_num, HN2, BZ⟩
          · have hjz : ¬ (jj : Int) < (R : Int) := by omega
            obtain rfl : jj = R := by omega
            obtain ⟨b1, b2, b3, b4, b5⟩ := HB.out
            have m1 := Int.mul_tdiv_add_tmod lo 4294967296
            have m2 : -4294967296 < lo.tmod 4294967296 ∧ lo.tmod 4294967296 < 4294967296 := by
              have := Int.tmod_lt_of_pos lo (show (0 : Int) < 4294967296 by decide)
              have := Int.lt_tmod_of_pos lo (show (0 : Int) < 4294967296 by decide)
              omega
            have hSS := HSU.out
            rw [← b5] at hSS
            have BZW : Aside (Below w.heap.size w wr) := BWR.out.trans (BZ.out.mono BWR.out.size)
            have SZ : Aside (TtSt w q6 kk c6 ((totV xs rws).take kk) wr) := SR.out.on BZ.out
            clear HB HSU SR BZ BWR HCK HIK b5
            have m3 : -61 ≤ lo.tdiv 4294967296 ∧ lo.tdiv 4294967296 ≤ 61 := by omega
            have hcs : ∃ (d : Int), (d = 0 ∧ 0 ≤ lo.tmod 4294967296) ∨ (d = 1 ∧ lo.tmod 4294967296 < 0) := by
              by_cases h : lo.tmod 4294967296 < 0
              · exact ⟨1, .inr ⟨rfl, h⟩⟩
              · exact ⟨0, .inl ⟨rfl, by omega⟩⟩
            obtain ⟨d, hd⟩ := hcs
            by_cases hov : hi + lo.tdiv 4294967296 - d < -2147483648 ∨ 2147483647 < hi + lo.tdiv 4294967296 - d
            · have h9 : totE xs rws = 9 := hSS.2 (by rcases hd with ⟨rfl, hd⟩ | ⟨rfl, hd⟩ <;> omega)
              have H9 := (show Hid _ from h9)
              clear hSS h9 m1
              rcases hd with ⟨rfl, hd⟩ | ⟨rfl, hd⟩
              · have hnn : ¬ lo.tmod 4294967296 < 0 := by omega
                rcases hov with hov | hov
                · have hov2 : hi + lo.tdiv 4294967296 < -2147483648 := by omega
                  go_wp2
                  exact HPB.out 9 H9.out (by decide) _ BZW.out
                · have hov2 : 2147483647 < hi + lo.tdiv 4294967296 := by omega
                  have hov3 : ¬ hi + lo.tdiv 4294967296 < -2147483648 := by omega
                  go_wp2
                  exact HPB.out 9 H9.out (by decide) _ BZW.out
              · rcases hov with hov | hov
                · go_wp2
                  exact HPB.out 9 H9.out (by decide) _ BZW.out
                · have hov3 : ¬ hi + lo.tdiv 4294967296 - 1 < -2147483648 := by omega
                  go_wp2
                  exact HPB.out 9 H9.out (by decide) _ BZW.out
            · have hov1 : ¬ hi + lo.tdiv 4294967296 - d < -2147483648 := fun h => hov (.inl h)
              have hov2 : ¬ 2147483647 < hi + lo.tdiv 4294967296 - d := fun h => hov (.inr h)
              have hnx := hSS.1 (by rcases hd with ⟨rfl, hd⟩ | ⟨rfl, hd⟩ <;> omega)
              clear hSS hov
              rcases hd with ⟨rfl, hd⟩ | ⟨rfl, hd⟩
              · have hnn : ¬ lo.tmod 4294967296 < 0 := by omega
                rw [Int.sub_zero] at hov1 hov2
                rw [show hi * 4294967296 + lo = (hi + lo.tdiv 4294967296) * 4294967296 + lo.tmod 4294967296 by omega] at hnx
                have HNX := (show Hid _ from hnx)
                clear hnx m1
                go_wp2_with (refine wpList_append_val rfl _ _ rfl w.heap.size (.slice q6 kk c6) kk ((totV xs rws).take kk) rfl (lown_below SZ.out.own (alB wr _)) wr.heap.size 1 1 ((hi + lo.tdiv 4294967296) * 4294967296 + lo.tmod 4294967296) ⟨#[]⟩ rfl (news1 rfl _) (by omega) (by have := SZ.out.old.size; simp; omega) ?_; intro q' c' W3 o1 g1)
                have SN : Aside (TtSt w q' (kk + 1) c' ((totV xs rws).take (kk + 1)) W3) := by
                  rw [HNX.out.1]
                  exact (SZ.out.on (alB wr _)).push o1 g1
                clear SZ o1 g1
                go_wp2
                go_roundg (N - (kk + 1))
                case measure => omega
                case rel => exact ⟨kk + 1, q', c', by omega, by omega, rfl, by go_num, SN, HNX.out.2⟩
              · rw [show hi * 4294967296 + lo = (hi + lo.tdiv 4294967296 - 1) * 4294967296 + (lo.tmod 4294967296 + 4294967296) by omega] at hnx
                have HNX := (show Hid _ from hnx)
                clear hnx m1
                go_wp2_with (refine wpList_append_val rfl _ _ rfl w.heap.size (.slice q6 kk c6) kk ((totV xs rws).take kk) rfl (lown_below SZ.out.own (alB wr _)) wr.heap.size 1 1 ((hi + lo.tdiv 4294967296 - 1) * 4294967296 + (lo.tmod 4294967296 + 4294967296)) ⟨#[]⟩ rfl (news1 rfl _) (by omega) (by have := SZ.out.old.size; simp; omega) ?_; intro q' c' W3 o1 g1)
                have SN : Aside (TtSt w q' (kk + 1) c' ((totV xs rws).take (kk + 1)) W3) := by
                  rw [HNX.out.1]
                  exact (SZ.out.on (alB wr _)).push o1 g1
                clear SZ o1 g1
                go_wp2
                go_roundg (N - (kk + 1))
                case measure => omega
                case rel => exact ⟨kk + 1, q', c', by omega, by omega, rfl, by go_num, SN, HNX.out.2⟩
      · by_cases hR0 : R = 0
        · have h5 : totE xs rws = 5 := by
            have h2 := HFE.out
            have hv0 : vs = [] := List.length_eq_zero_iff.1 (by rw [HVS.out]; exact hR0)
            rw [show tot1 [108, 101, 97, 115, 116] vs (R : Int) = (noV, 5) by rw [tot1, if_neg (by decide), if_neg (by decide), if_pos hv0]] at h2
            simpa using h2.symm
          have H5 := (show Hid _ from h5)
          clear h5 hokk HTK HFE HIK HCK
          subst hR0
          go_wp2
          exact HPB.out 5 H5.out (by decide) _ SR.out.old
        · have hRz : ¬ (R : Int) = 0 := by omega
          have hR1 : (0 : Int) < (R : Int) := by omega
          have hv0 : vs ≠ [] := fun e => hR0 (by rw [← HVS.out, e]; rfl)
          have hvt : vs.take R = vs := List.take_of_length_le (by rw [HVS.out]; exact Nat.le_refl _)
          have hnx : (totV xs rws).take (kk + 1) = (totV xs rws).take kk ++ [bsL wLeast (vs.take R)] ∧ fstE (((totL xs rws).map Prod.snd).drop (kk + 1)) = totE xs rws := by
            have h1 := HTK.out
            have h2 := HFE.out
            rw [show tot1 [108, 101, 97, 115, 116] vs (R : Int) = (bsL wLeast vs, 0) by rw [tot1, if_neg (by decide), if_neg (by decide), if_neg hv0]; rfl] at h1 h2
            rw [hvt]
            exact ⟨h1, by simpa using h2⟩
          obtain ⟨ty, hty⟩ := hokk (.inl rfl)
          have HOV : Aside (∀ v ∈ vs, okT ty v) := hty
          obtain ⟨rb, ro, rfl, hc⟩ := HCK.out.resolve_left hR0
          have HC : Aside (Col wr rb ro N kk vs) := hc.on SR.out.old
          have h0v : 0 < vs.length := by rw [HVS.out]; omega
          obtain ⟨g, o, c, y1, y2, y3⟩ := HC.out.at_ 0 h0v
          rw [Nat.add_zero] at y1
          have hRb : ((R : Int) == 0) = false := by simp; omega
          have hb1 : bsL wLeast (vs.take 1) = vs[0] := by
            cases vs with
            | nil => exact absurd rfl hv0
            | cons a r => rfl
          have HNX := (show Hid _ from hnx)
          have HB1 := (show Hid _ from hb1)
          clear hnx hb1 hvt hv0 hokk hty hc HTK HFE HIK HCK y2
          generalize vs[0] = v at *
          clear h0v
          obtain ⟨vt, vn, vz⟩ := v
          simp only at y3
          generalize wr = WR at *
          go_wp2_with (first
            | (refine wpList_load_mid rfl 26 _ rfl g (o + kk * 3) rfl _ _ y3 Tryd.underlying26 rfl size_valB ?_)
            | (refine wpList_store_blk rfl 26 _ _ rfl WR.heap.size 0 #[.int .i64 vt, .int .i64 vn, .string vz] rfl rfl _ _ (blk_alloc WR _ _) (by simp) size_valB (one_v3 _ _ _) ?_; intro W1 P1 K1))
          have PV : Aside (Blk W1 WR.heap.size #[.int .i64 vt, .int .i64 vn, .string vz] 26 ∧ Below WR.heap.size WR W1) := ⟨by simpa only [putA, List.setIfInBounds_toArray, List.set_cons_zero, List.set_cons_succ, Nat.reduceAdd] using P1, (alB WR _).trans (K1.below.mono (by simp))⟩
          clear P1 K1 y1 y3
          go_wp2
          go_loopg [15] R (fun gg s15 wz => ∃ (jj : Nat) (bt bn : Int) (bz : ByteArray), 1 ≤ jj ∧ jj ≤ R ∧ R - jj ≤ gg ∧ s15 = .int .i64 jj ∧ Hid (bsL wLeast (vs.take jj) = (bt, bn, bz)) ∧ Aside (Blk wz WR.heap.size #[.int .i64 bt, .int .i64 bn, .string bz] 26 ∧ Below WR.heap.size WR wz))
          case atStart => exact ⟨1, vt, vn, vz, Nat.le_refl _, by omega, by omega, rfl, HB1, PV⟩
          case round =>
            obtain ⟨jj, bt, bn, bz, hj1, hjj, hgj, rfl, HBJ, PZ⟩ := hrel
            clear PV HB1
            by_cases hltj : jj < R
            · have hjz : (jj : Int) < (R : Int) := by omega
              have hj0 : (0 : Int) ≤ (jj : Int) := by omega
              have hjv : jj < vs.length := by rw [HVS.out]; exact hltj
              obtain ⟨g2, o2, c2, y1, y2, y3⟩ := (HC.out.on PZ.out.2).at_ jj hjv
              have e0 : wr.cell? ⟨g2, o2 + kk * 3, none⟩ = some (.int .i64 vs[jj].1) := y3 0 _ rfl
              have e1 : wr.cell? ⟨g2, o2 + kk * 3 + 1, none⟩ = some (.int .i64 vs[jj].2.1) := y3 1 _ rfl
              have e2 : wr.cell? ⟨g2, o2 + kk * 3 + 2, none⟩ = some (.string vs[jj].2.2) := y3 2 _ rfl
              have d0 : wr.cell? ⟨WR.heap.size, 0, none⟩ = some (.int .i64 bt) := PZ.out.1.cell 0
              have d1 : wr.cell? ⟨WR.heap.size, 1, none⟩ = some (.int .i64 bn) := PZ.out.1.cell 1
              have d2 : wr.cell? ⟨WR.heap.size, 2, none⟩ = some (.string bz) := PZ.out.1.cell 2
              have hst : bsL wLeast (vs.take (jj + 1)) = if ahB wLeast vs[jj] (bt, bn, bz) then vs[jj] else (bt, bn, bz) := by
                rw [List.take_succ_eq_append_getElem hjv, bsL_snoc _ _ _ (by intro e; have := congrArg List.length e; rw [List.length_take, List.length_nil] at this; omega), HBJ.out]
              have ko : okT ty vs[jj] := HOV.out _ (List.getElem_mem hjv)
              have kb : okT ty (bt, bn, bz) := by
                have hbb := bsL_best wLeast ty _ (vs.take jj) rfl (fun v hv => HOV.out v (List.mem_of_mem_take hv))
                rw [HBJ.out] at hbb
                rcases hbb with ⟨e, _⟩ | ⟨hm, _⟩
                · have := congrArg List.length e; rw [List.length_take, List.length_nil] at this; omega
                · exact HOV.out _ (List.mem_of_mem_take hm)
              have xz : wr.cell? ⟨ab, ao + kk * 9, none⟩ = some (.string ⟨#[108, 101, 97, 115, 116]⟩) := by
                have hBW := SR.out.old.trans (PZ.out.2.mono SR.out.old.size)
                rw [PZ.out.2.cell (p := ⟨ab, _, none⟩) (by have := SR.out.old.size; show ab < _; omega)]; exact xr
              have HST := (show Hid _ from hst)
              have hg2 : g2 < wr.heap.size := y2
              clear hst HBJ
              generalize vs[jj] = v at *
              obtain ⟨vt, vn, vz⟩ := v
              simp only at e0 e1 e2 y3
              have cO : ∀ W, Calls Tryd.prog 29 #[.agg #[.int .i64 vt, .int .i64 vn, .string vz], .agg #[.int .i64 bt, .int .i64 bn, .string bz]] W fun e w' => e = .returned (.int .i64 (cmpX (vt, vn, vz) (bt, bn, bz))) ∧ Below W.heap.size W w' := fun W => order_any vt vn vz bt bn bz W (by
                obtain ⟨k1, k2⟩ := ko
                obtain ⟨l1, l2⟩ := kb
                simp only at k1 k2 l1 l2
                rw [cmpE, if_neg (fun h => h k2), if_neg (fun h => h l2), if_neg (by rw [k1, l1]; simp)])
              have HX : Hid (ahB wLeast (vt, vn, vz) (bt, bn, bz) = decide (cmpX (vt, vn, vz) (bt, bn, bz) < 0)) := by
                show _ = _
                simp [ahB, wLeast]
              generalize cmpX (vt, vn, vz) (bt, bn, bz) = X at *
              clear ko kb
              go_wp2
              go_region_with (go_at_call 29; refine (cO _).mono ?_; rintro e w2 ⟨rfl, B2⟩; have B3 : Below wr.heap.size wr w2 := (Below.drew (Below.refl _ wr)).trans B2)
              all_goals
                have P2 : Blk w2 WR.heap.size #[.int .i64 bt, .int .i64 bn, .string bz] 26 := PZ.out.1.on B3
                have BW : Below WR.heap.size WR w2 := PZ.out.2.trans (B3.mono PZ.out.2.size)
                have y1' : w2.cell? ⟨rb, ro + jj, none⟩ = some (.slice (some ⟨g2, o2, none⟩) N c2) := by rw [B3.cell (p := ⟨rb, _, none⟩) ((HC.out.on PZ.out.2).lt)]; exact y1
                have y3' : w2.rangeAt g2 (o2 + kk * 3) [.int .i64 vt, .int .i64 vn, .string vz] := fun j v hv => by rw [B3.cell (p := ⟨g2, _, none⟩) hg2]; exact y3 j v hv
                have xz' : w2.cell? ⟨ab, ao + kk * 9, none⟩ = some (.string ⟨#[108, 101, 97, 115, 116]⟩) := by
                  rw [B3.cell (p := ⟨ab, _, none⟩) (by have := SR.out.old.size; have := PZ.out.2.size; show ab < _; omega)]; exact xz
                have HP2 : Aside (Blk w2 WR.heap.size #[.int .i64 bt, .int .i64 bn, .string bz] 26 ∧ Below WR.heap.size WR w2) := ⟨P2, BW⟩
                clear P2 BW B3 B2 PZ y1 y3 xz e0 e1 e2 d0 d1 d2 cO
                by_cases hcm : X < 0
                · have hnb : bsL wLeast (vs.take (jj + 1)) = (vt, vn, vz) := by rw [HST.out, if_pos (by rw [HX.out]; exact decide_eq_true hcm)]
                  have HNB := (show Hid _ from hnb)
                  clear hnb HST HX
                  go_wp2_with (first
                    | (refine wpList_load_mid rfl 26 _ rfl g2 (o2 + kk * 3) rfl _ _ y3' Tryd.underlying26 rfl size_valB ?_)
                    | (refine wpList_store_blk rfl 26 _ _ rfl WR.heap.size 0 #[.int .i64 vt, .int .i64 vn, .string vz] rfl rfl _ _ HP2.out.1 (by simp) size_valB (one_v3 _ _ _) ?_; intro W3 P3 K3))
                  have PN : Aside (Blk W3 WR.heap.size #[.int .i64 vt, .int .i64 vn, .string vz] 26 ∧ Below WR.heap.size WR W3) := ⟨by simpa only [putA, List.setIfInBounds_toArray, List.set_cons_zero, List.set_cons_succ, Nat.reduceAdd] using P3, HP2.out.2.trans (K3.below.mono (by have := HP2.out.1.lt; omega))⟩
                  clear P3 K3 HP2 y1' y3' xz'
                  go_wp2
                  go_roundg (R - (jj + 1))
                  case measure => omega
                  case rel => exact ⟨jj + 1, vt, vn, vz, by omega, by omega, by omega, by go_num, HNB, PN⟩
                · have hnb : bsL wLeast (vs.take (jj + 1)) = (bt, bn, bz) := by rw [HST.out, if_neg (by rw [HX.out]; simpa using hcm)]
                  have HNB := (show Hid _ from hnb)
                  clear hnb HST HX
                  go_wp2
                  go_roundg (R - (jj + 1))
                  case measure => omega
                  case rel => exact ⟨jj + 1, bt, bn, bz, by omega, by omega, by omega, by go_num, HNB, HP2⟩
            · have hjz : ¬ (jj : Int) < (R : Int) := by omega
              obtain rfl : jj = R := by omega
              have hnx := HNX.out
              rw [HBJ.out] at hnx
              have HNY := (show Hid _ from hnx)
              have SZ : Aside (TtSt w q6 kk c6 ((totV xs rws).take kk) wr) := SR.out.on PZ.out.2
              clear hnx HNX HBJ HC HOV SR
              go_wp2_with (first
                | (refine wpList_load_blk rfl 26 _ rfl WR.heap.size 0 rfl _ _ PZ.out.1 [.int .i64 bt, .int .i64 bn, .string bz] (fun j v hv => by simpa using hv) _ Tryd.underlying26 rfl size_valB ?_)
                | (refine wpList_append_val rfl _ _ rfl w.heap.size (.slice q6 kk c6) kk ((totV xs rws).take kk) rfl (lown_below SZ.out.own (alB wr _)) wr.heap.size 1 bt bn bz rfl (news1 rfl _) (by omega) (by have := SZ.out.old.size; simp; omega) ?_; intro q' c' W3 o1 g1))
              have SN : Aside (TtSt w q' (kk + 1) c' ((totV xs rws).take (kk + 1)) W3) := by
                rw [HNY.out.1]
                exact (SZ.out.on (alB wr _)).push o1 g1
              clear SZ o1 g1 PZ
              go_wp2
              go_roundg (N - (kk + 1))
              case measure => omega
              case rel => exact ⟨kk + 1, q', c', by omega, by omega, rfl, by go_num, SN, HNY.out.2⟩
      · by_cases hR0 : R = 0
        · have h5 : totE xs rws = 5 := by
            have h2 := HFE.out
            have hv0 : vs = [] := List.length_eq_zero_iff.1 (by rw [HVS.out]; exact hR0)
            rw [show tot1 [109, 111, 115, 116] vs (R : Int) = (noV, 5) by rw [tot1, if_neg (by decide), if_neg (by decide), if_pos hv0]] at h2
            simpa using h2.symm
          have H5 := (show Hid _ from h5)
          clear h5 hokk HTK HFE HIK HCK
          subst hR0
          go_wp2
          exact HPB.out 5 H5.out (by decide) _ SR.out.old
        · have hRz : ¬ (R : Int) = 0 := by omega
          have hR1 : (0 : Int) < (R : Int) := by omega
          have hv0 : vs ≠ [] := fun e => hR0 (by rw [← HVS.out, e]; rfl)
          have hvt : vs.take R = vs := List.take_of_length_le (by rw [HVS.out]; exact Nat.le_refl _)
          have hnx : (totV xs rws).take (kk + 1) = (totV xs rws).take kk ++ [bsL wMost (vs.take R)] ∧ fstE (((totL xs rws).map Prod.snd).drop (kk + 1)) = totE xs rws := by
            have h1 := HTK.out
            have h2 := HFE.out
            rw [show tot1 [109, 111, 115, 116] vs (R : Int) = (bsL wMost vs, 0) by rw [tot1, if_neg (by decide), if_neg (by decide), if_neg hv0]; rfl] at h1 h2
            rw [hvt]
            exact ⟨h1, by simpa using h2⟩
          obtain ⟨ty, hty⟩ := hokk (.inr rfl)
          have HOV : Aside (∀ v ∈ vs, okT ty v) := hty
          obtain ⟨rb, ro, rfl, hc⟩ := HCK.out.resolve_left hR0
          have HC : Aside (Col wr rb ro N kk vs) := hc.on SR.out.old
          have h0v : 0 < vs.length := by rw [HVS.out]; omega
          obtain ⟨g, o, c, y1, y2, y3⟩ := HC.out.at_ 0 h0v
          rw [Nat.add_zero] at y1
          have hRb : ((R : Int) == 0) = false := by simp; omega
          have hb1 : bsL wMost (vs.take 1) = vs[0] := by
            cases vs with
            | nil => exact absurd rfl hv0
            | cons a r => rfl
          have HNX := (show Hid _ from hnx)
          have HB1 := (show Hid _ from hb1)
          clear hnx hb1 hvt hv0 hokk hty hc HTK HFE HIK HCK y2
          generalize vs[0] = v at *
          clear h0v
          obtain ⟨vt, vn, vz⟩ := v
          simp only at y3
          generalize wr = WR at *
          go_wp2_with (first
            | (refine wpList_load_mid rfl 26 _ rfl g (o + kk * 3) rfl _ _ y3 Tryd.underlying26 rfl size_valB ?_)
            | (refine wpList_store_blk rfl 26 _ _ rfl WR.heap.size 0 #[.int .i64 vt, .int .i64 vn, .string vz] rfl rfl _ _ (blk_alloc WR _ _) (by simp) size_valB (one_v3 _ _ _) ?_; intro W1 P1 K1))
          have PV : Aside (Blk W1 WR.heap.size #[.int .i64 vt, .int .i64 vn, .string vz] 26 ∧ Below WR.heap.size WR W1) := ⟨by simpa only [putA, List.setIfInBounds_toArray, List.set_cons_zero, List.set_cons_succ, Nat.reduceAdd] using P1, (alB WR _).trans (K1.below.mono (by simp))⟩
          clear P1 K1 y1 y3
          go_wp2
          go_loopg [15] R (fun gg s15 wz => ∃ (jj : Nat) (bt bn : Int) (bz : ByteArray), 1 ≤ jj ∧ jj ≤ R ∧ R - jj ≤ gg ∧ s15 = .int .i64 jj ∧ Hid (bsL wMost (vs.take jj) = (bt, bn, bz)) ∧ Aside (Blk wz WR.heap.size #[.int .i64 bt, .int .i64 bn, .string bz] 26 ∧ Below WR.heap.size WR wz))
          case atStart => exact ⟨1, vt, vn, vz, Nat.le_refl _, by omega, by omega, rfl, HB1, PV⟩
          case round =>
            obtain ⟨jj, bt, bn, bz, hj1, hjj, hgj, rfl, HBJ, PZ⟩ := hrel
            clear PV HB1
            by_cases hltj : jj < R
            · have hjz : (jj : Int) < (R : Int) := by omega
              have hj0 : (0 : Int) ≤ (jj : Int) := by omega
              have hjv : jj < vs.length := by rw [HVS.out]; exact hltj
              obtain ⟨g2, o2, c2, y1, y2, y3⟩ := (HC.out.on PZ.out.2).at_ jj hjv
              have e0 : wr.cell? ⟨g2, o2 + kk * 3, none⟩ = some (.int .i64 vs[jj].1) := y3 0 _ rfl
              have e1 : wr.cell? ⟨g2, o2 + kk * 3 + 1, none⟩ = some (.int .i64 vs[jj].2.1) := y3 1 _ rfl
              have e2 : wr.cell? ⟨g2, o2 + kk * 3 + 2, none⟩ = some (.string vs[jj].2.2) := y3 2 _ rfl
              have d0 : wr.cell? ⟨WR.heap.size, 0, none⟩ = some (.int .i64 bt) := PZ.out.1.cell 0
              have d1 : wr.cell? ⟨WR.heap.size, 1, none⟩ = some (.int .i64 bn) := PZ.out.1.cell 1
              have d2 : wr.cell? ⟨WR.heap.size, 2, none⟩ = some (.string bz) := PZ.out.1.cell 2
              have hst : bsL wMost (vs.take (jj + 1)) = if ahB wMost vs[jj] (bt, bn, bz) then vs[jj] else (bt, bn, bz) := by
                rw [List.take_succ_eq_append_getElem hjv, bsL_snoc _ _ _ (by intro e; have := congrArg List.length e; rw [List.length_take, List.length_nil] at this; omega), HBJ.out]
              have ko : okT ty vs[jj] := HOV.out _ (List.getElem_mem hjv)
              have kb : okT ty (bt, bn, bz) := by
                have hbb := bsL_best wMost ty _ (vs.take jj) rfl (fun v hv => HOV.out v (List.mem_of_mem_take hv))
                rw [HBJ.out] at hbb
                rcases hbb with ⟨e, _⟩ | ⟨hm, _⟩
                · have := congrArg List.length e; rw [List.length_take, List.length_nil] at this; omega
                · exact HOV.out _ (List.mem_of_mem_take hm)
              have xz : wr.cell? ⟨ab, ao + kk * 9, none⟩ = some (.string ⟨#[109, 111, 115, 116]⟩) := by
                have hBW := SR.out.old.trans (PZ.out.2.mono SR.out.old.size)
                rw [PZ.out.2.cell (p := ⟨ab, _, none⟩) (by have := SR.out.old.size; show ab < _; omega)]; exact xr
              have HST := (show Hid _ from hst)
              have hg2 : g2 < wr.heap.size := y2
              clear hst HBJ
              generalize vs[jj] = v at *
              obtain ⟨vt, vn, vz⟩ := v
              simp only at e0 e1 e2 y3
              have cO : ∀ W, Calls Tryd.prog 29 #[.agg #[.int .i64 vt, .int .i64 vn, .string vz], .agg #[.int .i64 bt, .int .i64 bn, .string bz]] W fun e w' => e = .returned (.int .i64 (cmpX (vt, vn, vz) (bt, bn, bz))) ∧ Below W.heap.size W w' := fun W => order_any vt vn vz bt bn bz W (by
                obtain ⟨k1, k2⟩ := ko
                obtain ⟨l1, l2⟩ := kb
                simp only at k1 k2 l1 l2
                rw [cmpE, if_neg (fun h => h k2), if_neg (fun h => h l2), if_neg (by rw [k1, l1]; simp)])
              have HX : Hid (ahB wMost (vt, vn, vz) (bt, bn, bz) = decide (0 < cmpX (vt, vn, vz) (bt, bn, bz))) := by
                show _ = _
                simp [ahB, wLeast, wMost]
              generalize cmpX (vt, vn, vz) (bt, bn, bz) = X at *
              clear ko kb
              go_wp2
              go_region_with (go_at_call 29; refine (cO _).mono ?_; rintro e w2 ⟨rfl, B2⟩; have B3 : Below wr.heap.size wr w2 := (Below.drew (Below.refl _ wr)).trans B2)
              all_goals
                have P2 : Blk w2 WR.heap.size #[.int .i64 bt, .int .i64 bn, .string bz] 26 := PZ.out.1.on B3
                have BW : Below WR.heap.size WR w2 := PZ.out.2.trans (B3.mono PZ.out.2.size)
                have y1' : w2.cell? ⟨rb, ro + jj, none⟩ = some (.slice (some ⟨g2, o2, none⟩) N c2) := by rw [B3.cell (p := ⟨rb, _, none⟩) ((HC.out.on PZ.out.2).lt)]; exact y1
                have y3' : w2.rangeAt g2 (o2 + kk * 3) [.int .i64 vt, .int .i64 vn, .string vz] := fun j v hv => by rw [B3.cell (p := ⟨g2, _, none⟩) hg2]; exact y3 j v hv
                have xz' : w2.cell? ⟨ab, ao + kk * 9, none⟩ = some (.string ⟨#[109, 111, 115, 116]⟩) := by
                  rw [B3.cell (p := ⟨ab, _, none⟩) (by have := SR.out.old.size; have := PZ.out.2.size; show ab < _; omega)]; exact xz
                have HP2 : Aside (Blk w2 WR.heap.size #[.int .i64 bt, .int .i64 bn, .string bz] 26 ∧ Below WR.heap.size WR w2) := ⟨P2, BW⟩
                clear P2 BW B3 B2 PZ y1 y3 xz e0 e1 e2 d0 d1 d2 cO
                by_cases hcm : 0 < X
                · have hnb : bsL wMost (vs.take (jj + 1)) = (vt, vn, vz) := by rw [HST.out, if_pos (by rw [HX.out]; exact decide_eq_true hcm)]
                  have HNB := (show Hid _ from hnb)
                  clear hnb HST HX
                  go_wp2_with (first
                    | (refine wpList_load_mid rfl 26 _ rfl g2 (o2 + kk * 3) rfl _ _ y3' Tryd.underlying26 rfl size_valB ?_)
                    | (refine wpList_store_blk rfl 26 _ _ rfl WR.heap.size 0 #[.int .i64 vt, .int .i64 vn, .string vz] rfl rfl _ _ HP2.out.1 (by simp) size_valB (one_v3 _ _ _) ?_; intro W3 P3 K3))
                  have PN : Aside (Blk W3 WR.heap.size #[.int .i64 vt, .int .i64 vn, .string vz] 26 ∧ Below WR.heap.size WR W3) := ⟨by simpa only [putA, List.setIfInBounds_toArray, List.set_cons_zero, List.set_cons_succ, Nat.reduceAdd] using P3, HP2.out.2.trans (K3.below.mono (by have := HP2.out.1.lt; omega))⟩
                  clear P3 K3 HP2 y1' y3' xz'
                  go_wp2
                  go_roundg (R - (jj + 1))
                  case measure => omega
                  case rel => exact ⟨jj + 1, vt, vn, vz, by omega, by omega, by omega, by go_num, HNB, PN⟩
                · have hnb : bsL wMost (vs.take (jj + 1)) = (bt, bn, bz) := by rw [HST.out, if_neg (by rw [HX.out]; simpa using hcm)]
                  have HNB := (show Hid _ from hnb)
                  clear hnb HST HX
                  go_wp2
                  go_roundg (R - (jj + 1))
                  case measure => omega
                  case rel => exact ⟨jj + 1, bt, bn, bz, by omega, by omega, by omega, by go_num, HNB, HP2⟩
            · have hjz : ¬ (jj : Int) < (R : Int) := by omega
              obtain rfl : jj = R := by omega
              have hnx := HNX.out
              rw [HBJ.out] at hnx
              have HNY := (show Hid _ from hnx)
              have SZ : Aside (TtSt w q6 kk c6 ((totV xs rws).take kk) wr) := SR.out.on PZ.out.2
              clear hnx HNX HBJ HC HOV SR
              go_wp2_with (first
                | (refine wpList_load_blk rfl 26 _ rfl WR.heap.size 0 rfl _ _ PZ.out.1 [.int .i64 bt, .int .i64 bn, .string bz] (fun j v hv => by simpa using hv) _ Tryd.underlying26 rfl size_valB ?_)
                | (refine wpList_append_val rfl _ _ rfl w.heap.size (.slice q6 kk c6) kk ((totV xs rws).take kk) rfl (lown_below SZ.out.own (alB wr _)) wr.heap.size 1 bt bn bz rfl (news1 rfl _) (by omega) (by have := SZ.out.old.size; simp; omega) ?_; intro q' c' W3 o1 g1))
              have SN : Aside (TtSt w q' (kk + 1) c' ((totV xs rws).take (kk + 1)) W3) := by
                rw [HNY.out.1]
                exact (SZ.out.on (alB wr _)).push o1 g1
              clear SZ o1 g1 PZ
              go_wp2
              go_roundg (N - (kk + 1))
              case measure => omega
              case rel => exact ⟨kk + 1, q', c', by omega, by omega, rfl, by go_num, SN, HNY.out.2⟩
    · have hltz : ¬ (kk : Int) < (N : Int) := by omega
      obtain rfl : kk = N := by omega
      have hz : totE xs rws = 0 := by
        rw [← HFR.out, List.drop_eq_nil_of_le (by rw [List.length_map]; simp [totL, HN.out])]; rfl
      have hfull : (totV xs rws).take kk = totV xs rws := List.take_of_length_le (by rw [HVL.out]; exact Nat.le_refl _)
      have hVA : ValsAt wr q6 (totV xs rws) := by
        have := SR.out.own
        rw [hfull] at this
        exact ownVals HVL.out this
      have HPO : Aside (totE xs rws = 0 ∧ ValsAt wr q6 (totV xs rws) ∧ Below w.heap.size w wr) := ⟨hz, hVA, SR.out.old⟩
      clear hz hfull hVA SR HFR
      go_wp2
      exact HPG.out HPO.out.1 _ _ _ HPO.out.2.1 HPO.out.2.2
end Go.Proofs.YtckonjacccfmmaaDoor
namespace Go.Proofs.YtckonjacccfmmaaDoor
open Go.RowKit
set_option linter.unusedVariables false

theorem info_vals : (Tryd.prog.info? 38).map (fun i => (i.zero, i.size, i.bytes)) = some (some (.slice none 0 0), 1, 24) := by kernel_rfl
/-- A row is appended to a list of one's own. -/
theorem wpList_append_row {w : World} {ops : Array Oper} {rest : List Oper} {o : Oper} {a : Act} {Q : Exit → Act → World → Prop} (hgd : o.guard = none) (s x : Operand)
    (ho : o.op = .call { callee := .builtin .append, args := #[s, x], argTypes := #[24, 24] })
    (base : Nat) (v : Value) (n : Nat) (cs : List Value) (hs : a.eval s = v) (hown : w.ownsRow base 38 1 v n cs)
    (g c : Nat) (q : Option Addr) (m k : Nat) (hx : a.eval x = .slice (some ⟨g, 0, none⟩) 1 c) (hc : ∀ j u, ([.slice q m k] : List Value)[j]? = some u → w.cell? ((⟨g, 0, none⟩ : Addr).add j) = some u)
    (hsm : n ≤ 1000000) (hbase : base ≤ w.heap.size)
    (h : ∀ q' c' w', w'.ownsRow base 38 1 (.slice q' (n + 1) c') (n + 1) (cs ++ [.slice q m k]) → w.grownBy w' v.ownBlock → wpList Tryd.prog ops Q rest (a.put o.dst (.slice q' (n + 1) c')) w') : wpList Tryd.prog ops Q (o :: rest) a w := by
  obtain ⟨i0, hi, hz0, hz1, hzz⟩ := info_parts info_vals
  refine wpList_append_own w hgd s x 24 ho base 38 i0 _ 1 24 Tryd.underlying24 hi hz0 hz1 hzz rfl (by decide) v n cs hs hown ⟨g, 0, none⟩ 1 c [.slice q m k] hx rfl hc (by intro u hu; simp at hu; subst hu; rfl) (by unfold maxLen; omega) (by omega) hbase (fun v' w' o1 o2 _ => ?_)
  obtain ⟨q', c', rfl⟩ : ∃ q' c', v' = .slice q' (n + 1) c' := by
    rcases o1.2 with ⟨_, h0⟩ | ⟨g', cap, cur, e, _⟩
    · omega
    · exact ⟨_, _, e⟩
  exact h q' c' w' o1 o2
/-- A row that was handed in. -/
def RowV (w : World) (v : Value) (r : List V3) : Prop := ∃ q c, v = .slice q r.length c ∧ ValsAt w q r ∧ (r.length = 0 ∨ ∀ g o, q = some ⟨g, o, none⟩ → g < w.heap.size)
/-- The good rows, gathered. -/
structure GdSt (w : World) (B : Nat) (q : Option Addr) (n c : Nat) (gs : List (List V3)) (W : World) : Prop where
  len : gs.length = n
  own : ∃ cs : List Value, W.ownsRow B 38 1 (.slice q n c) n cs ∧ ∀ j (h : j < gs.length), ∃ v, cs[j]? = some v ∧ RowV w v gs[j]
theorem GdSt.nil (w : World) (B : Nat) (W : World) : GdSt w B none 0 0 [] W := ⟨rfl, [], World.ownsRow_nil _ _ _ _, fun j h => absurd h (by simp)⟩
theorem GdSt.on {w W W' : World} {B : Nat} {q : Option Addr} {n c : Nat} {gs : List (List V3)} (h : GdSt w B q n c gs W) (hb : Below W.heap.size W W') : GdSt w B q n c gs W' := by
  obtain ⟨cs, h1, h2⟩ := h.own
  exact ⟨h.len, cs, lown_below h1 hb, h2⟩
theorem GdSt.kp {w W W' : World} {B : Nat} {q : Option Addr} {n c : Nat} {gs : List (List V3)} {S : Nat → Prop} (h : GdSt w B q n c gs W) (hk : Kp S W W') (hS : ∀ k, S k → k < B) : GdSt w B q n c gs W' := by
  obtain ⟨cs, h1, h2⟩ := h.own
  refine ⟨h.len, cs, ⟨h1.1, ?_⟩, h2⟩
  rcases h1.2 with hn | ⟨g, cap, cur, e, h3, hgg, rest⟩
  · exact .inl hn
  · exact .inr ⟨g, cap, cur, e, h3, by rw [hk.kept g (Array.getElem?_eq_some_iff.1 hgg).1 (fun hs => by have := hS g hs; omega)]; exact hgg, rest⟩
theorem GdSt.rows {w W : World} {B : Nat} {q : Option Addr} {n c : Nat} {gs : List (List V3)} (h : GdSt w B q n c gs W) (hb : Below w.heap.size w W) : RowsAt W q gs := by
  by_cases h0 : gs.length = 0
  · exact .inl h0
  · obtain ⟨cs, h1, h2⟩ := h.own
    have hl := h.len
    rcases h1.2 with ⟨e1, hn⟩ | ⟨g, cap, cur, e1, hB, hg, hm, hx, hs, ht⟩
    · omega
    · injection e1 with e1 e2 e3
      subst e1
      refine .inr ⟨g, 0, rfl, (Array.getElem?_eq_some_iff.1 hg).1, fun j hj => ?_⟩
      obtain ⟨v, a0, q', c', rfl, a1, a2⟩ := h2 j hj
      have h3 := h1.cells (g := g) rfl _ _ a0
      rw [Go.WideShapes.add_plain] at h3
      refine ⟨q', c', by simpa using h3, a1.on hb, ?_⟩
      rcases a2 with a2 | a2
      · exact .inl a2
      · exact .inr fun g o e => by have := a2 g o e; have := hb.size; omega
theorem GdSt.push {w W W2 : World} {B : Nat} {q q' : Option Addr} {n c c' : Nat} {gs : List (List V3)} {r : List V3} {cs : List Value} {v : Value} (h : gs.length = n) (h1 : W.ownsRow B 38 1 (.slice q n c) n cs) (h2 : ∀ j (h : j < gs.length), ∃ v, cs[j]? = some v ∧ RowV w v gs[j]) (hv : RowV w v r) (ho : W2.ownsRow B 38 1 (.slice q' (n + 1) c') (n + 1) (cs ++ [v])) : GdSt w B q' (n + 1) c' (gs ++ [r]) W2 := by
  have hcl : cs.length = n := by have := h1.1; omega
  refine ⟨by simp [h], cs ++ [v], ho, fun j hj => ?_⟩
  by_cases hjn : j < gs.length
  · obtain ⟨u, u1, u2⟩ := h2 j hjn
    refine ⟨u, by rw [List.getElem?_append_left (by omega)]; exact u1, ?_⟩
    rw [List.getElem_append_left hjn]; exact u2
  · have hj' : j = gs.length := by simp at hj; omega
    subst hj'
    refine ⟨v, by rw [List.getElem?_append_right (by omega), hcl, h]; simp, ?_⟩
    rw [List.getElem_append_right (Nat.le_refl _)]
    simpa using hv
/-- Accs stay where a list of rows of one's own grows. -/
theorem Accs.grown {n : Nat} {w W W' : World} {ps0 : List Pt} {A : Nat → Nat} {V : Nat → Value} {R : Nat → List (List V3)} {B m : Nat} {v : Value} {cs : List Value} (h : Accs n w W ps0 A V R) (ho : W.ownsRow B 38 1 v m cs) (hg : W.grownBy W' v.ownBlock) (hB : ∀ j, j < n → ∀ k, accS (A j) (V j) k → k < B) (hw : w.heap.size ≤ B) (hBW : B ≤ W.heap.size) : Accs n w W' ps0 A V R := by
  have hbl : ∀ k, v.ownBlock = some k → B ≤ k := fun k hk => (ho.lt k hk).1
  have hk : Kp (fun k => v.ownBlock = some k) W W' := ⟨((Below.refl _ W).grown hg hBW hbl).mono (Nat.zero_le _), fun k hk hn => hg.block k hk (fun e => hn e.symm)⟩
  refine ⟨h.below.trans (((Below.refl _ W).grown hg hBW hbl).mono hw), fun j hj => ?_, h.dj, h.el⟩
  obtain ⟨ps, h1, h2⟩ := h.at_ j hj
  refine ⟨ps, h1.keep hk (fun k hk hs => by have := hB j hj k hk; have := hbl k hs; omega) (fun k cs' hs hc => ?_), h2⟩
  rcases ho.2 with ⟨e, _⟩ | ⟨g, cap, cur, e, _, hgg, _⟩
  · rw [e] at hs; simp [Value.ownBlock] at hs
  · rw [e] at hs
    have hkg : g = k := by simpa [Value.ownBlock] using hs
    subst hkg
    rw [hgg] at hc
    injection hc with hc
    injection hc with _ hc
    exact absurd hc (by decide)
/-- Behind so many rows: what both Accs know, what is gathered; pd: what is Added and not yet gathered. -/
structure TlSt (w : World) (rws : List (List V3)) (ps0 : List Pt) (A : Nat → Nat) (V : Nat → Value) (B : Nat) (cut : Int) (pd : List (List V3)) (q : Option Addr) (n c kk : Nat) (W : World) : Prop where
  ex : ∃ R gs, Accs 2 w W ps0 A V R ∧ GdSt w B q n c gs W ∧ R 0 ++ R 1 = gs ++ pd ∧ ((kk : Int) ≤ cut → R 1 = []) ∧ (∀ r ∈ gs ++ pd, adE ps0 r = 0 ∧ r ∈ rws) ∧ gs.length + pd.length ≤ kk
  sep : ∀ j, j < 2 → ∀ k, accS (A j) (V j) k → k < B
  lo : w.heap.size ≤ B
  hi : B ≤ W.heap.size
theorem TlSt.on {w W W' : World} {rws : List (List V3)} {ps0 : List Pt} {A : Nat → Nat} {V : Nat → Value} {B : Nat} {cut : Int} {pd : List (List V3)} {q : Option Addr} {n c kk : Nat} (h : TlSt w rws ps0 A V B cut pd q n c kk W) (hb : Below W.heap.size W W') : TlSt w rws ps0 A V B cut pd q n c kk W' := by
  obtain ⟨R, gs, h1, h2, h3⟩ := h.ex
  exact ⟨⟨R, gs, h1.on hb, h2.on hb, h3⟩, h.sep, h.lo, by have := h.hi; have := hb.size; omega⟩
theorem TlSt.below {w W : World} {rws : List (List V3)} {ps0 : List Pt} {A : Nat → Nat} {V : Nat → Value} {B : Nat} {cut : Int} {pd : List (List V3)} {q : Option Addr} {n c kk : Nat} (h : TlSt w rws ps0 A V B cut pd q n c kk W) : Below w.heap.size w W := by
  obtain ⟨R, gs, h1, _⟩ := h.ex
  exact h1.below
theorem tl_add {w W : World} {rws : List (List V3)} {ps0 : List Pt} {A : Nat → Nat} {V : Nat → Value} {B : Nat} {cut : Int} {q : Option Addr} {n c kk : Nat} (h : TlSt w rws ps0 A V B cut [] q n c kk W) (hk : kk < 60) (r : List V3) (hr : r ∈ rws) (rq : Option Addr) (rc : Nat) (hv : RowV w (.slice rq r.length rc) r) (hs : SizedV r) (hl : r.length ≤ maxLen) (i : Nat) (hi : ((kk : Int) < cut ∧ i = 0) ∨ (¬ (kk : Int) < cut ∧ i = 1)) :
    Calls Tryd.prog 9 #[.pointer (some ⟨A i, 0, none⟩), .slice rq r.length rc] W fun e w' => e = .returned (errV (adE ps0 r)) ∧ Aside (TlSt w rws ps0 A V B cut (if adE ps0 r = 0 then [r] else []) q n c (kk + 1) w') := by
  obtain ⟨R, gs, h1, h2, h3, h4, h5, h6⟩ := h.ex
  have hi2 : i < 2 := by omega
  have hRl : (R i).length ≤ 60 := by
    have := congrArg List.length h3
    simp at this h6
    rcases hi with ⟨_, rfl⟩ | ⟨_, rfl⟩ <;> omega
  obtain ⟨q0, c0, e0, v1, v2⟩ := hv
  injection e0 with e1 e2 e3
  subst e1 e3
  have hvd : r.length = 0 ∨ ∀ b o, rq = some ⟨b, o, none⟩ → ¬ accS (A i) (V i) b := by
    rcases v2 with v2 | v2
    · exact .inl v2
    · exact .inr fun g o e hs => by have := h1.el i hi2 g hs; have := v2 g o e; omega
  refine (add_c (A i) (V i) ps0 (R i) rq rc r W (h1.at_ i hi2) (by omega) (v1.on h1.below) hs hl hvd).mono fun e w' hh => ⟨hh.1, ?_⟩
  obtain ⟨_, ha, hkp⟩ := hh
  have hA := h1.upd hi2 ha hkp
  have hG := h2.kp hkp (fun k hk => h.sep i hi2 k hk)
  refine (show Aside _ from ⟨⟨_, gs, hA, hG, ?_, ?_, ?_, ?_⟩, h.sep, h.lo, by have := h.hi; have := (hkp.below (Nat.zero_le _) (fun k hk => absurd hk (Nat.not_lt_zero k))).size; omega⟩)
  · simp only [updR, gdR]
    simp only [List.append_nil] at h3
    rcases hi with ⟨hc, rfl⟩ | ⟨hc, rfl⟩
    · have h40 := h4 (by omega)
      rw [h40, List.append_nil] at h3
      by_cases hE : adE ps0 r = 0
      · simp [hE, h40, h3]
      · simp [hE, h40, h3]
    · by_cases hE : adE ps0 r = 0
      · simp [hE, ← h3]
      · simp [hE, ← h3]
  · intro hc
    simp only [updR]
    rcases hi with ⟨hc', rfl⟩ | ⟨hc', rfl⟩
    · simpa using h4 (by omega)
    · omega
  · intro x hx
    rcases List.mem_append.1 hx with hx | hx
    · exact h5 x (by simp [hx])
    · by_cases hE : adE ps0 r = 0
      · rw [if_pos hE] at hx
        obtain rfl : x = r := by simpa using hx
        exact ⟨hE, hr⟩
      · rw [if_neg hE] at hx; simp at hx
  · simp at h6
    by_cases hE : adE ps0 r = 0
    · rw [if_pos hE]; simp; omega
    · rw [if_neg hE]; simp; omega
end Go.Proofs.YtckonjacccfmmaaDoor
namespace Go.Proofs.YtckonjacccfmmaaDoor
open Go.RowKit
set_option linter.unusedVariables false

theorem tl_start {w W1 W2 W3 : World} {rws : List (List V3)} {ps0 : List Pt} {a b : Nat} {av bv : Value} (cut : Int) (h1 : AcAt W1 a av ps0 []) (h2 : ∀ k, accS a av k → w.heap.size ≤ k) (h3 : Below w.heap.size w W1) (h4 : Below W1.heap.size W1 W2) (h5 : AcAt W3 b bv ps0 []) (h6 : ∀ k, accS b bv k → W2.heap.size ≤ k) (h7 : Below W2.heap.size W2 W3) :
    ∃ (A : Nat → Nat) (V : Nat → Value), A 0 = a ∧ A 1 = b ∧ Aside (TlSt w rws ps0 A V W3.heap.size cut [] none 0 0 0 W3) := by
  have s1 := h3.size
  have s2 := h4.size
  have s3 := h7.size
  have hl := h1.lt
  have B13 : Below W1.heap.size W1 W3 := h4.trans (h7.mono s2)
  refine ⟨fun i => match i with | 0 => a | _ => b, fun i => match i with | 0 => av | _ => bv, rfl, rfl, (show Aside _ from ⟨⟨fun _ => [], [], ⟨h3.trans (B13.mono s1), fun j hj => ?_, fun i j hi hj hij k hk hk2 => ?_, fun j hj k hk => ?_⟩, GdSt.nil _ _ _, rfl, fun _ => rfl, fun r hr => absurd hr (by simp), Nat.le_refl _⟩, fun j hj k hk => ?_, by omega, Nat.le_refl _⟩)⟩
  · match j, hj with
    | 0, _ => exact h1.on B13
    | 1, _ => exact h5
  · match i, hi, j, hj with
    | 0, _, 0, _ => exact hij rfl
    | 0, _, 1, _ => have := hl k hk; have := h6 k hk2; omega
    | 1, _, 0, _ => have := hl k hk2; have := h6 k hk; omega
    | 1, _, 1, _ => exact hij rfl
  · match j, hj with
    | 0, _ => exact h2 k hk
    | 1, _ => have := h6 k hk; omega
  · match j, hj with
    | 0, _ => have := hl k hk; omega
    | 1, _ => exact h5.lt k hk
theorem tl_own {w W : World} {rws : List (List V3)} {ps0 : List Pt} {A : Nat → Nat} {V : Nat → Value} {B : Nat} {cut : Int} {r : List V3} {q : Option Addr} {n c kk : Nat} (h : TlSt w rws ps0 A V B cut [r] q n c kk W) : ∃ cs : List Value, W.ownsRow B 38 1 (.slice q n c) n cs ∧ n + 1 ≤ kk ∧ B ≤ W.heap.size ∧ ∀ v, RowV w v r → ∀ W1, Below W.heap.size W W1 → ∀ q' c' W2, W2.ownsRow B 38 1 (.slice q' (n + 1) c') (n + 1) (cs ++ [v]) → W1.grownBy W2 (Value.slice q n c).ownBlock → TlSt w rws ps0 A V B cut [] q' (n + 1) c' kk W2 := by
  obtain ⟨R, gs, h1, h2, h3, h4, h5, h6⟩ := h.ex
  obtain ⟨cs, o1, o2⟩ := h2.own
  have hl := h2.len
  have hbl : ∀ k, (Value.slice q n c).ownBlock = some k → B ≤ k := fun k hk => (o1.lt k hk).1
  refine ⟨cs, o1, by simp at h6; omega, h.hi, fun v hv W1 hb q' c' W2 ho hg => ⟨⟨R, gs ++ [r], (h1.on hb).grown (lown_below o1 hb) hg h.sep h.lo (by have := h.hi; have := hb.size; omega), GdSt.push hl (lown_below o1 hb) o2 hv ho, by simpa using h3, h4, by simpa using h5, by simpa using h6⟩, h.sep, h.lo, ?_⟩⟩
  have := ((Below.refl _ W1).grown hg (by have := h.hi; have := hb.size; omega) hbl).size
  have := h.hi
  have := hb.size
  omega
/-- What is known behind Join. -/
structure JnSt (w : World) (rws : List (List V3)) (ps0 : List Pt) (a : Nat) (v : Value) (q : Option Addr) (gs : List (List V3)) (W : World) : Prop where
  acc : AcAt W a v ps0 gs
  rows : RowsAt W q gs
  old : Below w.heap.size w W
  gd : ∀ r ∈ gs, adE ps0 r = 0 ∧ r ∈ rws
  len : gs.length ≤ 60
theorem JnSt.on {w W W' : World} {rws : List (List V3)} {ps0 : List Pt} {a : Nat} {v : Value} {q : Option Addr} {gs : List (List V3)} (h : JnSt w rws ps0 a v q gs W) (hb : Below W.heap.size W W') : JnSt w rws ps0 a v q gs W' :=
  ⟨h.acc.on hb, h.rows.on hb, h.old.trans (hb.mono h.old.size), h.gd, h.len⟩
theorem tl_join {w W : World} {rws : List (List V3)} {ps0 : List Pt} {A : Nat → Nat} {V : Nat → Value} {B : Nat} {cut : Int} {q : Option Addr} {n c kk : Nat} (h : TlSt w rws ps0 A V B cut [] q n c kk W) (hk : kk ≤ 60) : ∃ gs, gs.length = n ∧
    Calls Tryd.prog 10 #[.pointer (some ⟨A 0, 0, none⟩), .pointer (some ⟨A 1, 0, none⟩)] W fun e w' => e = .returned .nilIface ∧ Aside (JnSt w rws ps0 (A 0) (V 0) q gs w') := by
  obtain ⟨R, gs, h1, h2, h3, h4, h5, h6⟩ := h.ex
  rw [List.append_nil] at h3 h5
  have hgl : gs.length ≤ 60 := by simp at h6; omega
  have hRl := congrArg List.length h3
  rw [List.length_append] at hRl
  refine ⟨gs, h2.len, (join_c (A 0) (V 0) (A 1) (V 1) ps0 (R 0) (R 1) W (h1.at_ 0 (by decide)) (h1.at_ 1 (by decide)) (by omega) (h1.dj 1 0 (by decide) (by decide) (by decide))).mono fun e w' hh => ⟨hh.1, ?_⟩⟩
  obtain ⟨_, ha, hkp⟩ := hh
  rw [h3] at ha
  have hA := h1.upd (by decide) ha hkp
  exact (show Aside _ from ⟨ha, (h2.kp hkp (fun k hk => h.sep 0 (by decide) k hk)).rows hA.below, hA.below, h5, hgl⟩)
theorem tl_total {w W : World} {ap : Option Addr} {xs : List ByteArray} {tp : Option Addr} {ts : List Int} {rp : Option Addr} {rws : List (List V3)} (hA : AnyE w ap xs tp ts rp rws) (hE : nwE xs ts = 0) {a : Nat} {v : Value} {q : Option Addr} {gs : List (List V3)} (h : JnSt w rws (nwP xs ts) a v q gs W) (ac c : Nat) (PST : Ending → World → Prop)
    (hpg : totE xs gs = 0 → ∀ q c W', ValsAt W' q (totV xs gs) → Below W.heap.size W W' → PST (.returned (.tuple #[.slice q xs.length c, .int .i64 0])) W') (hpb : ∀ E, totE xs gs = E → E ≠ 0 → ∀ W', Below W.heap.size W W' → PST (.returned (.tuple #[.slice none 0 0, .int .i64 E])) W') :
    Calls Tryd.prog 11 #[.slice ap xs.length ac, .slice q gs.length c] W PST := by
  obtain ⟨hl, hnp⟩ := nw_at hE
  have hx6 : xs.length ≤ 6 := by
    unfold nwE at hE
    rw [if_neg (fun e => e hl)] at hE
    by_cases h6 : 6 < xs.length
    · rw [if_pos h6] at hE; omega
    · omega
  have hpl : (nwP xs ts).length = xs.length := by simp [nwP, hl]
  have hat : ∀ i (h1 : i < xs.length), (nwP xs ts)[i]'(by rw [hpl]; exact h1) = ⟨xs[i], if xs[i].data.toList = wCount then 0 else ts[i]'(by omega), [], noV⟩ := fun i h1 => by
    simp only [nwP, List.getElem_zipWith, npP]
    rw [if_neg (fun e => e (hnp i h1 (by omega)))]
  refine total_gen ap ac xs q c gs W (hA.ags.on h.old) h.rows hx6 h.len (fun r hr => ?_) (fun x hx => ?_) (fun r hr => (hA.sz r (h.gd r hr).2).1) (fun i hi hw => ?_) PST hpg hpb
  · rw [(adE_good (h.gd r hr).1).1, hpl]
  · obtain ⟨i, hi, rfl⟩ := List.getElem_of_mem hx
    have := hnp i hi (by omega)
    unfold npE at this
    by_cases ha : isAg xs[i].data.toList = true
    · exact ha
    · rw [if_pos (by simpa using ha)] at this; omega
  · refine ⟨((nwP xs ts)[i]'(by rw [hpl]; exact hi)).kind, fun u hu => ?_⟩
    obtain ⟨r, hr, rfl⟩ := List.mem_map.1 hu
    obtain ⟨g1, g2⟩ := adE_good (h.gd r hr).1
    have hir : i < r.length := by omega
    rw [List.getD_eq_getElem?_getD, List.getElem?_eq_getElem hir]
    exact ckPt_ok (g2 i (by rw [hpl]; exact hi) hir) (by rw [hat i hi]; exact hw)
theorem tl_result {w W : World} {xs : List ByteArray} {ts : List Int} {rws : List (List V3)} (hE : nwE xs ts = 0) {a : Nat} {v : Value} {q : Option Addr} {gs : List (List V3)} (h : JnSt w rws (nwP xs ts) a v q gs W) :
    (totE xs gs = 0 → Calls Tryd.prog 12 #[.pointer (some ⟨a, 0, none⟩)] W fun e w' => (∃ q c, e = .returned (.tuple #[.slice q xs.length c, .nilIface]) ∧ Aside (ValsAt w' q (totV xs gs))) ∧ Aside (Below W.heap.size W w')) ∧
    (∀ E, totE xs gs = E → E ≠ 0 → Calls Tryd.prog 12 #[.pointer (some ⟨a, 0, none⟩)] W fun e w' => e = .returned (.tuple #[.slice none 0 0, .iface 53 (.int .i64 E)]) ∧ Aside (Below W.heap.size W w')) := by
  obtain ⟨ps, hu, hc⟩ := result_c a v _ gs W h.acc
  obtain ⟨t1, t2⟩ := tells_tot hE hu
  rw [t1, t2] at hc
  have hVL : (totV xs gs).length = xs.length := by simp [totV, totL]
  rw [hVL] at hc
  refine ⟨fun h0 => ?_, fun E hE' h0 => ?_⟩
  · rcases hc with hc | hc
    · exact hc.2
    · exact absurd h0 hc.1
  · subst hE'
    rcases hc with hc | hc
    · exact absurd hc.1 h0
    · exact hc.2
end Go.Proofs.YtckonjacccfmmaaDoor
namespace Go.Proofs.YtckonjacccfmmaaDoor
open Go.RowKit
set_option linter.unusedVariables false

/-- How far it is looked what is wrong with aggregates. -/
def NwR (xs : List ByteArray) (ts : List Int) (kk : Nat) (e E : Int) : Prop := (e = 0 ∧ fstE ((nwL xs ts).drop kk) = E) ∨ (e ≠ 0 ∧ e = E)
/-- How far it is looked what is wrong with a row. -/
def AdR (xs : List ByteArray) (ts : List Int) (r : List V3) (jj : Nat) (e E : Int) : Prop := (e = 0 ∧ fstE ((List.zipWith ckPt (nwP xs ts) r).drop jj) = E) ∨ (e ≠ 0 ∧ e = E)
def ck1 (x : ByteArray) (t : Int) (v : V3) : Int := if x.data.toList = wCount then 0 else if chk v.1 v.2.1 v.2.2.data.toList ≠ 0 then chk v.1 v.2.1 v.2.2.data.toList else if v.1 ≠ t then 8 else 0
theorem ad_at {xs : List ByteArray} {ts : List Int} {r : List V3} (hE : nwE xs ts = 0) {k : Nat} (h1 : k < xs.length) (h2 : k < ts.length) (h3 : k < r.length) : fstE ((List.zipWith ckPt (nwP xs ts) r).drop k) = if ck1 xs[k] ts[k] r[k] ≠ 0 then ck1 xs[k] ts[k] r[k] else fstE ((List.zipWith ckPt (nwP xs ts) r).drop (k + 1)) := by
  have hpl : k < (nwP xs ts).length := by simp [nwP]; omega
  rw [fstE_at (by rw [List.length_zipWith]; omega)]
  have : (List.zipWith ckPt (nwP xs ts) r)[k]'(by rw [List.length_zipWith]; omega) = ck1 xs[k] ts[k] r[k] := by
    simp only [List.getElem_zipWith, nwP, npP]
    rw [if_neg (fun e => e ((nw_at hE).2 k h1 h2))]
    unfold ckPt ck1 Pt.wh
    by_cases hc : xs[k].data.toList = wCount
    · simp [hc]
    · simp [hc]
  rw [this]
theorem str_t {x : ByteArray} {l : List UInt8} (h : x.data.toList = l) : (x.toList == l) = true := by rw [Lib.toList_data]; simpa using h
theorem str_f {x : ByteArray} {l : List UInt8} (h : x.data.toList ≠ l) : (x.toList == l) = false := by rw [Lib.toList_data]; simpa using h
/-- What New says of what is wrong, with what is told of it. -/
theorem new_told {w : World} {ap : Option Addr} {ac : Nat} {xs : List ByteArray} {tp : Option Addr} {tc : Nat} {ts : List Int} {rp : Option Addr} {rws : List (List V3)} (h : AnyE w ap xs tp ts rp rws) (E : Int) (hE : nwE xs ts = E) (h0 : E ≠ 0) (W : World) (hW : Below w.heap.size w W) :
    Calls Tryd.prog 6 #[.slice ap xs.length ac, .slice tp ts.length tc] W fun e w' => e = .returned (.tuple #[.pointer none, .iface 53 (.int .i64 E)]) ∧ Aside (Below w.heap.size w w') :=
  (new_bad ap ac xs tp tc ts W (h.env.on hW) (h.ags.on hW) (h.tys.on hW) h.xl h.tl E hE h0).mono fun e w' hh => ⟨hh.1, hW.trans (hh.2.out.mono hW.size)⟩
theorem err_told {w : World} (het : EtAt w) (E : Int) (h0 : E ≠ 0) (W : World) (hW : Below w.heap.size w W) :
    Calls Tryd.prog 7 #[.iface 53 (.int .i64 E), .int .i64 E] W fun e w' => e = .returned (.bool true) ∧ Aside (Below w.heap.size w w') := by
  have := told_any E W (het.on hW)
  rw [errV, if_neg h0] at this
  exact this.mono fun e w' hh => ⟨hh.1, hW.trans (hh.2.mono hW.size)⟩
set_option maxHeartbeats 8000000 in
set_option maxRecDepth 20000 in
theorem tells_walk (ap : Option Addr) (ac : Nat) (xs : List ByteArray) (tp : Option Addr) (tc : Nat) (ts : List Int) (rp : Option Addr) (rc : Nat) (rws : List (List V3)) (cut : Int) (w : World) (ha : AnyE w ap xs tp ts rp rws) :
    Calls Tryd.prog 3 #[.slice ap xs.length ac, .slice tp ts.length tc, .slice rp rws.length rc, .int .i64 cut] w fun e w' => e = .returned (.bool true) ∧ Aside (Below w.heap.size w w') := by
  have HA : Aside (AnyE w ap xs tp ts rp rws) := ha
  have hxl : (xs.length : Int) ≤ 9223372036854775807 := by have := ha.xl; unfold maxLen at this; omega
  have htl : (ts.length : Int) ≤ 9223372036854775807 := by have := ha.tl; unfold maxLen at this; omega
  have hrl : (rws.length : Int) ≤ 9223372036854775807 := by have := ha.rl; unfold maxLen at this; omega
  obtain ⟨N, hN⟩ : ∃ N, xs.length = N := ⟨_, rfl⟩
  obtain ⟨T, hT⟩ : ∃ T, ts.length = T := ⟨_, rfl⟩
  obtain ⟨RN, hRN⟩ : ∃ RN, rws.length = RN := ⟨_, rfl⟩
  have HN : Hid (xs.length = N) := hN
  have HT : Hid (ts.length = T) := hT
  have HRN : Hid (rws.length = RN) := hRN
  rw [hN] at hxl ⊢
  rw [hT] at htl ⊢
  rw [hRN] at hrl ⊢
  obtain ⟨E, hE⟩ : ∃ E, nwE xs ts = E := ⟨_, rfl⟩
  have HEE : Hid (nwE xs ts = E) := hE
  obtain ⟨Z, hZ⟩ : ∃ Z : Int, (if T ≠ N then 3 else if 6 < N then 4 else 0) = Z := ⟨_, rfl⟩
  have HZ : Hid ((if T ≠ N then (3 : Int) else if 6 < N then 4 else 0) = Z) := hZ
  have HZT : Hid (Z = 0 → T = N) := fun h => by
    by_cases e : T = N
    · exact e
    · rw [if_pos e] at hZ; omega
  have HST0 : Hid (NwR xs ts 0 Z E) := by
    unfold nwE at hE
    rw [hN, hT] at hE
    by_cases e : T = N
    · rw [if_neg (fun h => h e)] at hE hZ
      by_cases h6 : 6 < N
      · rw [if_pos h6] at hE hZ
        exact (show Hid _ from .inr ⟨by omega, by omega⟩)
      · rw [if_neg h6] at hE hZ
        exact (show Hid _ from .inl ⟨hZ.symm, hE⟩)
    · rw [if_pos e] at hE hZ
      exact (show Hid _ from .inr ⟨by omega, by omega⟩)
  clear ha hN hT hRN hE hZ
  go_enter Tryd.func3, Tryd.ntmps3
  go_upto_if 27 with fail
  go_cut [9] (fun s9 wx => s9 = .int .i64 Z ∧ w = wx)
  case first => as_aux_lemma =>
    by_cases hTN : T = N
    · have qTN : ((T : Int) != (N : Int)) = false := by simp; omega
      by_cases h6 : (6 : Int) < (N : Int)
      · have hz : Z = 4 := by rw [← HZ.out, if_neg (fun h => h hTN), if_pos (by omega)]
        subst hz
        clear hTN
        go_wp2
        go_meet
        case rel => exact ⟨rfl, rfl⟩
      · have hz : Z = 0 := by rw [← HZ.out, if_neg (fun h => h hTN), if_neg (by omega)]
        subst hz
        clear hTN
        go_wp2
        go_meet
        case rel => exact ⟨rfl, rfl⟩
    · have qTN : ((T : Int) != (N : Int)) = true := by simp; omega
      have hz : Z = 3 := by rw [← HZ.out, if_pos hTN]
      subst hz
      clear hTN
      go_wp2
      go_meet
      case rel => exact ⟨rfl, rfl⟩
  case rest =>
    rename World => wa
    obtain ⟨rfl, hwa⟩ := hcut
    subst hwa
    clear HZ
    go_upto_block 0 with fail
    go_cut [9, 10, 11] (fun s9 _ _ wx => s9 = .int .i64 E ∧ w = wx)
    case first => as_aux_lemma =>
      go_wp2_with fail
      go_loopg [9, 10] N (fun gg s9 s10 wr => ∃ (kk : Nat) (e : Int), kk ≤ N ∧ N - kk ≤ gg ∧ s9 = .int .i64 e ∧ s10 = .int .i64 kk ∧ Hid (NwR xs ts kk e E) ∧ Hid (e = 0 → T = N) ∧ w = wr)
      case atStart => exact ⟨0, Z, Nat.zero_le _, by omega, rfl, rfl, HST0, HZT, rfl⟩
      case round =>
        obtain ⟨kk, e, hkk, hg, rfl, rfl, HST, HTN, rfl⟩ := hrel
        clear HST0 HZT
        by_cases he : e = 0
        · subst he
          have hTN : T = N := HTN.out rfl
          subst hTN
          clear HTN
          by_cases hlt : kk < T
          · have hltz : (kk : Int) < (T : Int) := by omega
            have h0z : (0 : Int) ≤ (kk : Int) := by omega
            have hkx : kk < xs.length := by rw [HN.out]; exact hlt
            have hkt : kk < ts.length := by rw [HT.out]; exact hlt
            obtain ⟨ab, ao, rfl, hal, hagc⟩ := HA.out.ags.resolve_left (by omega)
            obtain ⟨tb, to_, rfl, htb, htg⟩ := HA.out.tys.resolve_left (by omega)
            obtain ⟨op, nm, vt, vn, vs', gp, gn, gc, pos, name, hr⟩ := hagc kk hkx
            have x0 : w.cell? ⟨ab, ao + kk * 9, none⟩ = some (.string xs[kk]) := hr 0 _ rfl
            have t0 := htg kk hkt
            have hfe : fstE ((nwL xs ts).drop kk) = E := by
              rcases HST.out with h | h
              · exact h.2
              · exact absurd rfl h.1
            rw [nwL_at hkx hkt] at hfe
            have HFE := (show Hid _ from hfe)
            clear hr hagc htg hfe HST
            generalize xs[kk] = x at *
            generalize ts[kk] = t at *
            have nxt : ∀ k, npE x.data.toList t = k → Hid (NwR xs ts (kk + 1) k E) := fun k hk => by
              have h := HFE.out
              rw [hk] at h
              by_cases h0 : k = 0
              · rw [if_neg (fun h => h h0)] at h; exact (show Hid _ from .inl ⟨h0, h⟩)
              · rw [if_pos h0] at h; exact (show Hid _ from .inr ⟨h0, h⟩)
            have HNXT := (show Aside (∀ k, npE x.data.toList t = k → Hid (NwR xs ts (kk + 1) k E)) from nxt)
            clear HFE nxt
            by_cases hag : isAg x.data.toList = true
            · have hxw : x = ⟨#[99, 111, 117, 110, 116]⟩ ∨ x = ⟨#[115, 117, 109]⟩ ∨ x = ⟨#[108, 101, 97, 115, 116]⟩ ∨ x = ⟨#[109, 111, 115, 116]⟩ := by
                rcases isAg_four hag with h | h | h | h
                · exact .inl (byte_eq h)
                · exact .inr (.inl (byte_eq h))
                · exact .inr (.inr (.inl (byte_eq h)))
                · exact .inr (.inr (.inr (byte_eq h)))
              clear hag
              rcases hxw with rfl | rfl | rfl | rfl
              · have HQ := HNXT.out 0 (by simp [npE, isAg, wCount])
                clear HNXT
                go_wp2
                go_roundg (T - (kk + 1))
                case measure => omega
                case rel => exact ⟨kk + 1, 0, by omega, by omega, rfl, by go_num, HQ, (show Hid _ from fun _ => by trivial), rfl⟩
              · by_cases h1 : t < 1
                · have HQ := HNXT.out 1 (by simp [npE, isAg, wCount, wSum]; omega)
                  clear HNXT
                  go_wp2
                  go_roundg (T - (kk + 1))
                  case measure => omega
                  case rel => exact ⟨kk + 1, 1, by omega, by omega, rfl, by go_num, HQ, (show Hid _ from fun _ => by trivial), rfl⟩
                · by_cases h3 : 3 < t
                  · have HQ := HNXT.out 1 (by simp [npE, isAg, wCount, wSum]; omega)
                    clear HNXT
                    go_wp2
                    go_roundg (T - (kk + 1))
                    case measure => omega
                    case rel => exact ⟨kk + 1, 1, by omega, by omega, rfl, by go_num, HQ, (show Hid _ from fun _ => by trivial), rfl⟩
                  · by_cases he1 : t = 1
                    · subst he1
                      have HQ := HNXT.out 0 (by simp [npE, isAg, wCount, wSum])
                      clear HNXT
                      go_wp2
                      go_roundg (T - (kk + 1))
                      case measure => omega
                      case rel => exact ⟨kk + 1, 0, by omega, by omega, rfl, by go_num, HQ, (show Hid _ from fun _ => by trivial), rfl⟩
                    · have heb : (t != 1) = true := by simpa using he1
                      have HQ := HNXT.out 8 (by simp [npE, isAg, wCount, wSum]; omega)
                      clear HNXT
                      go_wp2
                      go_roundg (T - (kk + 1))
                      case measure => omega
                      case rel => exact ⟨kk + 1, 8, by omega, by omega, rfl, by go_num, HQ, (show Hid _ from fun _ => by trivial), rfl⟩
              · by_cases h1 : t < 1
                · have HQ := HNXT.out 1 (by simp [npE, isAg, wCount, wSum]; omega)
                  clear HNXT
                  go_wp2
                  go_roundg (T - (kk + 1))
                  case measure => omega
                  case rel => exact ⟨kk + 1, 1, by omega, by omega, rfl, by go_num, HQ, (show Hid _ from fun _ => by trivial), rfl⟩
                · by_cases h3 : 3 < t
                  · have HQ := HNXT.out 1 (by simp [npE, isAg, wCount, wSum]; omega)
                    clear HNXT
                    go_wp2
                    go_roundg (T - (kk + 1))
                    case measure => omega
                    case rel => exact ⟨kk + 1, 1, by omega, by omega, rfl, by go_num, HQ, (show Hid _ from fun _ => by trivial), rfl⟩
                  · have HQ := HNXT.out 0 (by simp [npE, isAg, wCount, wSum]; omega)
                    clear HNXT
                    go_wp2
                    go_roundg (T - (kk + 1))
                    case measure => omega
                    case rel => exact ⟨kk + 1, 0, by omega, by omega, rfl, by go_num, HQ, (show Hid _ from fun _ => by trivial), rfl⟩
              · by_cases h1 : t < 1
                · have HQ := HNXT.out 1 (by simp [npE, isAg, wCount, wSum]; omega)
                  clear HNXT
                  go_wp2
                  go_roundg (T - (kk + 1))
                  case measure => omega
                  case rel => exact ⟨kk + 1, 1, by omega, by omega, rfl, by go_num, HQ, (show Hid _ from fun _ => by trivial), rfl⟩
                · by_cases h3 : 3 < t
                  · have HQ := HNXT.out 1 (by simp [npE, isAg, wCount, wSum]; omega)
                    clear HNXT
                    go_wp2
                    go_roundg (T - (kk + 1))
                    case measure => omega
                    case rel => exact ⟨kk + 1, 1, by omega, by omega, rfl, by go_num, HQ, (show Hid _ from fun _ => by trivial), rfl⟩
                  · have HQ := HNXT.out 0 (by simp [npE, isAg, wCount, wSum]; omega)
                    clear HNXT
                    go_wp2
                    go_roundg (T - (kk + 1))
                    case measure => omega
                    case rel => exact ⟨kk + 1, 0, by omega, by omega, rfl, by go_num, HQ, (show Hid _ from fun _ => by trivial), rfl⟩
            · have haf : isAg x.data.toList = false := by simpa using hag
              have k1 := str_f (x := x) (l := [99, 111, 117, 110, 116]) (fun h => hag (by rw [h]; decide))
              have k2 := str_f (x := x) (l := [115, 117, 109]) (fun h => hag (by rw [h]; decide))
              have k3 := str_f (x := x) (l := [108, 101, 97, 115, 116]) (fun h => hag (by rw [h]; decide))
              have k4 := str_f (x := x) (l := [109, 111, 115, 116]) (fun h => hag (by rw [h]; decide))
              clear hag
              have HQ := HNXT.out 2 (by rw [npE, if_pos haf])
              clear HNXT haf
              go_wp2
              go_roundg (T - (kk + 1))
              case measure => omega
              case rel => exact ⟨kk + 1, 2, by omega, by omega, rfl, by go_num, HQ, (show Hid _ from fun _ => by trivial), rfl⟩
          · have hltz : ¬ (kk : Int) < (T : Int) := by omega
            have hE0 : E = 0 := by
              rcases HST.out with h | h
              · rw [← h.2, List.drop_eq_nil_of_le (by simp [nwL, HN.out, HT.out]; omega)]; rfl
              · exact absurd rfl h.1
            subst hE0
            clear HST
            go_wp2
            go_meet
            case rel => exact ⟨rfl, rfl⟩
        · have hE1 : e = E := by
            rcases HST.out with h | h
            · exact absurd h.1 he
            · exact h.2
          subst hE1
          have heb : (e == 0) = false := by simpa using he
          clear HST HTN
          by_cases hlt : (kk : Int) < (N : Int)
          · go_wp2
            go_meet
            case rel => exact ⟨rfl, rfl⟩
          · go_wp2
            go_meet
            case rel => exact ⟨rfl, rfl⟩
    case rest =>
      rename World => wb
      obtain ⟨rfl, hwb⟩ := hcut
      subst hwb
      clear HST0 HZT
      by_cases hE0 : E = 0
      · skip
        subst hE0
        have hTN : T = N := by
          have := (nw_at HEE.out).1
          rw [HN.out, HT.out] at this
          exact this
        subst hTN
        have hT6 : T ≤ 6 := by
          have h := HEE.out
          unfold nwE at h
          rw [HN.out, HT.out, if_neg (fun e => e rfl)] at h
          by_cases h6 : 6 < T
          · rw [if_pos h6] at h; omega
          · omega
        have c1 := new_c ap ac xs tp tc ts w HA.out.env HA.out.ags HA.out.tys HA.out.xl HA.out.tl HEE.out
        rw [HN.out, HT.out] at c1
        have C2 : Aside (∀ W, Below w.heap.size w W → Calls Tryd.prog 7 #[.nilIface, .int .i64 0] W fun e w' => e = .returned (.bool true) ∧ Below W.heap.size W w') := fun W hW => told_any 0 W (HA.out.et.on hW)
        have c3 := fun W (hW : Below w.heap.size w W) => new_c ap ac xs tp tc ts W (HA.out.env.on hW) (HA.out.ags.on hW) (HA.out.tys.on hW) HA.out.xl HA.out.tl HEE.out
        rw [HN.out, HT.out] at c3
        have C3 := (show Aside _ from c3)
        clear c3
        go_wp2_with fail
        refine c1.mono ?_
        rintro e W1 ⟨a, av, rfl, A1, L1, B1⟩
        have c2 := C2.out _ B1
        clear c1 C2
        go_wp2_with fail
        refine c2.mono ?_
        rintro e W2 ⟨rfl, B2⟩
        have B12 : Below w.heap.size w W2 := B1.trans (B2.mono B1.size)
        have c3 := C3.out _ B12
        clear c2 C3
        go_wp2_with fail
        refine c3.mono ?_
        rintro e W3 ⟨b, bv, rfl, A3, L3, B3⟩
        obtain ⟨A, V, rfl, rfl, HTL⟩ := tl_start (rws := rws) cut A1 L1 B1 B2 A3 L3 B3
        clear c3 A1 L1 B1 B2 A3 L3 B3 B12
        obtain ⟨M, hM⟩ : ∃ M, min RN 60 = M := ⟨_, rfl⟩
        have hM60 : M ≤ 60 := by omega
        have hMT : M ≤ RN := by omega
        have HMX : Hid (∀ k : Nat, k < M ↔ k < RN ∧ k < 60) := fun k => by omega
        clear hM
        generalize W3.heap.size = B at *
        go_upto_block 2 with fail
        go_cut [9, 14, 16, 17, 18, 19] (fun _ _ s16 _ _ _ wx => ∃ (q : Option Addr) (n c kk : Nat), kk ≤ 60 ∧ s16 = .slice q n c ∧ Aside (TlSt w rws (nwP xs ts) A V B cut [] q n c kk wx))
        case first => as_aux_lemma =>
          go_wp2_with fail
          go_loopg [16, 17] M (fun gg s16 s17 wr => ∃ (kk : Nat) (q : Option Addr) (n c : Nat), kk ≤ M ∧ M - kk ≤ gg ∧ s16 = .slice q n c ∧ s17 = .int .i64 kk ∧ Aside (TlSt w rws (nwP xs ts) A V B cut [] q n c kk wr))
          case atStart => exact ⟨0, none, 0, 0, Nat.zero_le _, by omega, rfl, rfl, HTL⟩
          case round =>
            obtain ⟨ii, q, n, c, hii, hgi, rfl, rfl, SR⟩ := hrel
            clear HTL
            have hdec := HMX.out ii
            by_cases hlt : ii < M
            · obtain ⟨h1, h2⟩ := hdec.1 hlt
              have hltz : (ii : Int) < (RN : Int) := by omega
              have h60z : (ii : Int) < 60 := by omega
              have hi0 : (0 : Int) ≤ (ii : Int) := by omega
              have hir : ii < rws.length := by rw [HRN.out]; exact h1
              obtain ⟨rb, ro, rfl, hrb, hrw⟩ := HA.out.rows.resolve_left (by omega)
              obtain ⟨rq, rcc, r0, r1, r2⟩ := hrw ii hir
              have HRV : Aside (RowV w (.slice rq rws[ii].length rcc) rws[ii]) := (show Aside _ from ⟨rq, rcc, rfl, r1, r2⟩)
              have x0 : wr.cell? ⟨rb, ro + ii, none⟩ = some (.slice rq rws[ii].length rcc) := by rw [SR.out.below.cell (p := ⟨rb, _, none⟩) hrb]; exact r0
              have HSZ : Aside (SizedV rws[ii] ∧ rws[ii].length ≤ maxLen) := HA.out.sz _ (List.getElem_mem hir)
              have HMEM : Aside (rws[ii] ∈ rws) := List.getElem_mem hir
              have hLm : (rws[ii].length : Int) ≤ 9223372036854775807 := by have := HSZ.out.2; unfold maxLen at this; omega
              clear hrw r0 r1 r2 hdec
              generalize rws[ii] = r at *
              obtain ⟨L, hL⟩ : ∃ L, r.length = L := ⟨_, rfl⟩
              have HL : Hid (r.length = L) := hL
              rw [hL] at HRV x0 hLm
              clear hL
              obtain ⟨E, hE⟩ : ∃ E, adE (nwP xs ts) r = E := ⟨_, rfl⟩
              have HAE : Hid (adE (nwP xs ts) r = E) := hE
              clear hE
              have BWR : Aside (Below w.heap.size w wr) := SR.out.below
              obtain ⟨Y, hY⟩ : ∃ Y : Int, (if L ≠ T then 3 else 0) = Y := ⟨_, rfl⟩
              have HY : Hid ((if L ≠ T then 3 else 0) = Y) := hY
              have HYL : Hid (Y = 0 → L = T) := fun h => by
                by_cases e : L = T
                · exact e
                · rw [if_pos e] at hY; omega
              have HSTY : Hid (AdR xs ts r 0 Y E) := by
                have h := HAE.out
                have hpl : (nwP xs ts).length = T := by simp [nwP, HN.out, HT.out]
                rw [adE, HL.out, hpl] at h
                by_cases e : L = T
                · rw [if_neg (fun h => h e)] at h hY
                  exact (show Hid _ from .inl ⟨hY.symm, h⟩)
                · rw [if_pos e] at h hY
                  exact (show Hid _ from .inr ⟨by omega, by omega⟩)
              clear hY
              go_upto_if 127 with fail
              go_cut [9] from 109 to 183 (fun s9 wx => s9 = .int .i64 Y ∧ wr = wx)
              case first => as_aux_lemma =>
                by_cases hLN : L = T
                · have qLN : ((L : Int) != (T : Int)) = false := by simp; omega
                  have hy : Y = 0 := by rw [← HY.out, if_neg (fun h => h hLN)]
                  subst hy
                  clear hLN
                  go_wp2
                  go_meet
                  case rel => exact ⟨rfl, rfl⟩
                · have qLN : ((L : Int) != (T : Int)) = true := by simp; omega
                  have hy : Y = 3 := by rw [← HY.out, if_pos hLN]
                  subst hy
                  clear hLN
                  go_wp2
                  go_meet
                  case rel => exact ⟨rfl, rfl⟩
              case rest =>
                rename World => wb
                obtain ⟨rfl, hwb⟩ := hcut
                subst hwb
                clear HY x0
                go_upto_block 4 with fail
                go_cut [9, 19] from 109 to 183 (fun s9 _ wx => s9 = .int .i64 E ∧ Aside (Below wr.heap.size wr wx))
                case first => as_aux_lemma =>
                  go_wp2_with fail
                  go_loopg [9, 19] L (fun gg s9 s19 wz => ∃ (jj : Nat) (e : Int), jj ≤ L ∧ L - jj ≤ gg ∧ s9 = .int .i64 e ∧ s19 = .int .i64 jj ∧ Hid (AdR xs ts r jj e E) ∧ Hid (e = 0 → L = T) ∧ Aside (Below wr.heap.size wr wz))
                  case atStart => exact ⟨0, Y, Nat.zero_le _, by omega, rfl, rfl, HSTY, HYL, (show Aside _ from Below.refl _ _)⟩
                  case round =>
                    rename World => wx
                    obtain ⟨jj, e, hjj, hgj, rfl, rfl, HST, HYR, BZ⟩ := hrel
                    clear HSTY HYL
                    by_cases he : e = 0
                    · subst he
                      have hLT : L = T := HYR.out rfl
                      by_cases hltj : jj < L
                      · have hjz : (jj : Int) < (L : Int) := by omega
                        have hj0 : (0 : Int) ≤ (jj : Int) := by omega
                        have hjT : (jj : Int) < (T : Int) := by omega
                        have hjx : jj < xs.length := by rw [HN.out]; omega
                        have hjt : jj < ts.length := by rw [HT.out]; omega
                        have hjr : jj < r.length := by rw [HL.out]; exact hltj
                        obtain ⟨ab, ao, rfl, hal, hagc⟩ := HA.out.ags.resolve_left (by omega)
                        obtain ⟨tb, to_, rfl, htb, htg⟩ := HA.out.tys.resolve_left (by omega)
                        obtain ⟨op, nm, vt, vn, vs', gp, gn, gc, pos, name, hr⟩ := hagc jj hjx
                        have BWZ : Aside (Below w.heap.size w wx) := BWR.out.trans (BZ.out.mono BWR.out.size)
                        have x1 : wx.cell? ⟨ab, ao + jj * 9, none⟩ = some (.string xs[jj]) := by rw [BWZ.out.cell (p := ⟨ab, _, none⟩) hal]; exact hr 0 _ rfl
                        have t1 : wx.cell? ⟨tb, to_ + jj, none⟩ = some (.int .i64 ts[jj]) := by rw [BWZ.out.cell (p := ⟨tb, _, none⟩) htb]; exact htg jj hjt
                        obtain ⟨rq0, rc0, eq0, rv1, rv2⟩ := HRV.out
                        injection eq0 with eq1 eq2 eq3
                        subst eq1 eq3
                        clear eq2
                        obtain ⟨g, o, rfl, hgl, hgc⟩ := (rv1.on BWZ.out).resolve_left (by rw [HL.out]; omega)
                        obtain ⟨v0, v1, v2⟩ := hgc jj hjr
                        have hfe : fstE ((List.zipWith ckPt (nwP xs ts) r).drop jj) = E := by
                          rcases HST.out with h | h
                          · exact h.2
                          · exact absurd rfl h.1
                        rw [ad_at HEE.out hjx hjt hjr] at hfe
                        have hvs := (HSZ.out.1 _ (List.getElem_mem hjr)).1
                        have HFE := (show Hid _ from hfe)
                        clear hr hagc htg hgc hfe HST rv1 rv2
                        generalize xs[jj] = x at *
                        generalize ts[jj] = t at *
                        generalize r[jj] = y at *
                        obtain ⟨yt, yn, ys⟩ := y
                        simp only at v0 v1 v2 hvs
                        have y3 : wx.rangeAt g (o + jj * 3) [.int .i64 yt, .int .i64 yn, .string ys] := by
                          intro i v hi
                          match i, hi with
                          | 0, hi => simp at hi; subst hi; exact v0
                          | 1, hi => simp at hi; subst hi; exact v1
                          | 2, hi => simp at hi; subst hi; exact v2
                          | i + 3, hi => simp at hi
                        have nxt : ∀ k, ck1 x t (yt, yn, ys) = k → Hid (AdR xs ts r (jj + 1) k E) := fun k hk => by
                          have h := HFE.out
                          rw [hk] at h
                          by_cases h0 : k = 0
                          · rw [if_neg (fun h => h h0)] at h; exact (show Hid _ from .inl ⟨h0, h⟩)
                          · rw [if_pos h0] at h; exact (show Hid _ from .inr ⟨h0, h⟩)
                        clear HFE hLT hjx hjt hjr
                        by_cases hco : x.data.toList = wCount
                        · have HQ := nxt 0 (by rw [ck1, if_pos hco])
                          have k1 := str_t (x := x) (l := [99, 111, 117, 110, 116]) hco
                          clear nxt v0 v1 v2 y3 hco
                          go_wp2
                          go_roundg (L - (jj + 1))
                          case measure => omega
                          case rel => exact ⟨jj + 1, 0, by omega, by omega, rfl, by go_num, HQ, (show Hid _ from fun _ => HYR.out trivial), BZ⟩
                        · skip
                          have k1 := str_f (x := x) (l := [99, 111, 117, 110, 116]) hco
                          obtain ⟨C, hC⟩ : ∃ C, chk yt yn ys.data.toList = C := ⟨_, rfl⟩
                          have cV := refVal_any yt yn ys wx hvs
                          have htx : tb < wx.heap.size := by have := BWZ.out.size; omega
                          rw [hC] at cV
                          have nxt2 : ∀ k, (if C ≠ 0 then C else if yt ≠ t then 8 else 0) = k → Hid (AdR xs ts r (jj + 1) k E) := fun k hk => nxt k (by rw [ck1, if_neg hco, hC]; exact hk)
                          have HNX := (show Aside (∀ k, (if C ≠ 0 then C else if yt ≠ t then 8 else 0) = k → Hid (AdR xs ts r (jj + 1) k E)) from nxt2)
                          clear nxt nxt2 hC hco v1 v2 hvs
                          go_wp2_with (refine wpList_load_mid rfl 26 _ rfl g (o + jj * 3) rfl _ _ y3 Tryd.underlying26 rfl size_valB ?_)
                          refine cV.mono ?_
                          rintro e' X1 ⟨rfl, B5⟩
                          have u0 : X1.cell? ⟨g, o + jj * 3, none⟩ = some (.int .i64 yt) := by rw [B5.cell (p := ⟨g, _, none⟩) hgl]; exact v0
                          have u1 : X1.cell? ⟨tb, to_ + jj, none⟩ = some (.int .i64 t) := by rw [B5.cell (p := ⟨tb, _, none⟩) htx]; exact t1
                          have BZ1 : Aside (Below wr.heap.size wr X1) := BZ.out.trans (B5.mono BZ.out.size)
                          clear cV y3 v0 t1 x1 B5 BZ BWZ
                          by_cases hc0 : C = 0
                          · subst hc0
                            by_cases hyt : yt = t
                            · subst hyt
                              have HQ := HNX.out 0 (by simp)
                              have qy : (yt != yt) = false := by simp
                              clear HNX
                              go_wp2
                              go_quiet (fail)
                              go_wp2
                              go_roundg (L - (jj + 1))
                              case measure => omega
                              case rel => exact ⟨jj + 1, 0, by omega, by omega, rfl, by go_num, HQ, (show Hid _ from fun _ => HYR.out trivial), (show Aside _ from below_drewN BZ1.out _)⟩
                            · have qy : (yt != t) = true := by simpa using hyt
                              have HQ := HNX.out 8 (by simp [hyt])
                              clear HNX
                              go_wp2
                              go_quiet (fail)
                              go_wp2
                              go_roundg (L - (jj + 1))
                              case measure => omega
                              case rel => exact ⟨jj + 1, 8, by omega, by omega, rfl, by go_num, HQ, (show Hid _ from fun h => absurd h (by decide)), (show Aside _ from below_drewN BZ1.out _)⟩
                          · have qc : (C == 0) = false := by simpa using hc0
                            have HQ := HNX.out C (by simp [hc0])
                            clear HNX
                            go_wp2
                            go_quiet (fail)
                            go_wp2
                            go_roundg (L - (jj + 1))
                            case measure => omega
                            case rel => exact ⟨jj + 1, C, by omega, by omega, rfl, by go_num, HQ, (show Hid _ from fun h => absurd h hc0), (show Aside _ from below_drewN BZ1.out _)⟩
                      · have hjz : ¬ (jj : Int) < (L : Int) := by omega
                        have hE0 : E = 0 := by
                          rcases HST.out with h | h
                          · rw [← h.2, List.drop_eq_nil_of_le (by rw [List.length_zipWith, HL.out]; omega)]; rfl
                          · exact absurd rfl h.1
                        subst hE0
                        clear HST hLT
                        go_wp2
                        go_meet
                        case rel => exact ⟨rfl, BZ⟩
                    · have hE1 : e = E := by
                        rcases HST.out with h | h
                        · exact absurd h.1 he
                        · exact h.2
                      subst hE1
                      have heb : (e == 0) = false := by simpa using he
                      clear HST HYR
                      by_cases hjz : (jj : Int) < (L : Int)
                      · go_wp2
                        go_meet
                        case rel => exact ⟨rfl, BZ⟩
                      · go_wp2
                        go_meet
                        case rel => exact ⟨rfl, BZ⟩
                case rest =>
                  rename World => wc
                  obtain ⟨rfl, BZ⟩ := hcut
                  clear HSTY HYL
                  have SZ : Aside (TlSt w rws (nwP xs ts) A V B cut [] q n c ii wc) := SR.out.on BZ.out
                  clear SR BZ BWR
                  go_upto_if 165 with fail
                  go_cut [14] from 109 to 183 (fun s14 wx => s14 = .bool true ∧ Aside (TlSt w rws (nwP xs ts) A V B cut (if E = 0 then [r] else []) q n c (ii + 1) wx))
                  case first => as_aux_lemma =>
                    by_cases hic : (ii : Int) < cut
                    · skip
                      have d1 := tl_add SZ.out h2 r HMEM.out rq rcc (by rw [HL.out]; exact HRV.out) HSZ.out.1 HSZ.out.2 0 (.inl ⟨hic, rfl⟩)
                      rw [HL.out, HAE.out] at d1
                      have D2 : Aside (∀ W, Below w.heap.size w W → Calls Tryd.prog 7 #[errV E, .int .i64 E] W fun e w' => e = .returned (.bool true) ∧ Below W.heap.size W w') := fun W hW => told_any E W (HA.out.et.on hW)
                      clear HAE HSZ HRV SZ
                      generalize errV E = EV at *
                      go_wp2_with fail
                      refine d1.mono ?_
                      rintro e' W5 ⟨rfl, S5⟩
                      have d2 := D2.out _ S5.out.below
                      clear d1 D2
                      go_wp2_with fail
                      refine d2.mono ?_
                      rintro e' W6 ⟨rfl, B6⟩
                      clear d2
                      go_wp2
                      go_meet
                      case rel => exact ⟨rfl, (show Aside _ from S5.out.on B6)⟩
                    · skip
                      have d1 := tl_add SZ.out h2 r HMEM.out rq rcc (by rw [HL.out]; exact HRV.out) HSZ.out.1 HSZ.out.2 1 (.inr ⟨hic, rfl⟩)
                      rw [HL.out, HAE.out] at d1
                      have D2 : Aside (∀ W, Below w.heap.size w W → Calls Tryd.prog 7 #[errV E, .int .i64 E] W fun e w' => e = .returned (.bool true) ∧ Below W.heap.size W w') := fun W hW => told_any E W (HA.out.et.on hW)
                      clear HAE HSZ HRV SZ
                      generalize errV E = EV at *
                      go_wp2_with fail
                      refine d1.mono ?_
                      rintro e' W5 ⟨rfl, S5⟩
                      have d2 := D2.out _ S5.out.below
                      clear d1 D2
                      go_wp2_with fail
                      refine d2.mono ?_
                      rintro e' W6 ⟨rfl, B6⟩
                      clear d2
                      go_wp2
                      go_meet
                      case rel => exact ⟨rfl, (show Aside _ from S5.out.on B6)⟩
                  case rest =>
                    rename World => wd
                    obtain ⟨rfl, S6⟩ := hcut
                    clear SZ HAE HSZ HMEM
                    by_cases hE0 : E = 0
                    · subst hE0
                      obtain ⟨cs, o1, o2, o3, o4⟩ := tl_own (r := r) (show TlSt w rws (nwP xs ts) A V B cut [r] q n c (ii + 1) wd from S6.out)
                      have O4 := (show Aside _ from o4 _ HRV.out)
                      have O1 := (show Aside _ from o1)
                      clear S6 o1 o4
                      go_wp2_with (refine wpList_append_row rfl _ _ rfl B (.slice q n c) n cs rfl (lown_below O1.out (alB wd _)) wd.heap.size 1 rq L rcc rfl (news1 rfl _) (by omega) (by simp; omega) ?_; intro q' c' W7 p1 g1)
                      have S7 : Aside (TlSt w rws (nwP xs ts) A V B cut [] q' (n + 1) c' (ii + 1) W7) := O4.out _ (alB wd _) _ _ _ p1 g1
                      clear O4 O1 p1 g1
                      go_wp2
                      go_roundg (M - (ii + 1))
                      case measure => omega
                      case rel => exact ⟨ii + 1, q', n + 1, c', by omega, by omega, rfl, by go_num, S7⟩
                    · have hEb : (E == 0) = false := by simpa using hE0
                      have S7 : Aside (TlSt w rws (nwP xs ts) A V B cut [] q n c (ii + 1) wd) := by
                        have := S6.out
                        rw [if_neg hE0] at this
                        exact (show Aside _ from this)
                      clear S6
                      go_wp2
                      go_roundg (M - (ii + 1))
                      case measure => omega
                      case rel => exact ⟨ii + 1, q, n, c, by omega, by omega, rfl, by go_num, S7⟩
            · clear hdec
              have hn60 : ii ≤ 60 := by omega
              by_cases hr : ii < RN
              · have hltz : (ii : Int) < (RN : Int) := by omega
                have h60z : ¬ (ii : Int) < 60 := fun h => hlt ((HMX.out ii).2 ⟨hr, by omega⟩)
                go_wp2
                go_meet
                case rel => exact ⟨q, n, c, ii, hn60, rfl, SR⟩
              · have hltz : ¬ (ii : Int) < (RN : Int) := by omega
                go_wp2
                go_meet
                case rel => exact ⟨q, n, c, ii, hn60, rfl, SR⟩
        case rest => as_aux_lemma =>
          rename World => wc
          obtain ⟨q, n, c, kk, hk60, rfl, SR⟩ := hcut
          clear HTL HMX
          obtain ⟨gs, hgn, cJ⟩ := tl_join SR.out hk60
          have hn60 : n ≤ 60 ∨ 60 < n := by omega
          clear SR hn60
          go_wp2_with fail
          refine cJ.mono ?_
          rintro e X1 ⟨rfl, J1⟩
          clear cJ
          have hVL : (totV xs gs).length = T := by simp [totV, totL, HN.out]
          by_cases hT0 : totE xs gs = 0
          · have c2 := tl_total HA.out HEE.out J1.out ac c (fun e W => ∃ q' c', e = .returned (.tuple #[.slice q' xs.length c', .int .i64 0]) ∧ Aside (ValsAt W q' (totV xs gs)) ∧ Aside (JnSt w rws (nwP xs ts) (A 0) (V 0) q gs W)) (fun _ q' c' W' h1 h2 => ⟨q', c', rfl, (show Aside _ from h1), (show Aside _ from J1.out.on h2)⟩) (fun E h h0 => absurd (h.symm.trans hT0) h0)
            rw [HN.out, hgn] at c2
            clear J1
            go_wp2_with fail
            refine c2.mono ?_
            rintro e X2 ⟨q2, d2, rfl, V2, J2⟩
            have c3 := (tl_result HEE.out J2.out).1 hT0
            rw [HN.out] at c3
            clear c2
            go_wp2_with fail
            refine c3.mono ?_
            rintro e X3 ⟨⟨q3, d3, rfl, V3⟩, K3⟩
            have c4 := told_any 0 X3 (HA.out.et.on (J2.out.on K3.out).old)
            rw [show errV 0 = Value.nilIface from rfl] at c4
            clear c3
            go_wp2_with fail
            refine c4.mono ?_
            rintro e X4 ⟨rfl, K4⟩
            have c5 := valsEq_c q3 q2 d3 d2 (totV xs gs) X4 (by rw [hVL]; omega) (V3.out.on K4) ((V2.out.on K3.out).on K4)
            rw [hVL] at c5
            clear c4 V2 V3
            go_wp2_with fail
            refine c5.mono ?_
            rintro e X5 ⟨rfl, K5⟩
            clear c5
            have J5 : Aside (JnSt w rws (nwP xs ts) (A 0) (V 0) q gs X5) := ((J2.out.on K3.out).on K4).on K5.out
            have c6 := count_c (A 0) (V 0) _ gs X5 J5.out.acc
            rw [hgn] at c6
            clear J2 K3 K4 K5
            go_wp2_with (go_at_call 14; refine c6.mono ?_; rintro e w6 ⟨rfl, h6⟩; subst h6)
            go_ret
            exact ⟨rfl, (show Aside _ from J5.out.old)⟩
          · obtain ⟨E, hE⟩ : ∃ E, totE xs gs = E := ⟨_, rfl⟩
            have hE0 : E ≠ 0 := fun h => hT0 (hE.trans h)
            have c2 := tl_total HA.out HEE.out J1.out ac c (fun e W => e = .returned (.tuple #[.slice none 0 0, .int .i64 E]) ∧ Aside (JnSt w rws (nwP xs ts) (A 0) (V 0) q gs W)) (fun h => absurd h hT0) (fun E' h h0 W' h2 => by
              obtain rfl : E = E' := hE.symm.trans h
              exact ⟨rfl, (show Aside _ from J1.out.on h2)⟩)
            rw [HN.out, hgn] at c2
            clear J1 hT0
            go_wp2_with fail
            refine c2.mono ?_
            rintro e X2 ⟨rfl, J2⟩
            have c3 := (tl_result HEE.out J2.out).2 E hE hE0
            clear c2
            go_wp2_with fail
            refine c3.mono ?_
            rintro e X3 ⟨rfl, K3⟩
            have c4 := told_any E X3 (HA.out.et.on (J2.out.on K3.out).old)
            rw [errV, if_neg hE0] at c4
            clear c3
            go_wp2_with fail
            refine c4.mono ?_
            rintro e X4 ⟨rfl, K4⟩
            have c5 := valsEq_c none none 0 0 [] X4 (Nat.zero_le _) (.inl rfl) (.inl rfl)
            rw [show ([] : List V3).length = 0 from rfl] at c5
            clear c4
            go_wp2_with fail
            refine c5.mono ?_
            rintro e X5 ⟨rfl, K5⟩
            clear c5
            have J5 : Aside (JnSt w rws (nwP xs ts) (A 0) (V 0) q gs X5) := ((J2.out.on K3.out).on K4).on K5.out
            have c6 := count_c (A 0) (V 0) _ gs X5 J5.out.acc
            rw [hgn] at c6
            clear J2 K3 K4 K5
            go_wp2_with (go_at_call 14; refine c6.mono ?_; rintro e w6 ⟨rfl, h6⟩; subst h6)
            go_ret
            exact ⟨rfl, (show Aside _ from J5.out.old)⟩
      · skip
        have n1 := fun W hW => new_told (ac := ac) (tc := tc) HA.out E HEE.out hE0 W hW
        have n2 := fun W hW => err_told HA.out.et E hE0 W hW
        rw [HN.out, HT.out] at n1
        have hEz : ¬ E = 0 := hE0
        have hEb : (E != 0) = true := by simpa using hEz
        have BWW : Aside (Below w.heap.size w w) := (show Aside _ from Below.refl _ _)
        clear HEE
        go_wp2_with fail
        refine (n1 _ BWW.out).mono ?_
        rintro e W1 ⟨rfl, B1⟩
        clear n1
        go_wp2_with fail
        refine (n2 _ B1.out).mono ?_
        rintro e W2 ⟨rfl, B2⟩
        clear n2
        go_wp2
        go_ret
        exact ⟨rfl, B2⟩
end Go.Proofs.YtckonjacccfmmaaDoor
