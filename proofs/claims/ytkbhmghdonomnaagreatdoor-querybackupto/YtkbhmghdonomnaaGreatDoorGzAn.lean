/-
  TreeWs, KdPf, TreeSg, TreeSz, RefNd, TreePr, in one text.
-/
import Derived.Test.YtkbhmghdonomnaaGreatDoorGzAm
import Derived.Test.YtkbhmghdonomnaaGreatDoorGzAj
import Derived.Test.YtkbhmghdonomnaaGreatDoorGzAk
import Derived.Lib.ItoaLen
import Derived.Test.YtkbhmghdonomnaaGreatDoorGzAd
import Derived.WalkSmall
namespace Go.Proofs.YtkbhmghdonomnaaGreatDoor
open Go.RowKit Go.BigFrame
set_option linter.unusedVariables false
def inI (n : Int) : Prop := -9223372036854775808 ≤ n ∧ n ≤ 9223372036854775807
theorem apL_len (x : List UInt8) : (apL x opsL).2 = true → x.length ≤ 3 := by
 have h : ∀ l : List (List UInt8 × Int), (∀ o ∈ l, o.1.length ≤ 3) → (apL x l).2 = true → x.length ≤ 3 := fun l => by
  induction l with
  | nil => intro _ h; simp [apL] at h
  | cons o os ih =>
   intro ho h
   rw [apL] at h
   split at h
   ·rename_i e
    rw [← e]; exact ho o (by simp)
   ·exact ih (fun o h => ho o (by simp [h])) h
 exact h opsL (by decide)
theorem head_of {l : List Ex} (h : l.length = 1) : ∃ y, l = [y] := by
 match l, h with
 | [y], _ => exact ⟨y, rfl⟩
theorem nameT_len {l : List UInt8} (h : nameT l = true) : l.length ≤ 8 := by
 simp only [nameT, lettersB, Bool.and_eq_true, decide_eq_true_eq] at h
 omega
theorem name_len {op nm vs : ByteArray} {vt vn pos : Int} {l : List Ex} (h : nodeE (.node op nm vt vn vs pos l) = 0) (hc : op.data.toList = [99, 111, 108]) : nm.data.toList.length ≤ 90 := by
 have h1 : nodeE (.node op nm vt vn vs pos l) = nodeB (apL op.data.toList opsL).2 (op.toList == [99, 111, 108]) (nameT nm.data.toList) ((l.length : Int) != (apL op.data.toList opsL).1) (!(nm.toList == [])) (op.toList == [118, 97, 108]) (!((vt == 0) && ((vn == 0) && (vs.toList == [])))) (ckV vt vn vs.data.toList) := rfl
 rw [h1, nodeB] at h
 have hb : (op.toList == [99, 111, 108]) = true := by rw [Lib.toList_data]; simpa using hc
 rw [hb] at h
 cases hn : nameT nm.data.toList
 ·rw [hn, if_pos (by simp)] at h
  exact absurd h (by decide)
 ·have := nameT_len hn
  omega
theorem inter_len (bt : List UInt8) : ∀ ts : List (List UInt8), (inter bt ts).length ≤ (ts.map List.length).sum + bt.length * ts.length
 | [] => by simp [inter]
 | [t] => by simp [inter]
 | t :: u :: ts => by
  have ih := inter_len bt (u :: ts)
  simp only [inter, List.length_append, List.map_cons, List.sum_cons, List.length_cons, Nat.mul_add, Nat.mul_one] at ih ⊢
  omega
theorem pres_sum (d : Nat) : ∀ l : List Ex, (Ex.pres d l).length = (l.map fun y => (y.pre d).length).sum
 | [] => by rw [Ex.pres]; rfl
 | x :: xs => by rw [Ex.pres, List.length_append, pres_sum d xs]; rfl
theorem sum_le {l : List Ex} {f g : Ex → Nat} (h : ∀ y ∈ l, f y ≤ 100 * g y) : (l.map f).sum ≤ 100 * (l.map g).sum := by
 induction l with
 | nil => simp
 | cons x xs ih =>
  have h1 := h x (by simp)
  have h2 := ih (fun y hy => h y (by simp [hy]))
  simp only [List.map_cons, List.sum_cons]
  omega
theorem prS_len {t n : Int} {l : List UInt8} (hn : inI n) : (prS t n l).length ≤ 90 := by
 rw [prS]
 split
 ·rename_i h
  rcases chk_type h with ⟨rfl, _⟩ | ⟨rfl, _, hb⟩ | ⟨rfl, rfl, hl, _⟩
  ·rw [shown, if_pos rfl]
   have := Lib.itoa_length_le n hn.1 hn.2
   omega
  ·rw [shown, if_neg (by decide), if_pos rfl]
   split <;> decide
  ·rw [shown, if_neg (by decide), if_neg (by decide)]
   have := esc_len l
   simp
   omega
 ·simp
theorem tx_len : ∀ (x : Ex) (d : Nat), (∀ q ∈ x.pre d, nodeE q.1 = 0) → (∀ q ∈ x.pre d, inI q.1.vn) → (txP x).length ≤ 100 * (x.pre d).length := by
 refine Ex.ind fun op nm vt vn vs pos l ih d hpre hin => ?_
 have hself := hpre (.node op nm vt vn vs pos l, d) (by rw [Ex.pre]; exact List.mem_cons_self ..)
 have hvn : inI vn := hin (.node op nm vt vn vs pos l, d) (by rw [Ex.pre]; exact List.mem_cons_self ..)
 have hsub : ∀ y ∈ l, ∀ q ∈ y.pre (d + 1), q ∈ (Ex.node op nm vt vn vs pos l).pre d := fun y hy q hq => by
  rw [Ex.pre]; exact List.mem_cons_of_mem _ (pres_mem hy q hq)
 have hI : ∀ y ∈ l, (txP y).length ≤ 100 * (y.pre (d + 1)).length := fun y hy => ih y hy (d + 1) (fun q hq => hpre q (hsub y hy q hq)) (fun q hq => hin q (hsub y hy q hq))
 obtain ⟨ha1, ha2, _⟩ := node_ok hself
 have ha2' : (l.length : Int) = (apL op.data.toList opsL).1 := ha2
 have ha1' : (apL op.data.toList opsL).2 = true := ha1
 have hol := apL_len _ ha1'
 have hl3 : l.length ≤ 3 := by have := (apL_le _ ha1').1; omega
 have hsum := sum_le hI
 have hp : ((Ex.node op nm vt vn vs pos l).pre d).length = 1 + (Ex.pres (d + 1) l).length := by rw [Ex.pre, List.length_cons]; omega
 rw [pres_sum] at hp
 rw [hp]
 have hinter : ∀ bt : List UInt8, bt.length ≤ 5 → (inter bt (l.map txP)).length ≤ 15 + 100 * (l.map fun y => (y.pre (d + 1)).length).sum := fun bt hb => by
  have h := inter_len bt (l.map txP)
  rw [List.map_map, List.length_map] at h
  have h2 : (List.map (List.length ∘ txP) l).sum ≤ 100 * (l.map fun y => (y.pre (d + 1)).length).sum := hsum
  have h3 : bt.length * l.length ≤ 15 := Nat.le_trans (Nat.mul_le_mul hb hl3) (by decide)
  omega
 have hhead : ((l.map txP).headD []).length ≤ 100 * (l.map fun y => (y.pre (d + 1)).length).sum := by
  cases l with
  | nil => simp
  | cons y ys =>
   have := hI y (by simp)
   simp only [List.map_cons, List.headD_cons, List.sum_cons]
   omega
 rw [txP, txsP_map]
 split
 ·have := prS_len (t := vt) (l := vs.data.toList) hvn; omega
 split
 ·rename_i h2
  have hnm : nm.data.toList.length ≤ 90 := name_len hself h2
  omega
 split
 ·have := hinter [44, 32] (by decide)
  simp only [argsT, List.length_append, List.length_cons, List.length_nil]
  omega
 split
 ·simp only [aheadT, List.length_append, List.length_cons, List.length_nil]
  omega
 split
 ·simp only [aheadT, List.length_append, List.length_cons, List.length_nil]
  omega
 ·have := hinter (32 :: (op.data.toList ++ [32])) (by rw [List.length_cons, List.length_append, List.length_singleton]; omega)
  simp only [argsT, List.length_append, List.length_cons, List.length_nil]
  omega
set_option maxHeartbeats 8000000 in
set_option maxRecDepth 20000 in
theorem write_any : ∀ (x : Ex) (d : Nat), (∀ q ∈ x.pre d, nodeE q.1 = 0) → (∀ q ∈ x.pre d, inI q.1.vn) → WrAt x := by
 refine Ex.ind fun op nm vt vn vs pos l ih d hpre hin => ?_
 intro B b lo v acc w henv hlo hx hb hlen
 have hself := hpre (.node op nm vt vn vs pos l, d) (by rw [Ex.pre]; exact List.mem_cons_self ..)
 have hvn : inI vn := hin (.node op nm vt vn vs pos l, d) (by rw [Ex.pre]; exact List.mem_cons_self ..)
 have hsub : ∀ y ∈ l, ∀ q ∈ y.pre (d + 1), q ∈ (Ex.node op nm vt vn vs pos l).pre d := fun y hy q hq => by
  rw [Ex.pre]; exact List.mem_cons_of_mem _ (pres_mem hy q hq)
 have hI : ∀ y ∈ l, WrAt y := fun y hy => ih y hy (d + 1) (fun q hq => hpre q (hsub y hy q hq)) (fun q hq => hin q (hsub y hy q hq))
 obtain ⟨ha1, ha2, _⟩ := node_ok hself
 have ha2' : (l.length : Int) = (apL op.data.toList opsL).1 := ha2
 have ha1' : (apL op.data.toList opsL).2 = true := ha1
 have hol : op.size ≤ 3 := by have := apL_len _ ha1'; simpa using this
 rw [ExIn] at hx
 obtain ⟨p, ca, rfl, ⟨hm, hmc⟩, ho, hnm, hvs, hparts⟩ := hx
 have hlt := hb.lt
 have KW : Keeps B b w (w.alloc (.cells #[.string op, .string nm, .int .i64 vt, .int .i64 vn, .string vs, .slice p l.length ca, .int .i64 pos] 26)) := Keeps.alloc ⟨Below.refl _ _, Lib.OthersKept.refl _ _ _⟩ (by omega) _
 have K0 : Keeps B b (w.alloc (.cells #[.string op, .string nm, .int .i64 vt, .int .i64 vn, .string vs, .slice p l.length ca, .int .i64 pos] 26)) (w.alloc (.cells #[.string op, .string nm, .int .i64 vt, .int .i64 vn, .string vs, .slice p l.length ca, .int .i64 pos] 26)) := ⟨Below.refl _ _, Lib.OthersKept.refl _ _ _⟩
 have hb0 : IsB B b acc (w.alloc (.cells #[.string op, .string nm, .int .i64 vt, .int .i64 vn, .string vs, .slice p l.length ca, .int .i64 pos] 26)) := hb.on ((Below.refl _ w).alloc (Nat.le_refl _) _)
 have hz0 : B ≤ (w.alloc (.cells #[.string op, .string nm, .int .i64 vt, .int .i64 vn, .string vs, .slice p l.length ca, .int .i64 pos] 26)).heap.size := by simp; omega
 rw [txP] at hlen ⊢
 clear hpre hin hself hsub ih ha1 ha2
 by_cases h1 : op.data.toList = [118, 97, 108]
 ·have q1 : (op.toList == [118, 97, 108]) = true := by rw [Lib.toList_data]; simpa using h1
  rw [if_pos h1] at hlen ⊢
  have cP := fun W hW => print_any vt vn vs W hvs hvn hW
  have hPl : (⟨(prS vt vn vs.data.toList).toArray⟩ : ByteArray).size = (prS vt vn vs.data.toList).length := by simp [ByteArray.size]
  have HP : Hid ((⟨(prS vt vn vs.data.toList).toArray⟩ : ByteArray).data.toList = prS vt vn vs.data.toList) := rfl
  generalize prS vt vn vs.data.toList = X at *
  generalize chk vt vn vs.data.toList = Y at *
  generalize (⟨X.toArray⟩ : ByteArray) = Z at *
  clear hparts hI h1
  go_enter Tryz.func117, Tryz.ntmps117
  go_wp2_with fail
  refine (cP _ (henv _ KW.1)).mono ?_
  rintro e w1 ⟨rfl, b1⟩
  have hb1 := hb0.on b1
  have K1 := KW.trans (keeps_below b1 hz0)
  clear b1 cP
  go_wp2_with fail
  refine (ws B b acc Z _ hb1 (by omega) (by have := hb1.lt; omega)).mono ?_
  rintro e w2 ⟨rfl, hb2, k2w⟩
  rw [HP.out] at hb2
  have K2 := K1.trans k2w
  clear k2w
  go_wp2
  go_end0
  exact ⟨rfl, hb2, K2⟩
 have q1 : (op.toList == [118, 97, 108]) = false := by rw [Lib.toList_data]; simpa using h1
 rw [if_neg h1] at hlen ⊢
 by_cases h2 : op.data.toList = [99, 111, 108]
 ·have q2 : (op.toList == [99, 111, 108]) = true := by rw [Lib.toList_data]; simpa using h2
  rw [if_pos h2] at hlen ⊢
  have hnl : nm.data.toList.length = nm.size := by simp
  clear hparts hI h1 h2
  go_enter Tryz.func117, Tryz.ntmps117
  go_wp2_with fail
  refine (ws B b acc nm _ hb0 (by omega) hz0).mono ?_
  rintro e w2 ⟨rfl, hb2, k2w⟩
  have K2 := KW.trans k2w
  clear k2w
  go_wp2
  go_end0
  exact ⟨rfl, hb2, K2⟩
 have q2 : (op.toList == [99, 111, 108]) = false := by rw [Lib.toList_data]; simpa using h2
 rw [if_neg h2] at hlen ⊢
 rw [txsP_map] at hlen ⊢
 by_cases h34 : op.data.toList = [108, 101, 110] ∨ op.data.toList = [105, 102]
 ·rw [if_pos h34] at hlen ⊢
  have hol2 : op.data.toList.length = op.size := by simp
  rw [List.length_append] at hlen
  have h34b : ((op.toList == [108, 101, 110]) = true) ∨ ((op.toList == [108, 101, 110]) = false ∧ (op.toList == [105, 102]) = true) := by
   rw [Lib.toList_data]
   rcases h34 with h | h
   ·left; simpa using h
   ·right; rw [h]; decide
  have HA : Hid (acc ++ op.data.toList ++ argsT [44, 32] (l.map txP) = acc ++ (op.data.toList ++ argsT [44, 32] (l.map txP))) := List.append_assoc ..
  have cA := fun W (hK : Keeps B b w W) (hbW : IsB B b (acc ++ op.data.toList) W) => writeArgs_any ⟨#[44, 32]⟩ (by decide) l hI hm B b lo p ca (acc ++ op.data.toList) W (fun W' hW' => henv W' (hK.1.trans hW')) hlo (by
   rcases hparts with h | ⟨ba, oa, e, hbl, hlb, hE⟩
   ·exact .inl h
   ·exact .inr ⟨ba, oa, e, by have := hK.1.size; omega, hlb, exsIn_mk W lo ba l oa fun j hj => by
     obtain ⟨v0, v1, v2, v3, v4, v5, v6, e0, e1, e2, e3, e4, e5, e6, hy⟩ := exsIn_at w lo ba l oa hE j hj
     have key : ∀ o : Nat, W.cell? ⟨ba, o, none⟩ = w.cell? ⟨ba, o, none⟩ := fun o => hK.1.cell (p := ⟨ba, o, none⟩) (hlo ba hlb)
     exact ⟨v0, v1, v2, v3, v4, v5, v6, by rw [key]; exact e0, by rw [key]; exact e1, by rw [key]; exact e2, by rw [key]; exact e3, by rw [key]; exact e4, by rw [key]; exact e5, by rw [key]; exact e6, hy.keeps hK hlo⟩⟩) hbW (by simp only [List.length_append]; exact (by omega))
  clear hI h34 h1 h2 hparts
  rcases h34b with q3 | ⟨q3, q4⟩
  all_goals
   go_enter Tryz.func117, Tryz.ntmps117
   go_wp2_with fail
   refine (ws B b acc op _ hb0 (by omega) hz0).mono ?_
   rintro e w2 ⟨rfl, hb2, k2w⟩
   have K2 := K0.trans k2w
   have KK2 := KW.trans k2w
   obtain ⟨hB, hl2⟩ := K2.box hlt.1
   have g5 : w2.cell? ⟨w.heap.size, 5, none⟩ = some (.slice p l.length ca) := hB 5
   have cA2 := cA w2 KK2 hb2
   clear k2w hB K2
   go_wp2_with fail
   refine cA2.mono ?_
   rintro e w3 ⟨rfl, hb3, k3w⟩
   have K3 := KK2.trans k3w
   rw [HA.out] at hb3
   clear k3w cA2 g5
   go_wp2
   go_end0
   exact ⟨rfl, hb3, K3⟩
 rw [if_neg h34] at hlen ⊢
 have h3 : op.data.toList ≠ [108, 101, 110] := fun h => h34 (.inl h)
 have h4 : op.data.toList ≠ [105, 102] := fun h => h34 (.inr h)
 have q3 : (op.toList == [108, 101, 110]) = false := by rw [Lib.toList_data]; simpa using h3
 have q4 : (op.toList == [105, 102]) = false := by rw [Lib.toList_data]; simpa using h4
 by_cases h56 : op.data.toList = [110, 111, 116] ∨ op.data.toList = [110, 101, 103]
 ·have hl1 : l.length = 1 := by
   have h1z : (l.length : Int) = 1 := by
    rcases h56 with h | h <;> rw [h] at ha2' <;> simpa [apL, opsL] using ha2'
   omega
  obtain ⟨y, rfl⟩ := head_of hl1
  rcases hparts with h | ⟨ba, oa, rfl, hbl, hlb, hE⟩
  ·exact absurd h (by simp)
  obtain ⟨v0, v1, v2, v3, v4, v5, v6, e0, e1, e2, e3, e4, e5, e6, hy⟩ := exsIn_at w lo ba [y] oa hE 0 (by simp)
  obtain ⟨o1, n1, t1, k1, s1, p1, m1, c1, a1, huu⟩ := hy.agg
  injection huu with huu
  simp only [Array.mk.injEq, List.cons.injEq, and_true] at huu
  obtain ⟨rfl, rfl, rfl, rfl, rfl, rfl, rfl⟩ := huu
  simp only [Nat.zero_mul, Nat.add_zero, List.getElem_cons_zero] at e0 e1 e2 e3 e4 e5 e6 hy
  have hlen1 : [y].length = 1 := rfl
  simp only [List.map_cons, List.map_nil, List.headD_cons] at hlen ⊢
  have hyw := hI y (by simp)
  have h5or : (op.data.toList = [110, 111, 116]) ∨ (op.data.toList ≠ [110, 111, 116] ∧ op.data.toList = [110, 101, 103]) := by
   rcases h56 with h | h
   ·exact .inl h
   ·exact .inr ⟨by rw [h]; decide, h⟩
  clear hI hE h56
  rcases h5or with h5 | ⟨h5, h6⟩
  ·have q5 : (op.toList == [110, 111, 116]) = true := by rw [Lib.toList_data]; simpa using h5
   rw [if_pos h5] at hlen ⊢
   have cY := writeAhead_any ⟨#[110, 111, 116]⟩ (by decide) y hyw B b lo _ acc _ (fun W hW => henv W (KW.1.trans hW)) hlo (hy.keeps KW hlo) hb0 hlen
   clear h1 h2 h3 h4 h34 h5 ha1' ha2'
   go_enter Tryz.func117, Tryz.ntmps117
   go_wp2_with fail
   refine cY.mono ?_
   rintro e w3 ⟨rfl, hb3, k3w⟩
   have K3 := KW.trans k3w
   clear k3w cY
   go_wp2
   go_end0
   exact ⟨rfl, hb3, K3⟩
  ·have q5 : (op.toList == [110, 111, 116]) = false := by rw [Lib.toList_data]; simpa using h5
   have q6 : (op.toList == [110, 101, 103]) = true := by rw [Lib.toList_data]; simpa using h6
   rw [if_neg h5, if_pos h6] at hlen ⊢
   have cY := writeAhead_any ⟨#[45]⟩ (by decide) y hyw B b lo _ acc _ (fun W hW => henv W (KW.1.trans hW)) hlo (hy.keeps KW hlo) hb0 hlen
   clear h1 h2 h3 h4 h34 h5 h6 ha1' ha2'
   go_enter Tryz.func117, Tryz.ntmps117
   go_wp2_with fail
   refine cY.mono ?_
   rintro e w3 ⟨rfl, hb3, k3w⟩
   have K3 := KW.trans k3w
   clear k3w cY
   go_wp2
   go_end0
   exact ⟨rfl, hb3, K3⟩
 have h5 : op.data.toList ≠ [110, 111, 116] := fun h => h56 (.inl h)
 have h6 : op.data.toList ≠ [110, 101, 103] := fun h => h56 (.inr h)
 have q5 : (op.toList == [110, 111, 116]) = false := by rw [Lib.toList_data]; simpa using h5
 have q6 : (op.toList == [110, 101, 103]) = false := by rw [Lib.toList_data]; simpa using h6
 rw [if_neg h5, if_neg h6] at hlen ⊢
 have hSd : ((⟨#[32]⟩ : ByteArray) ++ op ++ ⟨#[32]⟩).data.toList = 32 :: (op.data.toList ++ [32]) := by simp
 have hSs : ((⟨#[32]⟩ : ByteArray) ++ op ++ ⟨#[32]⟩).size ≤ 30 := by
  rw [ByteArray.size_append, ByteArray.size_append]
  have : (⟨#[32]⟩ : ByteArray).size = 1 := rfl
  omega
 have cA := writeArgs_any ((⟨#[32]⟩ : ByteArray) ++ op ++ ⟨#[32]⟩) hSs l hI hm B b lo p ca acc (w.alloc (.cells #[.string op, .string nm, .int .i64 vt, .int .i64 vn, .string vs, .slice p l.length ca, .int .i64 pos] 26)) (fun W' hW' => henv W' (KW.1.trans hW')) hlo (by
   rcases hparts with h | ⟨ba, oa, e, hbl, hlb, hE⟩
   ·exact .inl h
   ·exact .inr ⟨ba, oa, e, by simp; omega, hlb, exsIn_mk _ lo ba l oa fun j hj => by
     obtain ⟨v0, v1, v2, v3, v4, v5, v6, e0, e1, e2, e3, e4, e5, e6, hy⟩ := exsIn_at w lo ba l oa hE j hj
     have key : ∀ o : Nat, (w.alloc (.cells #[.string op, .string nm, .int .i64 vt, .int .i64 vn, .string vs, .slice p l.length ca, .int .i64 pos] 26)).cell? ⟨ba, o, none⟩ = w.cell? ⟨ba, o, none⟩ := fun o => KW.1.cell (p := ⟨ba, o, none⟩) (hlo ba hlb)
     exact ⟨v0, v1, v2, v3, v4, v5, v6, by rw [key]; exact e0, by rw [key]; exact e1, by rw [key]; exact e2, by rw [key]; exact e3, by rw [key]; exact e4, by rw [key]; exact e5, by rw [key]; exact e6, hy.keeps KW hlo⟩⟩) hb0 (by rw [hSd]; exact hlen)
 rw [hSd] at cA
 clear h1 h2 h3 h4 h34 h5 h6 h56 ha1' ha2' hparts hI hSd
 go_enter Tryz.func117, Tryz.ntmps117
 go_wp2_with fail
 refine cA.mono ?_
 rintro e w3 ⟨rfl, hb3, k3w⟩
 have K3 := KW.trans k3w
 clear k3w cA
 go_wp2
 go_end0
 exact ⟨rfl, hb3, K3⟩

end Go.Proofs.YtkbhmghdonomnaaGreatDoor
namespace Go.Proofs.YtkbhmghdonomnaaGreatDoor
open Go.RowKit
set_option linter.unusedVariables false

def Ex.small (x : Ex) : Bool := decide (x.size ≤ 200) && decide (x.deep ≤ 30)
end Go.Proofs.YtkbhmghdonomnaaGreatDoor
namespace Go.Proofs.YtkbhmghdonomnaaGreatDoor
open Go.RowKit Go.BigFrame
set_option linter.unusedVariables false
theorem size_pre : ∀ (x : Ex) (d : Nat), (x.pre d).length = x.size := by
 refine Ex.ind fun op nm vt vn vs pos l ih d => ?_
 rw [Ex.pre, Ex.size, List.length_cons]
 have : ∀ l : List Ex, (∀ y ∈ l, ∀ d, (y.pre d).length = y.size) → (Ex.pres (d + 1) l).length = Ex.sizes l := fun l => by
  induction l with
  | nil => intro _; rw [Ex.pres, Ex.sizes]; rfl
  | cons y ys ihl =>
   intro h
   rw [Ex.pres, Ex.sizes, List.length_append, h y (by simp), ihl fun z hz => h z (by simp [hz])]
 rw [this l ih]
 omega
theorem deep_pre : ∀ (x : Ex) (d m : Nat), (∀ q ∈ x.pre d, q.2 ≤ m) ↔ d + x.deep ≤ m + 1 := by
 refine Ex.ind fun op nm vt vn vs pos l ih d m => ?_
 have key : ∀ l : List Ex, (∀ y ∈ l, ∀ d m, (∀ q ∈ y.pre d, q.2 ≤ m) ↔ d + y.deep ≤ m + 1) → ((∀ q ∈ Ex.pres (d + 1) l, q.2 ≤ m) ↔ (l = [] ∨ d + 1 + Ex.deeps l ≤ m + 1)) := fun l => by
  induction l with
  | nil => intro _; rw [Ex.pres]; simp
  | cons y ys ihl =>
   intro h
   have i2 := ihl fun z hz => h z (by simp [hz])
   have hy := h y (by simp) (d + 1) m
   rw [Ex.pres, Ex.deeps]
   simp only [List.mem_append]
   constructor
   ·intro hq
    have a1 := hy.1 fun q hq2 => hq q (.inl hq2)
    have a2 := i2.1 fun q hq2 => hq q (.inr hq2)
    right
    rcases a2 with rfl | a2
    ·rw [Ex.deeps]; omega
    ·omega
   ·intro hq q hq2
    have hq3 : d + 1 + max y.deep (Ex.deeps ys) ≤ m + 1 := by simpa using hq
    rcases hq2 with hq2 | hq2
    ·exact hy.2 (by omega) q hq2
    ·exact i2.2 (.inr (by omega)) q hq2
 rw [Ex.pre, Ex.deep]
 have k := key l ih
 constructor
 ·intro h
  have h0 := h _ (List.mem_cons_self ..)
  simp only at h0
  have h1 := k.1 fun q hq => h q (List.mem_cons_of_mem _ hq)
  rcases h1 with rfl | h1
  ·rw [Ex.deeps]; omega
  ·omega
 ·intro h q hq
  rcases List.mem_cons.1 hq with rfl | hq
  ·simp only; omega
  ·exact k.2 (.inr (by omega)) q hq
theorem tg_small (x : Ex) : tgB x = !x.small := by
 have h := fold_tg (x.pre 1) 0
 rw [tgB, Ex.small]
 congr 1
 rw [Bool.eq_iff_iff, h, Bool.and_eq_true, decide_eq_true_eq, decide_eq_true_eq, size_pre, deep_pre]
 have hp : 1 ≤ x.size := by rw [← size_pre x 1, pre_eq]; simp
 constructor
 ·rintro ⟨h1, h2⟩
  refine ⟨?_, by omega⟩
  rcases h1 with h1 | h1
  ·have := congrArg List.length h1
   rw [size_pre] at this
   simp at this
   omega
  ·omega
 ·rintro ⟨h1, h2⟩
  exact ⟨.inr (by omega), by omega⟩
theorem tg_size {x : Ex} (h : tgB x = false) : (x.pre 1).length ≤ 200 := by
 rw [tg_small] at h
 have h2 : x.small = true := by simpa using h
 rw [Ex.small, Bool.and_eq_true, decide_eq_true_eq, decide_eq_true_eq] at h2
 rw [size_pre]
 exact h2.1
set_option maxHeartbeats 4000000 in
set_option maxRecDepth 20000 in
theorem treePrint_any (x : Ex) (lo : Nat → Prop) (v : Value) (w : World) (henv : TEnv w) (hE : ∀ W, Below w.heap.size w W → Env W) (hx : ExIn w lo v x) (hsz : (x.pre 1).length ≤ 1048576) (hxb : ∀ q ∈ x.pre 1, inI q.1.vn) (X : ByteArray) (K : Int) (hK : ckP x = K) (hX : X.data.toList = if ckP x = 0 then txP x else []) :
  Calls Tryz.prog 85 #[v] w fun e w' => e = .returned (.tuple #[.string X, errV K]) ∧ Below w.heap.size w w' := by
 obtain ⟨o1, n1, t1, k1, s1, p1, m1, c1, a1, rfl⟩ := hx.agg
 have hx2 : ExIn w (fun b => lo b ∧ b < w.heap.size) _ x := ExIn.low (fun b h1 h2 => ⟨h2, h1⟩) _ _ hx
 have b1 : Below w.heap.size w (w.alloc (.cells #[.string o1, .string n1, .int .i64 t1, .int .i64 k1, .string s1, .slice p1 m1 c1, .int .i64 a1] 26)) := (Below.refl _ w).alloc (Nat.le_refl _) _
 have cC := check_tree x lo _ _ (henv.on b1) (hx.on b1) hsz
 have hBk : Hid (∀ W, Below (w.heap.size + 1) (w.alloc (.cells #[.string o1, .string n1, .int .i64 t1, .int .i64 k1, .string s1, .slice p1 m1 c1, .int .i64 a1] 26)) W → (∀ i, W.cell? ⟨w.heap.size, i, none⟩ = (#[.string o1, .string n1, .int .i64 t1, .int .i64 k1, .string s1, .slice p1 m1 c1, .int .i64 a1] : Array Value)[i]?) ∧ w.heap.size < W.heap.size ∧ Below w.heap.size w W) := fun W hb => by
  have h1 := hb.block w.heap.size (Nat.lt_succ_self _)
  rw [heap_alloc_new] at h1
  exact ⟨fun i => Lib.cell_of_heap h1 i, (Array.getElem?_eq_some_iff.1 h1).1, b1.trans (hb.mono (Nat.le_succ _))⟩
 rw [hK] at cC hX
 by_cases h0 : K = 0
 ·rw [h0, show errV 0 = .nilIface from rfl] at cC
  rw [if_pos h0] at hX
  obtain ⟨htg, hnd⟩ := ckP_zero (hK.trans h0)
  have hl : (txP x).length ≤ 20000 := by
   have h1 := tx_len x 1 hnd hxb
   have h2 := tg_size htg
   omega
  have cW := write_any x 1 hnd hxb
  have HX : Hid (X.data.toList = txP x) := hX
  subst h0
  clear hX hK hnd hxb htg
  go_enter Tryz.func85, Tryz.ntmps85
  go_wp2_with fail
  refine cC.mono ?_
  rintro e w1 ⟨rfl, b2⟩
  have B2 := b2.mono (show w.heap.size + 1 ≤ _ by simp)
  obtain ⟨hB, hl1, bw1⟩ := hBk.out w1 B2
  have g0 : w1.cell? ⟨w.heap.size, 0, none⟩ = some (.string o1) := hB 0
  have g1 : w1.cell? ⟨w.heap.size, 1, none⟩ = some (.string n1) := hB 1
  have g2 : w1.cell? ⟨w.heap.size, 2, none⟩ = some (.int .i64 t1) := hB 2
  have g3 : w1.cell? ⟨w.heap.size, 3, none⟩ = some (.int .i64 k1) := hB 3
  have g4 : w1.cell? ⟨w.heap.size, 4, none⟩ = some (.string s1) := hB 4
  have g5 : w1.cell? ⟨w.heap.size, 5, none⟩ = some (.slice p1 m1 c1) := hB 5
  have g6 : w1.cell? ⟨w.heap.size, 6, none⟩ = some (.int .i64 a1) := hB 6
  have hbb : IsB w1.heap.size w1.heap.size [] (w1.alloc (.cells #[.pointer none, .slice none 0 0] 91)) := Lib.fresh_isBuilder 91 5 w1
  have bw2 : Below w.heap.size w (w1.alloc (.cells #[.pointer none, .slice none 0 0] 91)) := bw1.alloc bw1.size _
  have cW2 := cW w1.heap.size w1.heap.size (fun b => lo b ∧ b < w.heap.size) _ [] _ (fun W hW => hE W (bw2.trans (hW.mono bw1.size))) (fun k hk => by have := bw1.size; omega) (hx2.on bw2) hbb (by simp; omega)
  clear cC cW b2 hB
  go_wp2_with fail
  refine cW2.mono ?_
  rintro e w3 ⟨rfl, hb3, k3w⟩
  have B3 := bw2.trans (k3w.1.mono bw1.size)
  have hz3 := hb3.lt
  rw [List.nil_append] at hb3
  clear k3w cW2 g0 g1 g2 g3 g4 g5 g6 hbb
  go_wp2_with fail
  refine (Tryz.Builder_String_any w1.heap.size w1.heap.size (txP x) _ hb3 (by omega)).mono ?_
  rintro e w4 ⟨rfl, b4⟩
  have B4 := B3.trans (b4.mono bw1.size)
  have hXe : (⟨(txP x).toArray⟩ : ByteArray) = X := by
   apply ByteArray.ext
   apply Array.toList_inj.1
   rw [HX.out]
  rw [hXe]
  clear hXe b4 hb3
  go_wp2
  go_ret2
  exact ⟨rfl, B4⟩
 ·rw [if_neg h0] at hX
  obtain rfl : X = ⟨#[]⟩ := by
   apply ByteArray.ext
   apply Array.toList_inj.1
   rw [hX]
  have hve : errV K = .iface 32 (.int .i64 K) := by rw [errV, if_neg h0]
  rw [hve] at cC ⊢
  clear hX hK hxb hve
  go_enter Tryz.func85, Tryz.ntmps85
  go_wp2_with fail
  refine cC.mono ?_
  rintro e w1 ⟨rfl, b2⟩
  have B2 := (hBk.out w1 (b2.mono (show w.heap.size + 1 ≤ _ by simp))).2.2
  clear b2 cC
  go_wp2
  go_ret2
  exact ⟨rfl, B2⟩
end Go.Proofs.YtkbhmghdonomnaaGreatDoor
