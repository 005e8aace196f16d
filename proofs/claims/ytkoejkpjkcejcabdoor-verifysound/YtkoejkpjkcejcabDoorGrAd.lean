/-
  UnqSteps, Unquote, Parse, Ref3, CdPr, in one text.
-/
import Derived.Test.YtkoejkpjkcejcabDoorGrAb
import Derived.WalkKit
import Derived.Test.YtkoejkpjkcejcabDoorProg
import Derived.Lib.AtoiAllCases
import Derived.Test.YtkoejkpjkcejcabDoorGrAc
namespace Go.Proofs.YtkoejkpjkcejcabDoor
open Go.RowKit

/-- What is left from j on, ahead of the last byte. -/
def rest (s : ByteArray) (j : Nat) : List UInt8 := (s.data.toList.drop j).take (s.size - 1 - j)
theorem rest_cons (s : ByteArray) (j : Nat) (h : j + 1 < s.size) : rest s j = s[j] :: rest s (j + 1) := by
  have hl : j < s.data.toList.length := by simp; omega
  rw [rest, rest, List.drop_eq_getElem_cons hl, show s.size - 1 - j = (s.size - 1 - (j + 1)) + 1 from by omega, List.take_succ_cons]
  rfl
theorem rest_nil (s : ByteArray) (j : Nat) (h : s.size ≤ j + 1) : rest s j = [] := by
  rw [rest, show s.size - 1 - j = 0 from by omega, List.take_zero]
/-- So far l has been gathered. -/
def Got (s : ByteArray) (j : Nat) (l : List UInt8) : Prop := unq (rest s 1) = (unq (rest s j)).map (l ++ ·)
theorem got_start (s : ByteArray) : Got s 1 [] := by simp [Got]
theorem got_plain {s : ByteArray} {j : Nat} {l : List UInt8} (h : j + 1 < s.size) (hc : (s[j].toNat : Int) ≠ 39) (g : Got s j l) : Got s (j + 1) (l ++ [s[j]]) := by
  have hne : s[j] ≠ 39 := fun e => hc (by rw [e]; rfl)
  rw [Got, rest_cons s j h, unq_ne _ _ hne, Option.map_map] at g
  rw [Got, g]
  congr 1
  funext x
  simp
theorem got_two {s : ByteArray} {j : Nat} {l : List UInt8} (h : j + 2 < s.size) (hc : (s[j].toNat : Int) = 39) (hd : (s[j + 1].toNat : Int) = 39) (g : Got s j l) : Got s (j + 2) (l ++ [s[j + 1]]) := by
  have h1 : s[j] = 39 := UInt8.toNat_inj.1 (by rw [show (39 : UInt8).toNat = 39 from rfl]; omega)
  have h2 : s[j + 1] = 39 := UInt8.toNat_inj.1 (by rw [show (39 : UInt8).toNat = 39 from rfl]; omega)
  rw [Got, rest_cons s j (by omega), rest_cons s (j + 1) (by omega), h1, h2, unq_two, Option.map_map] at g
  rw [Got, g, h2]
  congr 1
  funext x
  simp
theorem got_one {s : ByteArray} {j : Nat} {l : List UInt8} (h : j + 2 = s.size) (hc : (s[j].toNat : Int) = 39) (g : Got s j l) : unq (rest s 1) = none := by
  have h1 : s[j] = 39 := UInt8.toNat_inj.1 (by rw [show (39 : UInt8).toNat = 39 from rfl]; omega)
  rw [Got, rest_cons s j (by omega), rest_nil s (j + 1) (by omega), h1, unq_one] at g
  rw [g]; rfl
theorem got_bad {s : ByteArray} {j : Nat} {l : List UInt8} (h : j + 2 < s.size) (hc : (s[j].toNat : Int) = 39) (hd : (s[j + 1].toNat : Int) ≠ 39) (g : Got s j l) : unq (rest s 1) = none := by
  have h1 : s[j] = 39 := UInt8.toNat_inj.1 (by rw [show (39 : UInt8).toNat = 39 from rfl]; omega)
  have h2 : s[j + 1] ≠ 39 := fun e => hd (by rw [e]; rfl)
  rw [Got, rest_cons s j (by omega), rest_cons s (j + 1) (by omega), h1, unq_bad _ _ h2] at g
  rw [g]; rfl
theorem got_end {s : ByteArray} {j : Nat} {l : List UInt8} (h : s.size ≤ j + 1) (g : Got s j l) : unq (rest s 1) = some l := by
  rw [Got, rest_nil s j h] at g
  rw [g]; simp [unq]
/-- A text taken apart; none: it is none between quotes. -/
def unqT (s : ByteArray) : Option (List UInt8) :=
  if h : 2 ≤ s.size then (if (s[0].toNat : Int) = 39 ∧ (s[s.size - 1].toNat : Int) = 39 then unq (rest s 1) else none) else none
def cellsOf (l : List UInt8) : List Value := l.map fun c => Value.int .u8 (c.toNat : Int)
theorem cells_snoc (l : List UInt8) (c : UInt8) : cellsOf (l ++ [c]) = cellsOf l ++ [Value.int .u8 (c.toNat : Int)] := by simp [cellsOf]
end Go.Proofs.YtkoejkpjkcejcabDoor
namespace Go.Proofs.YtkoejkpjkcejcabDoor
open Go.RowKit

theorem info_u8 : (Tryd.prog.info? 5).map (fun i => (i.zero, i.size, i.bytes)) = some (some (.int .u8 0), 1, 1) := by kernel_rfl

theorem rel_app {B : Nat} {l : List UInt8} {c : UInt8} {w wr w1 : World} {v v' : Value} {o : Obj} (hown : wr.ownsRow B 5 1 v l.length (cellsOf l)) (hnx : Below B w wr) (hB : B ≤ wr.heap.size)
    (hown' : w1.ownsRow B 5 1 v' (l.length + 1) (cellsOf l ++ [.int .u8 (c.toNat : Int)])) (hgrow : (wr.alloc o).grownBy w1 v.ownBlock) :
    w1.ownsRow B 5 1 v' (l ++ [c]).length (cellsOf (l ++ [c])) ∧ Below B w w1 :=
  ⟨by rw [cells_snoc, List.length_append]; exact hown', (hnx.alloc hB o).grown hgrow (by simp; omega) (fun j hj => (hown.lt j hj).1)⟩
theorem conv_nil (w : World) : (convert 76 9 (.slice none 0 0)).run Tryd.prog w = .ok (.string ⟨#[]⟩) w := by kernel_rfl
theorem conv_own {B : Nat} {l : List UInt8} {wr : World} {v : Value} (hown : wr.ownsRow B 5 1 v l.length (cellsOf l)) :
    (convert 76 9 v).run Tryd.prog wr = .ok (.string ⟨l.toArray⟩) wr := by
  have h := hown.2
  rcases h with ⟨rfl, hn⟩ | ⟨g, cap, cur, rfl, _, _, _, _, _, _⟩
  · obtain rfl : l = [] := List.length_eq_zero_iff.1 hn
    exact conv_nil wr
  · exact run_convert_bytes_back (P := Tryd.prog) wr 76 9 5 ⟨g, 0, none⟩ cap l Tryd.underlying76 Tryd.underlying5 Tryd.underlying9 (fun j hj => hown.cells (g := g) rfl j _ (by simp [cellsOf, hj]))

end Go.Proofs.YtkoejkpjkcejcabDoor
namespace Go.Proofs.YtkoejkpjkcejcabDoor
open Go.RowKit

theorem two_below {w w1 w2 : World} {o : Obj} (b1 : Below (w.alloc o).heap.size (w.alloc o) w1) (b2 : Below w1.heap.size w1 w2) : Below w.heap.size w w2 := by
  have := b1.size
  simp at this
  exact ((Below.refl _ _).alloc (Nat.le_refl _) _).trans ((b1.mono (by simp)).trans (b2.mono (by omega)))
theorem one_below {w w1 : World} {o : Obj} (b1 : Below (w.alloc o).heap.size (w.alloc o) w1) : Below w.heap.size w w1 :=
  ((Below.refl _ _).alloc (Nat.le_refl _) _).trans (b1.mono (by simp))

/-- What a text is read as: type, number, text; and the fault. -/
def readV (s : ByteArray) : Int × Int × List UInt8 × Int :=
  if s.data.toList = [116, 114, 117, 101] then (2, 1, [], 0)
  else if s.data.toList = [102, 97, 108, 115, 101] then (2, 0, [], 0)
  else if Lib.hasPrefix s.data.toList [39] = true then
    (match unqT s with
    | none => (0, 0, [], 2)
    | some l => if plainB l = false then (0, 0, [], 2) else if 40 < l.length then (0, 0, [], 4) else (3, 0, l, 0))
  else (match Lib.atoiAll s.data.toList with
    | .ok n => if Lib.itoa n = s.data.toList then (1, n, [], 0) else (0, 0, [], 2)
    | _ => (0, 0, [], 2))
def readR (r : Int × Int × List UInt8 × Int) : Value := .tuple #[.agg #[.int .i64 r.1, .int .i64 r.2.1, .string ⟨r.2.2.1.toArray⟩], errV r.2.2.2]

theorem unqT_len {s : ByteArray} {l : List UInt8} (h : unqT s = some l) : l.length ≤ s.size := by
  rw [unqT] at h
  split at h
  · split at h
    · have h1 := unq_len _ _ h
      rw [rest] at h1
      simp at h1
      omega
    · cases h
  · cases h
theorem atoi_bounds {s : ByteArray} {n : Int} (h : Lib.atoiAll s.data.toList = .ok n) : -9223372036854775808 ≤ n ∧ n ≤ 9223372036854775807 := by
  have := Lib.atoiAll_bounds h
  omega

theorem eq_of_list {s : ByteArray} {l : List UInt8} (h : s.data.toList = l) : s = ⟨l.toArray⟩ := by subst h; simp
end Go.Proofs.YtkoejkpjkcejcabDoor
namespace Go.Proofs.YtkoejkpjkcejcabDoor
open Go.RowKit
set_option linter.unusedVariables false

theorem esc_take (s : ByteArray) (k : Nat) (h : k < s.size) : esc (s.data.toList.take (k + 1)) = esc (s.data.toList.take k) ++ (if s[k] = 39 then [39, 39] else [s[k]]) := by
  have e : s.data.toList.take (k + 1) = s.data.toList.take k ++ [s[k]] := by
    rw [List.take_succ_eq_append_getElem (by simpa using h)]; rfl
  rw [e]; simp [esc]

theorem slice_one (s : ByteArray) (k : Nat) (h : k < s.size) : ∃ X : ByteArray, (∀ W : World, Sem.run Tryd.prog (Instr.slice 9 (.string s) (some (.int .i64 (k : Int))) (some (.int .i64 ((k : Int) + 1))) none) W = .ok (.string X) W) ∧ X.data.toList = [s[k]] ∧ X.size = 1 := by
  refine ⟨s.extract k (k + 1), fun W => ?_, ?_, ?_⟩
  · have := run_slice_string (P := Tryd.prog) W 9 s .i64 .i64 (k : Int) ((k : Int) + 1) Tryd.underlying9 (by omega) (by omega) (by omega)
    rw [this]
    have e1 : ((k : Int)).toNat = k := by omega
    have e2 : ((k : Int) + 1).toNat = k + 1 := by omega
    rw [e1, e2]
  · have hl : k < s.data.toList.length := by simpa using h
    have : (s.extract k (k + 1)).data.toList = (s.data.toList.drop k).take 1 := by simp
    rw [this, List.drop_eq_getElem_cons hl]
    rfl
  · simp; omega
theorem app_list (a b : ByteArray) : (a ++ b).data.toList = a.data.toList ++ b.data.toList := by simp
theorem app_size (a b : ByteArray) : (a ++ b).size = a.size + b.size := by simp
theorem u8_39 {c : UInt8} : (c.toNat : Int) = 39 ↔ c = 39 :=
  ⟨fun h => UInt8.toNat_inj.1 (by rw [show (39 : UInt8).toNat = 39 from rfl]; omega), fun h => by rw [h]; rfl⟩

set_option maxRecDepth 20000 in
set_option maxHeartbeats 1000000 in
theorem show_text (s : ByteArray) (w : World) (hs : s.size ≤ 40) :
    Calls Tryd.prog 35 #[.agg #[.int .i64 3, .int .i64 0, .string s]] w fun e w' => e = .returned (.string ⟨(39 :: (esc s.data.toList ++ [39])).toArray⟩) ∧ Below w.heap.size w w' := by
  go_enter Tryd.func35, Tryd.ntmps35
  go_wp2
  go_loop [3, 4] (fun v i => ∃ (k : Nat) (T : ByteArray), k ≤ s.size ∧ i = .int .i64 k ∧ v = .string T ∧ Hid (T.data.toList = 39 :: esc (s.data.toList.take k)) ∧ T.size ≤ 2 * k + 1) (fun _ i => s.size - (intOf i).toNat)
  case atStart => exact ⟨0, ⟨#[39]⟩, Nat.zero_le _, rfl, rfl, rfl, by decide⟩
  case round =>
    obtain ⟨k, T, hk, rfl, rfl, HT, hT⟩ := hrel
    by_cases hlt : k < s.size
    · obtain ⟨X, hX, hX1, hX2⟩ := slice_one s k hlt
      have HX : Hid (X.data.toList = [s[k]]) := hX1
      have HS : Hid (esc (s.data.toList.take (k + 1)) = esc (s.data.toList.take k) ++ (if s[k] = 39 then [39, 39] else [s[k]])) := esc_take s k hlt
      have hXle : X.size ≤ 1 := by omega
      clear hX1 hX2
      by_cases hc : (s[k].toNat : Int) = 39
      · have hcb : ((s[k].toNat : Int) == 39) = true := by simpa using hc
        have HC : Hid (s[k] = 39) := u8_39.1 hc
        clear hc
        have hsz : (T ++ X).size ≤ 2 * k + 2 := by rw [app_size]; omega
        go_wp2
        go_round
        case rel =>
          refine ⟨k + 1, _, by omega, by go_num, rfl, ?_, ?_⟩
          · show _ = _
            rw [app_list, app_list, HT.out, HX.out, HS.out, if_pos HC.out, HC.out]; simp
          · rw [app_size]
            have : (⟨#[39]⟩ : ByteArray).size = 1 := rfl
            omega
        case measure => simp [intOf]; omega
      · have hcb : ((s[k].toNat : Int) == 39) = false := by simpa using hc
        have HC : Hid (¬ s[k] = 39) := fun e => hc (u8_39.2 e)
        clear hc
        have hsz : (T ++ X).size ≤ 2 * k + 2 := by rw [app_size]; omega
        go_wp2
        go_round
        case rel =>
          refine ⟨k + 1, _, by omega, by go_num, rfl, ?_, ?_⟩
          · show _ = _
            rw [app_list, HT.out, HX.out, HS.out, if_neg HC.out]; simp
          · omega
        case measure => simp [intOf]; omega
    · have hall : s.data.toList.take k = s.data.toList := List.take_of_length_le (by simp; omega)
      have HE : Hid (T ++ ⟨#[39]⟩ = ⟨(39 :: (esc s.data.toList ++ [39])).toArray⟩) := eq_of_list (by rw [app_list, HT.out, hall]; simp)
      clear hall
      go_wp2
      go_ret
      exact ⟨by rw [HE.out]; rfl, (Below.refl _ _).alloc (Nat.le_refl _) _⟩
theorem show_any (t n : Int) (s : ByteArray) (w : World) (hn : -9223372036854775808 ≤ n ∧ n ≤ 9223372036854775807) (h : chk t n s.data.toList = 0) :
    Calls Tryd.prog 35 #[.agg #[.int .i64 t, .int .i64 n, .string s]] w fun e w' => e = .returned (.string ⟨(shown t n s.data.toList).toArray⟩) ∧ Below w.heap.size w w' := by
  rcases chk_type h with ⟨rfl, _⟩ | ⟨rfl, _, hb⟩ | ⟨rfl, rfl, hl, _⟩
  · have hsh : shown 1 n s.data.toList = Lib.itoa n := by rw [shown, if_pos rfl]
    rw [hsh]
    clear h hsh
    go_enter Tryd.func35, Tryd.ntmps35
    go_wp2_with fail
    refine (Digits_any n _ hn).mono ?_
    rintro e w1 ⟨rfl, rfl⟩
    go_wp2
    go_ret
    exact ⟨rfl, (Below.refl _ _).alloc (Nat.le_refl _) _⟩
  · have hsh : shown 2 n s.data.toList = if n = 1 then [116, 114, 117, 101] else [102, 97, 108, 115, 101] := by rw [shown, if_neg (by decide), if_pos rfl]
    rw [hsh]
    clear h hsh
    rcases hb with rfl | rfl
    all_goals
      go_enter Tryd.func35, Tryd.ntmps35
      go_wp2
      go_ret
      exact ⟨rfl, (Below.refl _ _).alloc (Nat.le_refl _) _⟩
  · have hsh : shown 3 0 s.data.toList = 39 :: (esc s.data.toList ++ [39]) := by rw [shown, if_neg (by decide), if_neg (by decide)]
    rw [hsh]
    exact show_text s w (by simpa using hl)
end Go.Proofs.YtkoejkpjkcejcabDoor
namespace Go.Proofs.YtkoejkpjkcejcabDoor
open Go.RowKit
set_option linter.unusedVariables false

/-- Instructions as they are written. -/
def textP (is : List I5) : List UInt8 := is.flatMap fun i => lineP i ++ [10]
theorem text_step {is : List I5} {k : Nat} (h : k < is.length) : textP (is.take (k + 1)) = textP (is.take k) ++ lineP is[k] ++ [10] := by
  rw [List.take_succ_eq_append_getElem h]
  simp only [textP, List.flatMap_append, List.flatMap_cons, List.flatMap_nil, List.append_nil, List.append_assoc]
theorem print_noneI (p : Option Addr) (c : Nat) (w : World) :
    Calls Tryd.prog 14 #[.slice p 0 c] w fun e w' => e = .returned (.string ⟨#[]⟩) ∧ Below w.heap.size w w' := by
  have hb := Lib.fresh_isBuilder 78 5 w
  go_enter Tryd.func14, Tryd.ntmps14
  go_wp2
  refine wp_loop_rounds 1 ?_
  rw [rounds_succ]
  go_wp2_with fail
  refine (Tryd.Builder_String_any w.heap.size w.heap.size [] _ hb (by simp)).mono ?_
  rintro e w1 ⟨rfl, b1⟩
  go_wp2
  go_ret
  exact ⟨rfl, ((Below.refl _ _).alloc (Nat.le_refl _) _).trans b1⟩
theorem cells_ten (l : List UInt8) : Lib.byteCells l ++ [.int .u8 10] = Lib.byteCells (l ++ [10]) := by
  simp [Lib.byteCells]
theorem isB_below {T e : TypeId} {b : Nat} {p : Value} {bs : List Value} {w w' : World} (h : Lib.BuilderAt T e b b p bs w) (hb : Below w.heap.size w w') : Lib.BuilderAt T e b b p bs w' := by
  have hlt := h.lt
  obtain ⟨hB, v, hbk, hown, hne⟩ := h
  exact ⟨hB, v, by rw [hb.block b hlt]; exact hbk, lown_below hown hb, hne⟩
set_option maxHeartbeats 4000000 in
set_option maxRecDepth 20000 in
theorem print_anyI (p : Option Addr) (c N : Nat) (is : List I5) (w : World) (hN : is.length = N) (hc : InsAt w p is) (hn : N ≤ 60) (hz : ∀ i ∈ is, okI i) (henv : Env w) (hr : REnv w) (J : ByteArray) (hJ : ⟨(textP is).toArray⟩ = J) :
    Calls Tryd.prog 14 #[.slice p N c] w fun e w' => e = .returned (.string J) ∧ Below w.heap.size w w' := by
  rcases hc with h0 | ⟨b, off, rfl, hbl, hc⟩
  · obtain rfl : N = 0 := by omega
    obtain rfl : is = [] := List.length_eq_zero_iff.1 h0
    subst hJ
    exact print_noneI p c w
  have hcI : InsAt w (some ⟨b, off, none⟩) is := .inr ⟨b, off, rfl, hbl, hc⟩
  clear hc
  have HJ : Hid (⟨(textP is).toArray⟩ = J) := hJ
  have HZ : Hid (∀ i ∈ is, okI i) := hz
  have HN : Hid (is.length = N) := hN
  clear hJ hz hN
  go_enter Tryd.func14, Tryd.ntmps14
  go_wp2
  go_loopg [5, 8] N (fun gg _ s8 wr => ∃ (kk : Nat) (acc : List UInt8), kk ≤ N ∧ N - kk ≤ gg ∧ s8 = .int .i64 kk ∧ Aside (Below w.heap.size w wr) ∧ Lib.IsBuilder 78 5 w.heap.size w.heap.size (Lib.byteCells acc) wr ∧ Hid (acc = textP (is.take kk)) ∧ acc.length ≤ kk * 101)
  case atStart => exact ⟨0, [], Nat.zero_le _, by omega, rfl, (show Aside _ from (Below.refl _ w).alloc (Nat.le_refl _) _), Lib.fresh_isBuilder _ _ w, rfl, Nat.zero_le _⟩
  case round =>
    obtain ⟨kk, acc, hkk, hg, rfl, BW, hB, HA, hlen⟩ := hrel
    by_cases hlt : kk < N
    · have hltz : (kk : Int) < (N : Int) := by omega
      have k0 : (0 : Int) ≤ (kk : Int) := by omega
      have hk2 : kk < is.length := by rw [HN.out]; exact hlt
      obtain ⟨c0, c1, c2, c3, c4⟩ := ((hcI.on BW.out).resolve_left (by omega)).elim fun b1 h => h.elim fun o1 h => by
        obtain ⟨e, _, h⟩ := h
        cases e
        exact h kk hk2
      have HS : Hid (textP (is.take (kk + 1)) = textP (is.take kk) ++ lineP is[kk] ++ [10]) := text_step hk2
      have hyo := HZ.out _ (List.getElem_mem hk2)
      generalize is[kk] = y at c0 c1 c2 c3 c4 HS hyo
      obtain ⟨ya, yg, yt, yn, ys⟩ := y
      simp only at c0 c1 c2 c3 c4
      have hll := lineP_len hyo
      have hB2 := Bld.is_alloc hB (.cells #[.int .i64 ya, .int .i64 yg, .int .i64 yt, .int .i64 yn, .string ys] 50)
      have B2 := BW.out.alloc BW.out.size (.cells #[.int .i64 ya, .int .i64 yg, .int .i64 yt, .int .i64 yn, .string ys] 50)
      have cL := line_any (ya, yg, yt, yn, ys) _ hyo (henv.on B2) (hr.on B2)
      have hbl : w.heap.size < wr.heap.size := by
        rcases hB with h | h
        · exact h.lt
        · exact h.lt
      have hcl : (Lib.byteCells acc).length = acc.length := Lib.byteCells_length _
      clear hB
      have HS2 : Hid (textP (is.take (kk + 1)) = acc ++ lineP (ya, yg, yt, yn, ys) ++ [10]) := by
        show _ = _
        rw [HS.out, HA.out]
      clear HS HA hyo
      generalize lineP (ya, yg, yt, yn, ys) = X at cL HS2 hll
      have hXs := sizeL X
      go_wp2_with fail
      refine cL.mono ?_
      rintro e w1 ⟨rfl, b1⟩
      have B3 := B2.trans (b1.mono B2.size)
      have hB3 : Lib.IsBuilder 78 5 w.heap.size w.heap.size (Lib.byteCells acc) w1 := by
        rcases hB2 with h | h
        · exact .inl (isB_below h b1)
        · exact .inr (isB_below h b1)
      clear b1 B2 hB2 cL
      go_wp2_with fail
      refine (Bld.writeString w.heap.size w.heap.size _ ⟨X.toArray⟩ _ hB3 (by omega) B3.size).mono ?_
      rintro e w2 ⟨rfl, hB4, b4⟩
      have B4 := B3.trans b4
      rw [Bld.cells_app] at hB4
      clear b4 B3 hB3
      go_wp2_with fail
      refine (Bld.writeByte w.heap.size w.heap.size _ 10 _ (.inr hB4) (by rw [Lib.byteCells_length, List.length_append]; simp; omega) B4.size).mono ?_
      rintro e w3 ⟨rfl, hB5, b5, hk5⟩
      have B5 := B4.trans b5
      rw [cells_ten] at hB5
      clear b5 B4 hB4 hk5
      go_wp2
      go_roundg (N - (kk + 1))
      case measure => omega
      case rel => exact ⟨kk + 1, acc ++ X ++ [10], by omega, by omega, by go_num, B5, .inr hB5, HS2.out.symm, by rw [List.length_append, List.length_append, List.length_singleton]; omega⟩
    · have hltz : ¬ (kk : Int) < (N : Int) := by omega
      have HF : Hid ((⟨acc.toArray⟩ : ByteArray) = J) := by
        show _ = _
        rw [← HJ.out, HA.out, List.take_of_length_le (by have := HN.out; omega)]
      clear HJ HA
      go_wp2_with fail
      refine (Tryd.Builder_String_any w.heap.size w.heap.size acc _ hB BW.out.size).mono ?_
      rintro e w1 ⟨rfl, b1⟩
      rw [HF.out]
      go_wp2
      go_ret
      exact ⟨rfl, BW.out.trans b1⟩
end Go.Proofs.YtkoejkpjkcejcabDoor
