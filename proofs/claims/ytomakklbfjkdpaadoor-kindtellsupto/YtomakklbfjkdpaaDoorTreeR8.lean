/-
  The program's reader of words (package tree): the words of the language, names, operations, values.
-/
import Derived.Test.YtomakklbfjkdpaaDoorLo3
import Derived.Test.YtomakklbfjkdpaaDoorRow2
import Derived.Laws.Rows
namespace Go.Proofs.YtomakklbfjkdpaaDoor
open Go.RowKit Go.BigFrame
set_option linter.unusedVariables false

theorem word_at (k : Nat) (hk : k < 19) : ∃ S : ByteArray, (∀ W : World, Sem.run Tryd.prog (Instr.index 133 (.agg wordsC) (.int .i64 (k : Int))) W = .ok (.string S) W) ∧ wordsL[k]'hk = S.data.toList := by
  have h : k = 0 ∨ k = 1 ∨ k = 2 ∨ k = 3 ∨ k = 4 ∨ k = 5 ∨ k = 6 ∨ k = 7 ∨ k = 8 ∨ k = 9 ∨ k = 10 ∨ k = 11 ∨ k = 12 ∨ k = 13 ∨ k = 14 ∨ k = 15 ∨ k = 16 ∨ k = 17 ∨ k = 18 := by omega
  rcases h with rfl | rfl | rfl | rfl | rfl | rfl | rfl | rfl | rfl | rfl | rfl | rfl | rfl | rfl | rfl | rfl | rfl | rfl | rfl
  · exact ⟨⟨#[111, 114]⟩, fun W => by kernel_rfl, rfl⟩
  · exact ⟨⟨#[97, 110, 100]⟩, fun W => by kernel_rfl, rfl⟩
  · exact ⟨⟨#[110, 111, 116]⟩, fun W => by kernel_rfl, rfl⟩
  · exact ⟨⟨#[116, 114, 117, 101]⟩, fun W => by kernel_rfl, rfl⟩
  · exact ⟨⟨#[102, 97, 108, 115, 101]⟩, fun W => by kernel_rfl, rfl⟩
  · exact ⟨⟨#[108, 101, 110]⟩, fun W => by kernel_rfl, rfl⟩
  · exact ⟨⟨#[105, 102]⟩, fun W => by kernel_rfl, rfl⟩
  · exact ⟨⟨#[115, 101, 108, 101, 99, 116]⟩, fun W => by kernel_rfl, rfl⟩
  · exact ⟨⟨#[97, 115]⟩, fun W => by kernel_rfl, rfl⟩
  · exact ⟨⟨#[102, 114, 111, 109]⟩, fun W => by kernel_rfl, rfl⟩
  · exact ⟨⟨#[119, 104, 101, 114, 101]⟩, fun W => by kernel_rfl, rfl⟩
  · exact ⟨⟨#[103, 114, 111, 117, 112]⟩, fun W => by kernel_rfl, rfl⟩
  · exact ⟨⟨#[98, 121]⟩, fun W => by kernel_rfl, rfl⟩
  · exact ⟨⟨#[119, 105, 110, 100, 111, 119]⟩, fun W => by kernel_rfl, rfl⟩
  · exact ⟨⟨#[115, 108, 105, 100, 101]⟩, fun W => by kernel_rfl, rfl⟩
  · exact ⟨⟨#[99, 111, 117, 110, 116]⟩, fun W => by kernel_rfl, rfl⟩
  · exact ⟨⟨#[115, 117, 109]⟩, fun W => by kernel_rfl, rfl⟩
  · exact ⟨⟨#[108, 101, 97, 115, 116]⟩, fun W => by kernel_rfl, rfl⟩
  · exact ⟨⟨#[109, 111, 115, 116]⟩, fun W => by kernel_rfl, rfl⟩
theorem oper_at (k : Nat) (hk : k < 19) : ∃ (S : ByteArray) (n : Int), (∀ W : World, Sem.run Tryd.prog (Instr.index 112 (.agg opsC) (.int .i64 (k : Int))) W = .ok (.agg #[.string S, .int .i64 n]) W) ∧ (opsL[k]'hk).1 = S.data.toList ∧ (opsL[k]'hk).2 = n := by
  have h : k = 0 ∨ k = 1 ∨ k = 2 ∨ k = 3 ∨ k = 4 ∨ k = 5 ∨ k = 6 ∨ k = 7 ∨ k = 8 ∨ k = 9 ∨ k = 10 ∨ k = 11 ∨ k = 12 ∨ k = 13 ∨ k = 14 ∨ k = 15 ∨ k = 16 ∨ k = 17 ∨ k = 18 := by omega
  rcases h with rfl | rfl | rfl | rfl | rfl | rfl | rfl | rfl | rfl | rfl | rfl | rfl | rfl | rfl | rfl | rfl | rfl | rfl | rfl
  · exact ⟨⟨#[118, 97, 108]⟩, 0, fun W => by kernel_rfl, rfl, rfl⟩
  · exact ⟨⟨#[99, 111, 108]⟩, 0, fun W => by kernel_rfl, rfl, rfl⟩
  · exact ⟨⟨#[111, 114]⟩, 2, fun W => by kernel_rfl, rfl, rfl⟩
  · exact ⟨⟨#[97, 110, 100]⟩, 2, fun W => by kernel_rfl, rfl, rfl⟩
  · exact ⟨⟨#[110, 111, 116]⟩, 1, fun W => by kernel_rfl, rfl, rfl⟩
  · exact ⟨⟨#[61]⟩, 2, fun W => by kernel_rfl, rfl, rfl⟩
  · exact ⟨⟨#[60, 62]⟩, 2, fun W => by kernel_rfl, rfl, rfl⟩
  · exact ⟨⟨#[60]⟩, 2, fun W => by kernel_rfl, rfl, rfl⟩
  · exact ⟨⟨#[60, 61]⟩, 2, fun W => by kernel_rfl, rfl, rfl⟩
  · exact ⟨⟨#[62]⟩, 2, fun W => by kernel_rfl, rfl, rfl⟩
  · exact ⟨⟨#[62, 61]⟩, 2, fun W => by kernel_rfl, rfl, rfl⟩
  · exact ⟨⟨#[43]⟩, 2, fun W => by kernel_rfl, rfl, rfl⟩
  · exact ⟨⟨#[45]⟩, 2, fun W => by kernel_rfl, rfl, rfl⟩
  · exact ⟨⟨#[42]⟩, 2, fun W => by kernel_rfl, rfl, rfl⟩
  · exact ⟨⟨#[47]⟩, 2, fun W => by kernel_rfl, rfl, rfl⟩
  · exact ⟨⟨#[37]⟩, 2, fun W => by kernel_rfl, rfl, rfl⟩
  · exact ⟨⟨#[110, 101, 103]⟩, 1, fun W => by kernel_rfl, rfl, rfl⟩
  · exact ⟨⟨#[108, 101, 110]⟩, 1, fun W => by kernel_rfl, rfl, rfl⟩
  · exact ⟨⟨#[105, 102]⟩, 3, fun W => by kernel_rfl, rfl, rfl⟩
set_option maxHeartbeats 1000000 in
set_option maxRecDepth 20000 in
theorem isWord_any (x : ByteArray) (w : World) (henv : TEnv w) :
    Calls Tryd.prog 70 #[.string x] w fun e w' => e = .returned (.bool (wordsL.any (· == x.data.toList))) ∧ w' = w := by
  obtain ⟨tt, fr, hgl⟩ := henv.wds
  obtain ⟨R, hR⟩ : ∃ R, wordsL.any (· == x.data.toList) = R := ⟨_, rfl⟩
  have HR : Hid (wordsL.any (· == x.data.toList) = R) := hR
  rw [hR]
  clear hR
  go_enter Tryd.func70, Tryd.ntmps70
  go_wp2_with (refine wpList_load_row rfl 133 _ rfl 3 rfl tt _ fr _ hgl Tryd.underlying133 rfl (by kernel_rfl) ?_)
  have hat := word_at
  generalize Value.agg wordsC = AR at hat ⊢
  clear hgl
  go_loopg [4, 6] 19 (fun gg _ s6 wr => ∃ kk : Nat, kk ≤ 19 ∧ 19 - kk ≤ gg ∧ s6 = .int .i64 kk ∧ wr = w ∧ Hid ((wordsL.drop kk).any (· == x.data.toList) = R))
  case atStart => exact ⟨0, Nat.zero_le _, by omega, rfl, rfl, HR⟩
  case round =>
    obtain ⟨kk, hkk, hg, rfl, rfl, HE⟩ := hrel
    clear HR
    by_cases hlt : kk < 19
    · have hltz : (kk : Int) < 19 := by omega
      obtain ⟨S, hS, hS1⟩ := hat kk hlt
      clear hat
      have hd : wordsL.drop kk = S.data.toList :: wordsL.drop (kk + 1) := by
        rw [List.drop_eq_getElem_cons (show kk < wordsL.length from hlt)]
        exact congrArg (· :: _) hS1
      have HS : Hid ((S.data.toList :: wordsL.drop (kk + 1)).any (· == x.data.toList) = R) := by show _ = _; rw [← hd]; exact HE.out
      clear hd hS1 HE
      by_cases he : S.data.toList = x.data.toList
      · have hq : (S.toList == x.toList) = true := by rw [Lib.toList_data, Lib.toList_data]; simpa using he
        have hR2 : true = R := by
          have hb : (S.data.toList == x.data.toList) = true := by simpa using he
          rw [← HS.out, List.any_cons, hb]; rfl
        subst hR2
        clear HS
        go_wp2
        go_ret
        exact ⟨rfl, rfl⟩
      · have hq : (S.toList == x.toList) = false := by rw [Lib.toList_data, Lib.toList_data]; simpa using he
        have HS2 : Hid ((wordsL.drop (kk + 1)).any (· == x.data.toList) = R) := by
          show _ = _
          have hb : (S.data.toList == x.data.toList) = false := by simpa using he
          rw [← HS.out, List.any_cons, hb, Bool.false_or]
        clear HS
        go_wp2
        go_roundg (19 - (kk + 1))
        case measure => omega
        case rel => exact ⟨kk + 1, by omega, by omega, by go_num, rfl, HS2⟩
    · have hltz : ¬ (kk : Int) < 19 := by omega
      have hR2 : false = R := by rw [← HE.out, List.drop_eq_nil_of_le (by show 19 ≤ kk; omega)]; rfl
      subst hR2
      clear HE
      go_wp2
      go_ret
      exact ⟨rfl, rfl⟩
/-- How many parts an operation has; whether it is one. -/
def apL (x : List UInt8) : List (List UInt8 × Int) → Int × Bool
  | [] => (0, false)
  | o :: os => if o.1 = x then (o.2, true) else apL x os
set_option maxHeartbeats 1000000 in
set_option maxRecDepth 20000 in
theorem argsOf_any (x : ByteArray) (w : World) (henv : TEnv w) (n : Int) (ok : Bool) (hx : apL x.data.toList opsL = (n, ok)) :
    Calls Tryd.prog 49 #[.string x] w fun e w' => e = .returned (.tuple #[.int .i64 n, .bool ok]) ∧ Below w.heap.size w w' := by
  obtain ⟨tt, fr, hgl⟩ := henv.ops
  have HX : Hid (apL x.data.toList opsL = (n, ok)) := hx
  clear hx
  go_enter Tryd.func49, Tryd.ntmps49
  go_wp2_with (refine wpList_load_row rfl 112 _ rfl 2 rfl tt _ fr _ hgl Tryd.underlying112 rfl (by kernel_rfl) ?_)
  have hat := oper_at
  generalize Value.agg opsC = AR at hat ⊢
  clear hgl
  go_loopg [5, 7] 19 (fun gg _ s7 wr => ∃ kk : Nat, kk ≤ 19 ∧ 19 - kk ≤ gg ∧ s7 = .int .i64 kk ∧ Aside (Below w.heap.size w wr) ∧ Hid (apL x.data.toList (opsL.drop kk) = (n, ok)))
  case atStart => exact ⟨0, Nat.zero_le _, by omega, rfl, (show Aside _ from Below.refl _ _), HX⟩
  case round =>
    obtain ⟨kk, hkk, hg, rfl, BW, HE⟩ := hrel
    clear HX
    by_cases hlt : kk < 19
    · have hltz : (kk : Int) < 19 := by omega
      obtain ⟨S, m, hS, hS1, hS2⟩ := hat kk hlt
      clear hat
      have hd : opsL.drop kk = (S.data.toList, m) :: opsL.drop (kk + 1) := by
        rw [List.drop_eq_getElem_cons (show kk < opsL.length from hlt)]
        congr 1
        exact Prod.ext hS1 hS2
      have HS : Hid (apL x.data.toList ((S.data.toList, m) :: opsL.drop (kk + 1)) = (n, ok)) := by show _ = _; rw [← hd]; exact HE.out
      clear hd hS1 hS2 HE
      by_cases he : S.data.toList = x.data.toList
      · have hq : (S.toList == x.toList) = true := by rw [Lib.toList_data, Lib.toList_data]; simpa using he
        have hR2 : (m, true) = (n, ok) := by rw [← HS.out, apL, if_pos he]
        obtain ⟨rfl, rfl⟩ := Prod.mk.inj hR2
        clear HS
        go_wp2
        go_ret2
        exact ⟨rfl, BW.out.alloc (by have := BW.out.size; omega) _⟩
      · have hq : (S.toList == x.toList) = false := by rw [Lib.toList_data, Lib.toList_data]; simpa using he
        have HS2 : Hid (apL x.data.toList (opsL.drop (kk + 1)) = (n, ok)) := by
          show _ = _
          rw [← HS.out, apL, if_neg he]
        clear HS
        go_wp2
        go_roundg (19 - (kk + 1))
        case measure => omega
        case rel => exact ⟨kk + 1, by omega, by omega, by go_num, (show Aside _ from BW.out.alloc (by have := BW.out.size; omega) _), HS2⟩
    · have hltz : ¬ (kk : Int) < 19 := by omega
      have hR2 : ((0 : Int), false) = (n, ok) := by rw [← HE.out, List.drop_eq_nil_of_le (by show 19 ≤ kk; omega)]; rfl
      obtain ⟨rfl, rfl⟩ := Prod.mk.inj hR2
      clear HE
      go_wp2
      go_ret2
      exact ⟨rfl, BW.out⟩
theorem nameB_T (l : List UInt8) : nameB l = lettersB l := by
  have hl : ∀ c : UInt8, letN c = letB c := fun c => by
    rw [letN, letB]
    congr 1 <;> exact decide_eq_decide.2 (by omega)
  rw [nameB, lettersB, show (letN : UInt8 → Bool) = letB from funext hl]
  cases l with
  | nil => simp
  | cons c r => simp
theorem isColumn_any (x : ByteArray) (w : World) (henv : TEnv w) (hs : x.size ≤ maxLen) :
    Calls Tryd.prog 50 #[.string x] w fun e w' => e = .returned (.bool (nameT x.data.toList)) ∧ Below w.heap.size w w' := by
  have cN := isName_any x w hs
  have cW := fun W (hb : Below w.heap.size w W) => isWord_any x W (henv.on hb)
  have HT : Hid (nameT x.data.toList = (nameB x.data.toList && !(wordsL.any (· == x.data.toList)))) := by show _ = _; rw [nameT, nameB_T]
  obtain ⟨R, hR⟩ : ∃ R, nameT x.data.toList = R := ⟨_, rfl⟩
  rw [hR] at HT ⊢
  clear hR
  generalize nameB x.data.toList = A at cN HT
  generalize wordsL.any (· == x.data.toList) = B at cW HT
  cases A
  · obtain rfl : R = false := HT.out
    clear HT cW
    go_enter Tryd.func50, Tryd.ntmps50
    go_wp2_with fail
    refine cN.mono ?_
    rintro e w1 ⟨rfl, b1⟩
    go_wp2
    go_ret
    exact ⟨rfl, b1⟩
  · cases B
    · obtain rfl : R = true := HT.out
      clear HT
      go_enter Tryd.func50, Tryd.ntmps50
      go_wp2_with fail
      refine cN.mono ?_
      rintro e w1 ⟨rfl, b1⟩
      go_wp2_with fail
      refine (cW _ b1).mono ?_
      rintro e w2 ⟨rfl, rfl⟩
      go_wp2
      go_ret
      exact ⟨rfl, b1⟩
    · obtain rfl : R = false := HT.out
      clear HT
      go_enter Tryd.func50, Tryd.ntmps50
      go_wp2_with fail
      refine cN.mono ?_
      rintro e w1 ⟨rfl, b1⟩
      go_wp2_with fail
      refine (cW _ b1).mono ?_
      rintro e w2 ⟨rfl, rfl⟩
      go_wp2
      go_ret
      exact ⟨rfl, b1⟩
end Go.Proofs.YtomakklbfjkdpaaDoor
