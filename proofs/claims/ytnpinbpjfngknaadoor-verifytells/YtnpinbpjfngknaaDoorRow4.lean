/-
  What byType, byWord, checkCol and Schema of package row say.
-/
import Derived.Test.YtnpinbpjfngknaaDoorRow3
namespace Go.Proofs.YtnpinbpjfngknaaDoor
open Go.RowKit
set_option linter.unusedVariables false

def wordOf (t : Int) : ByteArray := if t = 1 then ⟨#[105, 110, 116]⟩ else if t = 2 then ⟨#[98, 111, 111, 108]⟩ else ⟨#[116, 101, 120, 116]⟩
theorem Pair.new (w : World) (x y : Value) (t : TypeId) : (w.alloc (.cells #[x, y] t)).cell? ⟨w.heap.size, 0, none⟩ = some x ∧ (w.alloc (.cells #[x, y] t)).cell? ⟨w.heap.size, 1, none⟩ = some y ∧ (w.alloc (.cells #[x, y] t)).frozen? ⟨w.heap.size, 0, none⟩ = false ∧ (w.alloc (.cells #[x, y] t)).frozen? ⟨w.heap.size, 1, none⟩ = false :=
  ⟨by rw [World.cell?_alloc_at _ _ _ _ rfl]; rfl, by rw [World.cell?_alloc_at _ _ _ _ rfl]; rfl, by simp, by simp⟩
set_option maxHeartbeats 1000000 in
theorem byType_as (t a : Int) (s : ByteArray) (r : Bool) (w : World) (hw : TW w)
    (h : ∀ (p : Nat) (W : World), TW W → W.cell? ⟨p, 0, none⟩ = some (.int .i64 t) → Calls Tryd.prog 48 #[.func (.func 49) #[] #[.pointer (some ⟨p, 0, none⟩)]] W fun e w' => e = .returned (.tuple #[.agg #[.int .i64 a, .string s], .bool r]) ∧ Below W.heap.size W w') :
    Calls Tryd.prog 36 #[.int .i64 t] w fun e w' => e = .returned (.tuple #[.agg #[.int .i64 a, .string s], .bool r]) ∧ Below w.heap.size w w' := by
  have B0 : Below w.heap.size w ((w.alloc (.cells #[.int .i64 t] 3)).alloc (.cells #[.int .i64 0, .string ⟨#[]⟩] 86)) := ((Below.refl _ _).alloc (Nat.le_refl _) _).alloc (by simp) _
  have hcall := h w.heap.size _ (hw.on B0) (by rw [World.cell?_alloc_lt _ _ _ (by simp), World.cell?_alloc_at _ _ _ _ rfl]; rfl)
  obtain ⟨r0, r1, r2, r3⟩ := Pair.new (w.alloc (.cells #[.int .i64 t] 3)) (.int .i64 0) (.string ⟨#[]⟩) 86
  rw [show (w.alloc (.cells #[.int .i64 t] 3)).heap.size = w.heap.size + 1 by simp] at r0 r1 r2 r3
  go_enter Tryd.func36, Tryd.ntmps36
  go_wp2_with fail
  refine hcall.mono ?_
  rintro e w1 ⟨rfl, b1⟩
  obtain ⟨hc1, hf1⟩ := bcells b1
  have hz := b1.size
  have q0 := (hc1 (w.heap.size + 1) 0 (by simp)).trans r0
  have q1 := (hc1 (w.heap.size + 1) 1 (by simp)).trans r1
  have q2 := (hf1 (w.heap.size + 1) 0 (by simp)).trans r2
  have q3 := (hf1 (w.heap.size + 1) 1 (by simp)).trans r3
  have ql : w.heap.size + 1 < w1.heap.size := by simp at hz; omega
  clear hc1 hf1 r0 r1 r2 r3
  go_wp2
  refine bodyPost_ret (v := .tuple #[.agg #[.int .i64 a, .string s], .bool r]) (by simp [results, Tryd.results36, go_sem, q0, q1]) rfl ⟨rfl, ?_⟩
  exact ((B0.trans (b1.mono B0.size)).setCell (by simp) _).setCell (by simp) _
theorem byType_yes (t : Int) (w : World) (hw : TW w) (ht : 1 ≤ t ∧ t ≤ 3) :
    Calls Tryd.prog 36 #[.int .i64 t] w fun e w' => e = .returned (.tuple #[.agg #[.int .i64 t, .string (wordOf t)], .bool true]) ∧ Below w.heap.size w w' := by
  have h3 : t = 1 ∨ t = 2 ∨ t = 3 := by omega
  rcases h3 with rfl | rfl | rfl
  · exact byType_as 1 1 _ true w hw fun p W hW hp => findT_1 1 p W hW hp rfl
  · exact byType_as 2 2 _ true w hw fun p W hW hp => findT_2 2 p W hW hp rfl rfl
  · exact byType_as 3 3 _ true w hw fun p W hW hp => findT_3 3 p W hW hp rfl rfl rfl
theorem byType_no (t : Int) (w : World) (hw : TW w) (ht : ¬ (1 ≤ t ∧ t ≤ 3)) :
    Calls Tryd.prog 36 #[.int .i64 t] w fun e w' => e = .returned (.tuple #[.agg #[.int .i64 0, .string ⟨#[]⟩], .bool false]) ∧ Below w.heap.size w w' :=
  byType_as t 0 _ false w hw fun p W hW hp => findT_0 t p W hW hp (by simp; omega) (by simp; omega) (by simp; omega)

/-- An error by its number. -/
def errR (k : Int) : Value := if k = 0 then .nilIface else .iface 53 (.int .i64 k)
theorem errR_z {k : Int} (h : k = 0) : errR k = .nilIface := by rw [errR, if_pos h]
theorem errR_n {k : Int} (h : k ≠ 0) : errR k = .iface 53 (.int .i64 k) := by rw [errR, if_neg h]
/-- The fault of a column behind others. -/
def colE (ahead : List (ByteArray × Int)) (nm : List UInt8) (t : Int) : Int :=
  if nameB nm = false then 2 else if ¬ (1 ≤ t ∧ t ≤ 3) then 1 else if 0 ≤ findN nm ahead then 7 else 0
def schGo : List (ByteArray × Int) → List (ByteArray × Int) → Int
  | _, [] => 0
  | a, c :: r => if colE a c.1.data.toList c.2 ≠ 0 then colE a c.1.data.toList c.2 else schGo (a ++ [c]) r
/-- The fault of a schema. -/
def schE (zs : List (ByteArray × Int)) : Int := if zs.length = 0 then 5 else if 6 < zs.length then 4 else schGo [] zs

set_option maxHeartbeats 2000000 in
theorem checkCol_any (nm : ByteArray) (t : Int) (b off c : Nat) (zs : List (ByteArray × Int)) (w : World) (hs : nm.size ≤ maxLen) (hw : TW w) (hn : zs.length ≤ 9223372036854775807) (hc : ColsIn w b off zs) :
    Calls Tryd.prog 26 #[.agg #[.string nm, .int .i64 t], .slice (some ⟨b, off, none⟩) zs.length c] w fun e w' => e = .returned (errR (colE zs nm.data.toList t)) ∧ Below w.heap.size w w' := by
  have B0 : Below w.heap.size w (w.alloc (.cells #[.string nm, .int .i64 t] 33)) := (Below.refl _ _).alloc (Nat.le_refl _) _
  obtain ⟨r0, r1, _, _⟩ := Pair.new w (.string nm) (.int .i64 t) 33
  have hcE : colE zs nm.data.toList t = if nameB nm.data.toList = false then 2 else if ¬ (1 ≤ t ∧ t ≤ 3) then 1 else if 0 ≤ findN nm.data.toList zs then 7 else 0 := rfl
  by_cases h1 : nameB nm.data.toList = false
  · rw [if_pos h1] at hcE
    rw [hcE]
    clear hcE
    have cN := isName_any nm (w.alloc (.cells #[.string nm, .int .i64 t] 33)) hs
    rw [h1] at cN
    go_enter Tryd.func26, Tryd.ntmps26
    go_wp2_with fail
    refine cN.mono ?_
    rintro e w1 ⟨rfl, b1⟩
    go_wp2
    go_ret
    exact ⟨rfl, B0.trans (b1.mono B0.size)⟩
  · rw [if_neg h1] at hcE
    have cN := isName_any nm (w.alloc (.cells #[.string nm, .int .i64 t] 33)) hs
    rw [show nameB nm.data.toList = true by simpa using h1] at cN
    clear h1
    by_cases h2 : 1 ≤ t ∧ t ≤ 3
    · rw [if_neg (by simpa using h2)] at hcE
      generalize hf : findN nm.data.toList zs = fi at hcE
      have HF : Hid (findN nm.data.toList zs = fi) := hf
      clear hf
      have cT : ∀ W, TW W → _ := fun W hW => byType_yes t W hW h2
      generalize wordOf t = wd at cT
      go_enter Tryd.func26, Tryd.ntmps26
      go_wp2_with fail
      refine cN.mono ?_
      rintro e w1 ⟨rfl, b1⟩
      obtain ⟨hc1, hf1⟩ := bcells b1
      have l1 : w.heap.size < w1.heap.size := by have := b1.size; simp at this; omega
      have q0 := (hc1 w.heap.size 0 (by simp)).trans r0
      have q1 := (hc1 w.heap.size 1 (by simp)).trans r1
      have B1 := B0.trans (b1.mono B0.size)
      clear hc1 hf1 b1
      go_wp2_with fail
      refine (cT w1 (hw.on B1)).mono ?_
      rintro e w2 ⟨rfl, b2⟩
      obtain ⟨hc2, hf2⟩ := bcells b2
      have l2 : w.heap.size < w2.heap.size := by have := b2.size; omega
      have p0 := (hc2 w.heap.size 0 l1).trans q0
      have p1 := (hc2 w.heap.size 1 l1).trans q1
      have B2 := B1.trans (b2.mono B1.size)
      clear hc2 hf2 b2 q0 q1 l1
      go_wp2_with fail
      have B3 := B2.alloc B2.size (.cells #[.int .i64 t, .string wd] 86)
      refine (place_any nm b off c zs _ hn (hc.on B3)).mono ?_
      rintro e w3 ⟨rfl, b3⟩
      have B4 := B3.trans (b3.mono B3.size)
      rw [HF.out]
      by_cases h3 : 0 ≤ fi
      · rw [if_pos h3] at hcE
        go_wp2
        go_ret
        exact ⟨by rw [hcE]; rfl, B4⟩
      · rw [if_neg h3] at hcE
        go_wp2
        go_ret
        exact ⟨by rw [hcE]; rfl, B4⟩
    · rw [if_pos h2] at hcE
      rw [hcE]
      clear hcE
      have cT : ∀ W, TW W → _ := fun W hW => byType_no t W hW h2
      clear h2
      go_enter Tryd.func26, Tryd.ntmps26
      go_wp2_with fail
      refine cN.mono ?_
      rintro e w1 ⟨rfl, b1⟩
      obtain ⟨hc1, hf1⟩ := bcells b1
      have l1 : w.heap.size < w1.heap.size := by have := b1.size; simp at this; omega
      have q0 := (hc1 w.heap.size 0 (by simp)).trans r0
      have q1 := (hc1 w.heap.size 1 (by simp)).trans r1
      have B1 := B0.trans (b1.mono B0.size)
      clear hc1 hf1 b1
      go_wp2_with fail
      refine (cT w1 (hw.on B1)).mono ?_
      rintro e w2 ⟨rfl, b2⟩
      have B2 := B1.trans (b2.mono B1.size)
      go_wp2
      go_ret
      exact ⟨rfl, B2.alloc B2.size _⟩
end Go.Proofs.YtnpinbpjfngknaaDoor
