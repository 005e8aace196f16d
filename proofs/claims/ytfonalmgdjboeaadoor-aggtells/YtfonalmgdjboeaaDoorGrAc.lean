/-
  Shelf, Clone, ValFr, AgM, AgN, in one text.
-/
import Derived.Shelf.Small.Wraps
import Derived.Shelf.LaysM
import Derived.Shelf.Strconv.Clone
import Derived.Ground.Names2Prog
import Derived.Shelf.Slices.SearchI
import Derived.Test.YtfonalmgdjboeaaDoorProg
import Derived.WalkKit
import Derived.Below
import Derived.Test.YtfonalmgdjboeaaDoorGrAa
import Derived.Test.YtfonalmgdjboeaaDoorGrAb
import Derived.Deep.RegionWith
namespace Go.Proofs
open Go.Shelf
def Tryd.laysM316_ren : Go.Shelf.Ren := ⟨fun | 316 => 47 | n => n, fun | 9 => 9 | 3 => 3 | 4 => 4 | 37 => 104 | 0 => 0 | 127 => 105 | 5 => 5 | n => n, fun | n => n⟩
theorem Tryd.laysM316 : Go.Proofs.LaysM.n316 Tryd.prog Tryd.laysM316_ren := {
  mixed := by kernel_rfl
  f316 := Tryd.func47.trans (congrArg some (by kernel_rfl))
  t0 := Tryd.underlying0
  a0 := Tryd.isAgg0
  z0 := Tryd.sizeOf0
  v0 := Tryd.zeroValue0
  t3 := Tryd.underlying3
  a3 := Tryd.isAgg3
  z3 := Tryd.sizeOf3
  v3 := Tryd.zeroValue3
  t4 := Tryd.underlying4
  a4 := Tryd.isAgg4
  z4 := Tryd.sizeOf4
  v4 := Tryd.zeroValue4
  t9 := Tryd.underlying9
  a9 := Tryd.isAgg9
  z9 := Tryd.sizeOf9
  v9 := Tryd.zeroValue9
  t37 := Tryd.underlying104
  a37 := Tryd.isAgg104
  z37 := Tryd.sizeOf104
  v37 := Tryd.zeroValue104
  t127 := Tryd.underlying105
  a127 := Tryd.isAgg105
  z127 := Tryd.sizeOf105
  v127 := Tryd.zeroValue105
  t5 := Tryd.underlying5
  a5 := Tryd.isAgg5
  z5 := Tryd.sizeOf5
  v5 := Tryd.zeroValue5
  i0 := by kernel_rfl
  i3 := by kernel_rfl
  i4 := by kernel_rfl
  i5 := by kernel_rfl
  i9 := by kernel_rfl
  i37 := by kernel_rfl
  i127 := by kernel_rfl }
open Go.RowKit in
theorem Tryd.stringslite_Clone (s : ByteArray) (w : World) (hlim : s.size ≤ 281474976710656) :
    Calls Tryd.prog 47 #[.string s] w fun e w' => e = .returned (.string s) ∧ Below w.heap.size w w' := Any.stringslite_Clone Tryd.laysM316 s w hlim
end Go.Proofs
namespace Go.Proofs.YtfonalmgdjboeaaDoor
open Go.RowKit

theorem clone_any (s : ByteArray) (w : World) (hs : s.size ≤ 281474976710656) :
    Calls Tryd.prog 39 #[.string s] w fun e w' => e = .returned (.string s) ∧ Below w.heap.size w w' := by
  go_enter Tryd.func39, Tryd.ntmps39
  go_wp2_with fail
  refine (Tryd.stringslite_Clone s _ hs).mono ?_
  rintro e w1 ⟨rfl, b1⟩
  go_wp2
  go_ret
  exact ⟨rfl, b1⟩
end Go.Proofs.YtfonalmgdjboeaaDoor
namespace Go.Proofs.YtfonalmgdjboeaaDoor
open Go.RowKit
set_option linter.unusedVariables false

theorem valFresh_any (t n : Int) (s : ByteArray) (w : World) (hs : s.size ≤ 281474976710656) : Calls Tryd.prog 44 #[.agg #[.int .i64 t, .int .i64 n, .string s]] w fun e w' => e = .returned (.agg #[.int .i64 t, .int .i64 n, .string s]) ∧ Below w.heap.size w w' := by
  have c := fun W => clone_any s W hs
  have b1 : Below w.heap.size w ((w.alloc (.cells #[.int .i64 t, .int .i64 n, .string s] 26)).alloc (.cells #[.int .i64 0, .int .i64 0, .string ⟨#[]⟩] 26)) := ((Below.refl _ w).alloc (Nat.le_refl _) _).alloc (by simp) _
  go_enter Tryd.func44, Tryd.ntmps44
  go_wp2_with fail
  refine (c _).mono ?_
  rintro e w1 ⟨rfl, b2⟩
  obtain ⟨k1, k2, hl1⟩ := box_at _ _ _ b2 (by simp)
  obtain ⟨j1, j2, hl0⟩ := box_at w _ _ (((Below.refl _ (w.alloc (.cells #[.int .i64 t, .int .i64 n, .string s] 26))).alloc (Nat.le_refl _) _).trans (b2.mono (by simp))) (by simp)
  simp at k1 k2 hl1 j1 j2
  have f0 : w1.cell? ⟨w.heap.size + 1, 0, none⟩ = some (.int .i64 0) := k1 0
  have f1 : w1.cell? ⟨w.heap.size + 1, 1, none⟩ = some (.int .i64 0) := k1 1
  have f2 : w1.cell? ⟨w.heap.size + 1, 2, none⟩ = some (.string ⟨#[]⟩) := k1 2
  have g0 : w1.cell? ⟨w.heap.size, 0, none⟩ = some (.int .i64 t) := j1 0
  have g1 : w1.cell? ⟨w.heap.size, 1, none⟩ = some (.int .i64 n) := j1 1
  have g2 : w1.cell? ⟨w.heap.size, 2, none⟩ = some (.string s) := j1 2
  have b4 : Below w.heap.size w w1 := b1.trans (b2.mono b1.size)
  clear c b1 b2 k1 j1
  go_wp2
  refine bodyPost_ret (v := .agg #[.int .i64 t, .int .i64 n, .string s]) (by simp [results, Tryd.results44, go_sem, World.cell?_setCell_other, World.cell?_setCell_same, f0, f1, f2]) rfl ⟨rfl, ?_⟩
  exact (((b4.setCell (p := ⟨w.heap.size, 2, none⟩) (Nat.le_refl _) _).setCell (p := ⟨w.heap.size + 1, 0, none⟩) (by simp) _).setCell (p := ⟨w.heap.size + 1, 1, none⟩) (by simp) _).setCell (p := ⟨w.heap.size + 1, 2, none⟩) (by simp) _
end Go.Proofs.YtfonalmgdjboeaaDoor
namespace Go.Proofs.YtfonalmgdjboeaaDoor
open Go.RowKit
set_option linter.unusedVariables false

/-- A part lies at a place of a block. -/
structure PartIs (w : World) (b off : Nat) (p : Pt) (q : Option Addr) (c : Nat) : Prop where
  c0 : w.cell? ⟨b, off, none⟩ = some (.string p.what)
  c1 : w.cell? ⟨b, off + 1, none⟩ = some (.int .i64 p.kind)
  c2 : w.cell? ⟨b, off + 2, none⟩ = some (.slice q p.ws.length c)
  c3 : w.cell? ⟨b, off + 3, none⟩ = some (.int .i64 p.best.1)
  c4 : w.cell? ⟨b, off + 4, none⟩ = some (.int .i64 p.best.2.1)
  c5 : w.cell? ⟨b, off + 5, none⟩ = some (.string p.best.2.2)
  tot : TotA w (.slice q p.ws.length c) p.ws
  lt : b < w.heap.size
theorem PartIs.on {w w' : World} {b off : Nat} {p : Pt} {q : Option Addr} {c : Nat} (h : PartIs w b off p q c) (hb : Below w.heap.size w w') : PartIs w' b off p q c := by
  obtain ⟨c0, c1, c2, c3, c4, c5, t, lt⟩ := h
  have k : ∀ o, w'.cell? ⟨b, o, none⟩ = w.cell? ⟨b, o, none⟩ := fun o => hb.cell (p := ⟨b, o, none⟩) lt
  exact ⟨by rw [k]; exact c0, by rw [k]; exact c1, by rw [k]; exact c2, by rw [k]; exact c3, by rw [k]; exact c4, by rw [k]; exact c5, t.on hb, by have := hb.size; omega⟩
/-- A part as the walk has it. -/
def partW (p : Pt) (q : Option Addr) (c : Nat) : Value := .agg #[.string p.what, .int .i64 p.kind, .slice q p.ws.length c, .int .i64 p.best.1, .int .i64 p.best.2.1, .string p.best.2.2]
theorem isEmpty_any (b off : Nat) (t : Int) (w : World) (h : w.cell? ⟨b, off + 3, none⟩ = some (.int .i64 t)) :
    Calls Tryd.prog 46 #[.pointer (some ⟨b, off, none⟩)] w fun e w' => e = .returned (.bool (t == 0)) ∧ w' = w := by
  go_enter Tryd.func46, Tryd.ntmps46
  go_wp2
  go_ret
  exact ⟨rfl, rfl⟩
set_option maxHeartbeats 2000000 in
theorem isAhead_any (b off b2 off2 : Nat) (p o : Pt) (q q2 : Option Addr) (c c2 : Nat) (w : World) (hp : PartIs w b off p q c) (ho : PartIs w b2 off2 o q2 c2) (kp : OkPt p) (ko : OkPt o) (hk : p.kind = o.kind) :
    Calls Tryd.prog 54 #[.pointer (some ⟨b, off, none⟩), .pointer (some ⟨b2, off2, none⟩)] w fun e w' => e = .returned (.bool (aheadP p o)) ∧ Below w.heap.size w w' := by
  have e1 := isEmpty_any b off p.best.1 w hp.c3
  have e2 := isEmpty_any b2 off2 o.best.1 w ho.c3
  by_cases h1 : p.best.1 = 0
  · have hA : aheadP p o = false := by rw [aheadP, if_pos (.inl h1)]; simp [h1]
    rw [hA]
    rw [h1, show ((0 : Int) == 0) = true from rfl] at e1
    clear hA e2
    go_enter Tryd.func54, Tryd.ntmps54
    go_wp2_with fail
    refine e1.mono ?_
    rintro e w1 ⟨rfl, rfl⟩
    go_wp2_with fail
    refine e1.mono ?_
    rintro e w1 ⟨rfl, rfl⟩
    go_wp2
    go_ret
    exact ⟨rfl, Below.refl _ _⟩
  · have hb1 : (p.best.1 == 0) = false := by simpa using h1
    rw [hb1] at e1
    by_cases h2 : o.best.1 = 0
    · have hA : aheadP p o = true := by rw [aheadP, if_pos (.inr h2)]; simp [h1]
      rw [hA]
      rw [h2, show ((0 : Int) == 0) = true from rfl] at e2
      clear hA hb1
      go_enter Tryd.func54, Tryd.ntmps54
      go_wp2_with fail
      refine e1.mono ?_
      rintro e w1 ⟨rfl, rfl⟩
      go_wp2_with fail
      refine e2.mono ?_
      rintro e w1 ⟨rfl, rfl⟩
      go_wp2_with fail
      refine e1.mono ?_
      rintro e w1 ⟨rfl, rfl⟩
      go_wp2
      go_ret
      exact ⟨rfl, Below.refl _ _⟩
    · have hb2 : (o.best.1 == 0) = false := by simpa using h2
      rw [hb2] at e2
      have b1 := kp.best.resolve_left (fun h => h1 h.1)
      have b2' := ko.best.resolve_left (fun h => h2 h.1)
      have hcE : cmpE p.best.1 p.best.2.1 p.best.2.2.data.toList o.best.1 o.best.2.1 o.best.2.2.data.toList = 0 := by
        rw [cmpE, if_neg (by rw [b1.2.1]; simp), if_neg (by rw [b2'.2.1]; simp), if_neg (by rw [b1.1, b2'.1, hk]; simp)]
      have s1 : p.best.2.2.size ≤ maxLen := by have := chk_size b1.2.1; simp at this; unfold maxLen; omega
      have s2 : o.best.2.2.size ≤ maxLen := by have := chk_size b2'.2.1; simp at this; unfold maxLen; omega
      have cC := fun W => compare_any p.best.1 p.best.2.1 p.best.2.2 o.best.1 o.best.2.1 o.best.2.2 W s1 s2
      rw [hcE, show errV 0 = .nilIface from rfl] at cC
      have hA : aheadP p o = if p.wh = wLeast then decide (cmpX p.best o.best < 0) else decide (0 < cmpX p.best o.best) := by rw [aheadP, if_neg (by rintro (h | h); exact h1 h; exact h2 h)]
      have hX : cmpN p.best.1 p.best.2.1 p.best.2.2.data.toList o.best.1 o.best.2.1 o.best.2.2.data.toList = cmpX p.best o.best := rfl
      rw [hX] at cC
      generalize aheadP p o = R at hA ⊢
      generalize cmpX p.best o.best = X at hA cC
      have hp0 := hp.c0
      have hp3 := hp.c3
      have hp4 := hp.c4
      have hp5 := hp.c5
      have ho3 := ho.c3
      have ho4 := ho.c4
      have ho5 := ho.c5
      have hpl := hp.lt
      have hol := ho.lt
      generalize p.best.1 = pt at *
      generalize p.best.2.1 = pn at *
      generalize p.best.2.2 = ps at *
      generalize o.best.1 = ot at *
      generalize o.best.2.1 = on at *
      generalize o.best.2.2 = os at *
      have hA2 : Hid (R = if p.what.data.toList = wLeast then decide (X < 0) else decide (0 < X)) := hA
      generalize p.what = x at *
      clear hp ho kp ko hA b1 b2' hcE hX hk
      go_enter Tryd.func54, Tryd.ntmps54
      go_wp2_with fail
      refine e1.mono ?_
      rintro e w1 ⟨rfl, rfl⟩
      go_wp2_with fail
      refine e2.mono ?_
      rintro e w1 ⟨rfl, rfl⟩
      clear e1 e2
      go_wp2
      go_region_with (go_at_call 62; refine (cC _).mono ?_; rintro e w2 ⟨rfl, B2⟩; have B3 : Below w1.heap.size w1 w2 := (Below.drew (Below.refl _ w1)).trans B2; have hp0' : w2.cell? ⟨b, off, none⟩ = some (.string x) := by rw [B3.cell (p := ⟨b, off, none⟩) hpl]; exact hp0)
      all_goals
        by_cases hx : x.data.toList = wLeast
        · have hq : (x.toList == [108, 101, 97, 115, 116]) = true := by rw [Lib.toList_data]; simpa [wLeast] using hx
          have hR := hA2.out
          rw [if_pos hx] at hR
          subst hR
          clear hA2 hx
          go_wp2
          go_ret
          exact ⟨rfl, B3⟩
        · have hq : (x.toList == [108, 101, 97, 115, 116]) = false := by rw [Lib.toList_data]; simpa [wLeast] using hx
          have hR := hA2.out
          rw [if_neg hx] at hR
          subst hR
          clear hA2 hx
          go_wp2
          go_ret
          exact ⟨rfl, B3⟩
theorem sum_ne {x : ByteArray} {l : List UInt8} (h : x.data.toList = l) : (x.toList == l) = true := by rw [Lib.toList_data]; simpa using h
theorem sum_no {x : ByteArray} {l : List UInt8} (h : x.data.toList ≠ l) : (x.toList == l) = false := by rw [Lib.toList_data]; simpa using h
set_option maxHeartbeats 2000000 in
/-- What is wrong with a value. -/
theorem ptCheck_any (b off : Nat) (x : ByteArray) (k t n : Int) (s : ByteArray) (w : World) (h0 : w.cell? ⟨b, off, none⟩ = some (.string x)) (h1 : w.cell? ⟨b, off + 1, none⟩ = some (.int .i64 k)) (hl : b < w.heap.size) (hs : s.size ≤ maxLen)
    (E : Int) (hE : (if x.data.toList = wCount then 0 else if chk t n s.data.toList ≠ 0 then chk t n s.data.toList else if t ≠ k then 8 else 0) = E) :
    Calls Tryd.prog 22 #[.pointer (some ⟨b, off, none⟩), .agg #[.int .i64 t, .int .i64 n, .string s]] w fun e w' => e = .returned (errV E) ∧ Below w.heap.size w w' := by
  have cC := fun W => check_any t n s W hs
  have B1 : Below w.heap.size w (w.alloc (.cells #[.int .i64 t, .int .i64 n, .string s] 26)) := alB _ _
  by_cases hx : x.data.toList = wCount
  · rw [if_pos hx] at hE
    subst hE
    have hq := sum_ne hx
    simp only [wCount] at hq
    rw [show errV 0 = .nilIface from rfl]
    clear cC hx
    go_enter Tryd.func22, Tryd.ntmps22
    go_wp2
    go_ret
    exact ⟨rfl, B1⟩
  · rw [if_neg hx] at hE
    have hq := sum_no hx
    simp only [wCount] at hq
    clear hx
    by_cases hc : chk t n s.data.toList = 0
    · rw [if_neg (fun h => h hc)] at hE
      rw [hc, show errV 0 = .nilIface from rfl] at cC
      clear hc
      by_cases ht : t = k
      · rw [if_neg (fun h => h ht)] at hE
        subst hE ht
        rw [show errV 0 = .nilIface from rfl]
        have qt : (t != t) = false := by simp
        go_enter Tryd.func22, Tryd.ntmps22
        go_wp2_with fail
        refine (cC _).mono ?_
        rintro e w1 ⟨rfl, B2⟩
        obtain ⟨k1, k2, k3⟩ := box_at w _ _ B2 (by simp)
        have f0 : w1.cell? ⟨w.heap.size, 0, none⟩ = some (.int .i64 t) := k1 0
        have B3 : Below w.heap.size w w1 := B1.trans (B2.mono B1.size)
        have f1 : w1.cell? ⟨b, off + 1, none⟩ = some (.int .i64 t) := by rw [B3.cell (p := ⟨b, off + 1, none⟩) hl]; exact h1
        clear cC B2 k1 k2 h0 h1
        go_wp2
        go_quiet (fail)
        go_wp2
        go_ret
        exact ⟨rfl, below_drewN B3 _⟩
      · rw [if_pos ht] at hE
        subst hE
        rw [show errV 8 = .iface 53 (.int .i64 8) from rfl]
        have qt : (t != k) = true := by simpa using ht
        go_enter Tryd.func22, Tryd.ntmps22
        go_wp2_with fail
        refine (cC _).mono ?_
        rintro e w1 ⟨rfl, B2⟩
        obtain ⟨k1, k2, k3⟩ := box_at w _ _ B2 (by simp)
        have f0 : w1.cell? ⟨w.heap.size, 0, none⟩ = some (.int .i64 t) := k1 0
        have B3 : Below w.heap.size w w1 := B1.trans (B2.mono B1.size)
        have f1 : w1.cell? ⟨b, off + 1, none⟩ = some (.int .i64 k) := by rw [B3.cell (p := ⟨b, off + 1, none⟩) hl]; exact h1
        clear cC B2 k1 k2 h0 h1
        go_wp2
        go_quiet (fail)
        go_wp2
        go_ret
        exact ⟨rfl, below_drewN B3 _⟩
    · rw [if_pos hc] at hE
      have cB := fun W => check_bad t n s W hs hc
      rw [hE] at cB hc
      rw [errV, if_neg hc]
      clear cC hE hc
      go_enter Tryd.func22, Tryd.ntmps22
      go_wp2_with fail
      refine (cB _).mono ?_
      rintro e w1 ⟨rfl, B2⟩
      have B3 : Below w.heap.size w w1 := B1.trans (B2.mono B1.size)
      clear cB B2 h0 h1
      go_wp2
      go_ret
      exact ⟨rfl, B3⟩
end Go.Proofs.YtfonalmgdjboeaaDoor
namespace Go.Proofs.YtfonalmgdjboeaaDoor
open Go.RowKit
set_option linter.unusedVariables false

theorem tot_one (w : World) (x : Int) (g : Nat) (hg : g = w.heap.size) (hx : 0 ≤ x ∧ x < 18446744073709551616) : TotA (w.alloc (.cells #[.int .u64 x] 84)) (.slice (some ⟨g, 0, none⟩) 1 1) [x] := by
  subst hg
  refine ⟨_, 1, rfl, ⟨Nat.le_refl _, by simp⟩, (fun hp => nomatch hp), fun y hy => (List.mem_singleton.1 hy) ▸ hx, fun a ha => ?_⟩
  injection ha with ha
  subst ha
  refine ⟨w.heap.size, 0, rfl, ⟨_, heap_alloc_new w _⟩, fun j hj => ?_⟩
  obtain rfl : j = 0 := by simp at hj; omega
  rw [World.cell?_alloc_at _ _ _ _ rfl]; rfl
theorem size_valB : (Tryd.prog.info? 26).map (·.size) = some 3 := by kernel_rfl
theorem size_partB : (Tryd.prog.info? 60).map (·.size) = some 6 := by kernel_rfl
theorem one_v3 (t n : Int) (s : ByteArray) : (#[Value.int .i64 t, .int .i64 n, .string s]).all (·.oneCell') = true := by simp [Value.oneCell']
theorem one_p6 (x : ByteArray) (k : Int) (q : Option Addr) (m c : Nat) (t n : Int) (s : ByteArray) : (#[Value.string x, .int .i64 k, .slice q m c, .int .i64 t, .int .i64 n, .string s]).all (·.oneCell') = true := by simp [Value.oneCell']
theorem al2 (w : World) (o1 o2 : Obj) : Below w.heap.size w ((w.alloc o1).alloc o2) := ((Below.refl _ w).alloc (Nat.le_refl _) _).alloc (by simp) _
theorem al3 (w : World) (o1 o2 o3 : Obj) : Below w.heap.size w (((w.alloc o1).alloc o2).alloc o3) := (al2 w o1 o2).alloc (by simp; omega) _
set_option maxHeartbeats 2000000 in
set_option maxRecDepth 20000 in
theorem ofOne_sum (b off : Nat) (x : ByteArray) (k t n : Int) (s : ByteArray) (w : World) (h0 : w.cell? ⟨b, off, none⟩ = some (.string x)) (h1 : w.cell? ⟨b, off + 1, none⟩ = some (.int .i64 k)) (hl : b < w.heap.size) (hx : x.data.toList = wSum) :
    Calls Tryd.prog 25 #[.pointer (some ⟨b, off, none⟩), .agg #[.int .i64 t, .int .i64 n, .string s]] w fun e w' => (∃ g, e = .returned (.agg #[.string x, .int .i64 k, .slice (some ⟨g, 0, none⟩) 1 1, .int .i64 0, .int .i64 0, .string ⟨#[]⟩]) ∧ Aside (TotA w' (.slice (some ⟨g, 0, none⟩) 1 1) [n % 18446744073709551616])) ∧ Below w.heap.size w w' := by
  have hq := sum_ne hx
  simp only [wSum] at hq
  have hwr : IntKind.u64.wrap n = n % 18446744073709551616 := by rw [IntKind.wrap_u64]
  clear hx
  have hc0 : ∀ o1 o2 o3 : Obj, (((w.alloc o1).alloc o2).alloc o3).cell? ⟨b, off, none⟩ = some (.string x) := fun o1 o2 o3 => by rw [(al3 w o1 o2 o3).cell (p := ⟨b, off, none⟩) hl]; exact h0
  have hc1 : ∀ o1 o2 o3 : Obj, (((w.alloc o1).alloc o2).alloc o3).cell? ⟨b, off + 1, none⟩ = some (.int .i64 k) := fun o1 o2 o3 => by rw [(al3 w o1 o2 o3).cell (p := ⟨b, off + 1, none⟩) hl]; exact h1
  have hd0 : ∀ o1 o2 : Obj, ((w.alloc o1).alloc o2).cell? ⟨b, off, none⟩ = some (.string x) := fun o1 o2 => by rw [(al2 w o1 o2).cell (p := ⟨b, off, none⟩) hl]; exact h0
  have hd1 : ∀ o1 o2 : Obj, ((w.alloc o1).alloc o2).cell? ⟨b, off + 1, none⟩ = some (.int .i64 k) := fun o1 o2 => by rw [(al2 w o1 o2).cell (p := ⟨b, off + 1, none⟩) hl]; exact h1
  go_enter Tryd.func25, Tryd.ntmps25
  go_wp2
  go_region
  all_goals
    go_wp2
    refine bodyPost_ret (v := .agg #[.string x, .int .i64 k, .slice (some ⟨w.heap.size + 1 + 1 + 1, 0, none⟩) 1 1, .int .i64 0, .int .i64 0, .string ⟨#[]⟩]) (by simp [results, Tryd.results25, go_sem]) rfl ⟨⟨_, rfl, ?_⟩, ?_⟩
    · exact (show Aside _ from (tot_one _ _ _ (by simp) (by omega)).on (Below.drew (Below.refl _ _)))
    · exact Below.drew ((al3 w _ _ _).alloc (by simp; omega) _)
set_option maxHeartbeats 2000000 in
set_option maxRecDepth 20000 in
theorem ofOne_best (b off : Nat) (x : ByteArray) (k t n : Int) (s : ByteArray) (w : World) (h0 : w.cell? ⟨b, off, none⟩ = some (.string x)) (h1 : w.cell? ⟨b, off + 1, none⟩ = some (.int .i64 k)) (hl : b < w.heap.size) (hs : s.size ≤ 281474976710656) (hx : x.data.toList = wLeast ∨ x.data.toList = wMost) :
    Calls Tryd.prog 25 #[.pointer (some ⟨b, off, none⟩), .agg #[.int .i64 t, .int .i64 n, .string s]] w fun e w' => e = .returned (.agg #[.string x, .int .i64 k, .slice none 0 0, .int .i64 t, .int .i64 n, .string s]) ∧ Below w.heap.size w w' := by
  have hq0 : (x.toList == [115, 117, 109]) = false := sum_no (by rcases hx with h | h <;> rw [h] <;> decide)
  have cF := fun W => valFresh_any t n s W hs
  have hc0 : ∀ o1 o2 o3 : Obj, (((w.alloc o1).alloc o2).alloc o3).cell? ⟨b, off, none⟩ = some (.string x) := fun o1 o2 o3 => by rw [(al3 w o1 o2 o3).cell (p := ⟨b, off, none⟩) hl]; exact h0
  have hc1 : ∀ o1 o2 o3 : Obj, (((w.alloc o1).alloc o2).alloc o3).cell? ⟨b, off + 1, none⟩ = some (.int .i64 k) := fun o1 o2 o3 => by rw [(al3 w o1 o2 o3).cell (p := ⟨b, off + 1, none⟩) hl]; exact h1
  have hd0 : ∀ o1 o2 : Obj, ((w.alloc o1).alloc o2).cell? ⟨b, off, none⟩ = some (.string x) := fun o1 o2 => by rw [(al2 w o1 o2).cell (p := ⟨b, off, none⟩) hl]; exact h0
  have hd1 : ∀ o1 o2 : Obj, ((w.alloc o1).alloc o2).cell? ⟨b, off + 1, none⟩ = some (.int .i64 k) := fun o1 o2 => by rw [(al2 w o1 o2).cell (p := ⟨b, off + 1, none⟩) hl]; exact h1
  rcases hx with hx | hx
  · have hq := sum_ne hx
    simp only [wLeast] at hq
    clear hx
    go_enter Tryd.func25, Tryd.ntmps25
    go_wp2
    go_region
    all_goals
      go_wp2_with fail
      refine (cF _).mono ?_
      rintro e w1 ⟨rfl, B1⟩
      have P1 : Blk w1 (w.heap.size + 1) #[.string ⟨#[]⟩, .int .i64 0, .slice none 0 0, .int .i64 0, .int .i64 0, .string ⟨#[]⟩] 60 := by
        refine Blk.on (w := World.drew _) ?_ B1
        have := blk_alloc (w.alloc (.cells #[.int .i64 t, .int .i64 n, .string s] 26)) #[.string ⟨#[]⟩, .int .i64 0, .slice none 0 0, .int .i64 0, .int .i64 0, .string ⟨#[]⟩] 60
        have := this.on (alB _ (.cells #[.string x, .int .i64 k, .slice none 0 0, .int .i64 0, .int .i64 0, .string ⟨#[]⟩] 60))
        exact Blk.drew (by simpa using this)
      have P2 : Blk w1 (w.heap.size + 1 + 1) #[.string x, .int .i64 k, .slice none 0 0, .int .i64 0, .int .i64 0, .string ⟨#[]⟩] 60 := by
        refine Blk.on (w := World.drew _) ?_ B1
        have := blk_alloc ((w.alloc (.cells #[.int .i64 t, .int .i64 n, .string s] 26)).alloc (.cells #[.string ⟨#[]⟩, .int .i64 0, .slice none 0 0, .int .i64 0, .int .i64 0, .string ⟨#[]⟩] 60)) #[.string x, .int .i64 k, .slice none 0 0, .int .i64 0, .int .i64 0, .string ⟨#[]⟩] 60
        exact Blk.drew (by simpa using this)
      have B2 : Below w.heap.size w w1 := (Below.drew (al3 w _ _ _)).trans (B1.mono (by simp; omega))
      clear B1 cF hc0 hc1 hd0 hd1
      have hst1 : ∀ {ops : Array Oper} {rest : List Oper} {op : Oper} {a : Act} {Q : Exit → Act → World → Prop} (hgd : op.guard = none) (x' y : Operand) (ho : op.op = .store 26 x' y) (hx : a.eval x' = .pointer (some ⟨w.heap.size + 1 + 1, 3, none⟩)) (hy : a.eval y = .agg #[.int .i64 t, .int .i64 n, .string s]), (∀ W2, Blk W2 (w.heap.size + 1 + 1) #[.string x, .int .i64 k, .slice none 0 0, .int .i64 t, .int .i64 n, .string s] 60 → Blk W2 (w.heap.size + 1) #[.string ⟨#[]⟩, .int .i64 0, .slice none 0 0, .int .i64 0, .int .i64 0, .string ⟨#[]⟩] 60 → Below w.heap.size w W2 → wpList Tryd.prog ops Q rest (a.put op.dst undef) W2) → wpList Tryd.prog ops Q (op :: rest) a w1 := fun hgd x' y ho hx hy h =>
        wpList_store_blk hgd 26 x' y ho (w.heap.size + 1 + 1) 3 _ hx hy _ _ P2 (by simp) size_valB (one_v3 _ _ _) fun W2 P3 K3 => h W2 (by simpa only [putA, List.setIfInBounds_toArray, List.set_cons_zero, List.set_cons_succ, Nat.reduceAdd] using P3) (P1.but K3 (by omega)) (B2.trans (K3.below.mono (by omega)))
      clear P1 P2 B2
      go_wp2_with (first
        | (refine hst1 rfl _ _ rfl rfl rfl ?_; intro W2 P3 P4 B3; clear hst1)
        | (refine wpList_load_blk rfl 60 _ rfl (w.heap.size + 1 + 1) 0 rfl _ _ P3 [.string x, .int .i64 k, .slice none 0 0, .int .i64 t, .int .i64 n, .string s] (fun j v hv => by simpa using hv) _ Tryd.underlying60 rfl size_partB ?_)
        | (refine wpList_store_blk rfl 60 _ _ rfl (w.heap.size + 1) 0 #[.string x, .int .i64 k, .slice none 0 0, .int .i64 t, .int .i64 n, .string s] rfl rfl _ _ P4 (by simp) size_partB (one_p6 _ _ _ _ _ _ _ _) ?_; intro W3 P5 K5))
      have B4 : Below w.heap.size w W3 := B3.trans (K5.below.mono (by omega))
      have P6 : Blk W3 (w.heap.size + 1) #[.string x, .int .i64 k, .slice none 0 0, .int .i64 t, .int .i64 n, .string s] 60 := by simpa only [putA, List.setIfInBounds_toArray, List.set_cons_zero, List.set_cons_succ, Nat.reduceAdd] using P5
      have c0 := P6.cell 0
      have c1 := P6.cell 1
      have c2 := P6.cell 2
      have c3 := P6.cell 3
      have c4 := P6.cell 4
      have c5 := P6.cell 5
      simp at c0 c1 c2 c3 c4 c5
      exact bodyPost_ret (v := .agg #[.string x, .int .i64 k, .slice none 0 0, .int .i64 t, .int .i64 n, .string s]) (by simp [results, Tryd.results25, go_sem, c0, c1, c2, c3, c4, c5]) rfl ⟨rfl, B4⟩
  · have hq := sum_ne hx
    have hq1 : (x.toList == [108, 101, 97, 115, 116]) = false := sum_no (by rw [hx]; decide)
    simp only [wMost] at hq
    clear hx
    go_enter Tryd.func25, Tryd.ntmps25
    go_wp2
    go_region
    all_goals
      go_wp2_with fail
      refine (cF _).mono ?_
      rintro e w1 ⟨rfl, B1⟩
      have P1 : Blk w1 (w.heap.size + 1) #[.string ⟨#[]⟩, .int .i64 0, .slice none 0 0, .int .i64 0, .int .i64 0, .string ⟨#[]⟩] 60 := by
        refine Blk.on (w := World.drew _) ?_ B1
        have := blk_alloc (w.alloc (.cells #[.int .i64 t, .int .i64 n, .string s] 26)) #[.string ⟨#[]⟩, .int .i64 0, .slice none 0 0, .int .i64 0, .int .i64 0, .string ⟨#[]⟩] 60
        have := this.on (alB _ (.cells #[.string x, .int .i64 k, .slice none 0 0, .int .i64 0, .int .i64 0, .string ⟨#[]⟩] 60))
        exact Blk.drew (by simpa using this)
      have P2 : Blk w1 (w.heap.size + 1 + 1) #[.string x, .int .i64 k, .slice none 0 0, .int .i64 0, .int .i64 0, .string ⟨#[]⟩] 60 := by
        refine Blk.on (w := World.drew _) ?_ B1
        have := blk_alloc ((w.alloc (.cells #[.int .i64 t, .int .i64 n, .string s] 26)).alloc (.cells #[.string ⟨#[]⟩, .int .i64 0, .slice none 0 0, .int .i64 0, .int .i64 0, .string ⟨#[]⟩] 60)) #[.string x, .int .i64 k, .slice none 0 0, .int .i64 0, .int .i64 0, .string ⟨#[]⟩] 60
        exact Blk.drew (by simpa using this)
      have B2 : Below w.heap.size w w1 := (Below.drew (al3 w _ _ _)).trans (B1.mono (by simp; omega))
      clear B1 cF hc0 hc1 hd0 hd1
      have hst1 : ∀ {ops : Array Oper} {rest : List Oper} {op : Oper} {a : Act} {Q : Exit → Act → World → Prop} (hgd : op.guard = none) (x' y : Operand) (ho : op.op = .store 26 x' y) (hx : a.eval x' = .pointer (some ⟨w.heap.size + 1 + 1, 3, none⟩)) (hy : a.eval y = .agg #[.int .i64 t, .int .i64 n, .string s]), (∀ W2, Blk W2 (w.heap.size + 1 + 1) #[.string x, .int .i64 k, .slice none 0 0, .int .i64 t, .int .i64 n, .string s] 60 → Blk W2 (w.heap.size + 1) #[.string ⟨#[]⟩, .int .i64 0, .slice none 0 0, .int .i64 0, .int .i64 0, .string ⟨#[]⟩] 60 → Below w.heap.size w W2 → wpList Tryd.prog ops Q rest (a.put op.dst undef) W2) → wpList Tryd.prog ops Q (op :: rest) a w1 := fun hgd x' y ho hx hy h =>
        wpList_store_blk hgd 26 x' y ho (w.heap.size + 1 + 1) 3 _ hx hy _ _ P2 (by simp) size_valB (one_v3 _ _ _) fun W2 P3 K3 => h W2 (by simpa only [putA, List.setIfInBounds_toArray, List.set_cons_zero, List.set_cons_succ, Nat.reduceAdd] using P3) (P1.but K3 (by omega)) (B2.trans (K3.below.mono (by omega)))
      clear P1 P2 B2
      go_wp2_with (first
        | (refine hst1 rfl _ _ rfl rfl rfl ?_; intro W2 P3 P4 B3; clear hst1)
        | (refine wpList_load_blk rfl 60 _ rfl (w.heap.size + 1 + 1) 0 rfl _ _ P3 [.string x, .int .i64 k, .slice none 0 0, .int .i64 t, .int .i64 n, .string s] (fun j v hv => by simpa using hv) _ Tryd.underlying60 rfl size_partB ?_)
        | (refine wpList_store_blk rfl 60 _ _ rfl (w.heap.size + 1) 0 #[.string x, .int .i64 k, .slice none 0 0, .int .i64 t, .int .i64 n, .string s] rfl rfl _ _ P4 (by simp) size_partB (one_p6 _ _ _ _ _ _ _ _) ?_; intro W3 P5 K5))
      have B4 : Below w.heap.size w W3 := B3.trans (K5.below.mono (by omega))
      have P6 : Blk W3 (w.heap.size + 1) #[.string x, .int .i64 k, .slice none 0 0, .int .i64 t, .int .i64 n, .string s] 60 := by simpa only [putA, List.setIfInBounds_toArray, List.set_cons_zero, List.set_cons_succ, Nat.reduceAdd] using P5
      have c0 := P6.cell 0
      have c1 := P6.cell 1
      have c2 := P6.cell 2
      have c3 := P6.cell 3
      have c4 := P6.cell 4
      have c5 := P6.cell 5
      simp at c0 c1 c2 c3 c4 c5
      exact bodyPost_ret (v := .agg #[.string x, .int .i64 k, .slice none 0 0, .int .i64 t, .int .i64 n, .string s]) (by simp [results, Tryd.results25, go_sem, c0, c1, c2, c3, c4, c5]) rfl ⟨rfl, B4⟩
set_option maxHeartbeats 2000000 in
set_option maxRecDepth 20000 in
theorem ofOne_count (b off : Nat) (x : ByteArray) (k t n : Int) (s : ByteArray) (w : World) (h0 : w.cell? ⟨b, off, none⟩ = some (.string x)) (h1 : w.cell? ⟨b, off + 1, none⟩ = some (.int .i64 k)) (hl : b < w.heap.size) (hx : x.data.toList = wCount) :
    Calls Tryd.prog 25 #[.pointer (some ⟨b, off, none⟩), .agg #[.int .i64 t, .int .i64 n, .string s]] w fun e w' => e = .returned (.agg #[.string x, .int .i64 k, .slice none 0 0, .int .i64 0, .int .i64 0, .string ⟨#[]⟩]) ∧ Below w.heap.size w w' := by
  have hq0 : (x.toList == [115, 117, 109]) = false := sum_no (by rw [hx]; decide)
  have hq1 : (x.toList == [108, 101, 97, 115, 116]) = false := sum_no (by rw [hx]; decide)
  have hq2 : (x.toList == [109, 111, 115, 116]) = false := sum_no (by rw [hx]; decide)
  have hc0 : ∀ o1 o2 o3 : Obj, (((w.alloc o1).alloc o2).alloc o3).cell? ⟨b, off, none⟩ = some (.string x) := fun o1 o2 o3 => by rw [(al3 w o1 o2 o3).cell (p := ⟨b, off, none⟩) hl]; exact h0
  have hc1 : ∀ o1 o2 o3 : Obj, (((w.alloc o1).alloc o2).alloc o3).cell? ⟨b, off + 1, none⟩ = some (.int .i64 k) := fun o1 o2 o3 => by rw [(al3 w o1 o2 o3).cell (p := ⟨b, off + 1, none⟩) hl]; exact h1
  have hd0 : ∀ o1 o2 : Obj, ((w.alloc o1).alloc o2).cell? ⟨b, off, none⟩ = some (.string x) := fun o1 o2 => by rw [(al2 w o1 o2).cell (p := ⟨b, off, none⟩) hl]; exact h0
  have hd1 : ∀ o1 o2 : Obj, ((w.alloc o1).alloc o2).cell? ⟨b, off + 1, none⟩ = some (.int .i64 k) := fun o1 o2 => by rw [(al2 w o1 o2).cell (p := ⟨b, off + 1, none⟩) hl]; exact h1
  clear hx
  go_enter Tryd.func25, Tryd.ntmps25
  go_wp2
  go_region
  all_goals
    go_wp2
    refine bodyPost_ret (v := .agg #[.string x, .int .i64 k, .slice none 0 0, .int .i64 0, .int .i64 0, .string ⟨#[]⟩]) (by simp [results, Tryd.results25, go_sem]) rfl ⟨rfl, ?_⟩
    exact Below.drew (al3 w _ _ _)
/-- What is known of one value. -/
theorem ofOne_any (b off : Nat) (p : Pt) (v : V3) (w : World) (h0 : w.cell? ⟨b, off, none⟩ = some (.string p.what)) (h1 : w.cell? ⟨b, off + 1, none⟩ = some (.int .i64 p.kind)) (hl : b < w.heap.size) (hag : isAg p.wh = true) (hs : p.wh = wLeast ∨ p.wh = wMost → v.2.2.size ≤ 281474976710656) :
    Calls Tryd.prog 25 #[.pointer (some ⟨b, off, none⟩), .agg #[.int .i64 v.1, .int .i64 v.2.1, .string v.2.2]] w fun e w' => (∃ q c, e = .returned (partW (oneP p v) q c) ∧ Aside (TotA w' (.slice q (oneP p v).ws.length c) (oneP p v).ws)) ∧ Below w.heap.size w w' := by
  rcases isAg_or hag with h | h | h | h
  · have hp : oneP p v = ⟨p.what, p.kind, [], noV⟩ := by rw [oneP, if_neg (by rw [h]; decide), if_neg (by rw [h]; decide)]
    rw [hp]
    exact (ofOne_count b off p.what p.kind v.1 v.2.1 v.2.2 w h0 h1 hl h).mono fun e w' hh => ⟨⟨none, 0, hh.1, TotA.nil _⟩, hh.2⟩
  · have hp : oneP p v = ⟨p.what, p.kind, [v.2.1 % 18446744073709551616], noV⟩ := by rw [oneP, if_pos h]
    rw [hp]
    exact (ofOne_sum b off p.what p.kind v.1 v.2.1 v.2.2 w h0 h1 hl h).mono fun e w' hh => by
      obtain ⟨⟨g, e1, e2⟩, e3⟩ := hh
      exact ⟨⟨some ⟨g, 0, none⟩, 1, e1, e2⟩, e3⟩
  · have hp : oneP p v = ⟨p.what, p.kind, [], v⟩ := by rw [oneP, if_neg (by rw [h]; decide), if_pos (.inl h)]
    rw [hp]
    exact (ofOne_best b off p.what p.kind v.1 v.2.1 v.2.2 w h0 h1 hl (hs (.inl h)) (.inl h)).mono fun e w' hh => ⟨⟨none, 0, hh.1, TotA.nil _⟩, hh.2⟩
  · have hp : oneP p v = ⟨p.what, p.kind, [], v⟩ := by rw [oneP, if_neg (by rw [h]; decide), if_pos (.inr h)]
    rw [hp]
    exact (ofOne_best b off p.what p.kind v.1 v.2.1 v.2.2 w h0 h1 hl (hs (.inr h)) (.inr h)).mono fun e w' hh => ⟨⟨none, 0, hh.1, TotA.nil _⟩, hh.2⟩
end Go.Proofs.YtfonalmgdjboeaaDoor
