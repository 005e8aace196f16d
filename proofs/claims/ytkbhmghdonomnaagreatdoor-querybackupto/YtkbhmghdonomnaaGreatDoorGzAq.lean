/-
  TreeSz, RefNd, TreePr, in one text.
-/
import Derived.Test.YtkbhmghdonomnaaGreatDoorGzAd
import Derived.Test.YtkbhmghdonomnaaGreatDoorGzAp
namespace Go.Proofs.YtkbhmghdonomnaaGreatDoor
open Go.RowKit
set_option linter.unusedVariables false

/-- Are there no more than may be? -/
def Ex.small (x : Ex) : Bool := decide (x.size ≤ 200) && decide (x.deep ≤ 30)
end Go.Proofs.YtkbhmghdonomnaaGreatDoor
namespace Go.Proofs.YtkbhmghdonomnaaGreatDoor
open Go.RowKit Go.BigFrame
set_option linter.unusedVariables false

theorem size_pre : ∀ (x : Ex) (d : Nat), (x.pre d).length = x.size := by
  refine Ex.ind fun op nm vt vn vs pos l ih d => ?_
  rw [Ex.pre, Ex.size, List.length_cons]
  have : ∀ l : List Ex, (∀ y ∈ l, ∀ d, (y.pre d).length = y.size) → (Ex.pres (d + 1) l).length = Ex.sizes l := fun l => by
    induction l with
    | nil => intro _; rw [Ex.pres, Ex.sizes]; rfl
    | cons y ys ihl =>
      intro h
      rw [Ex.pres, Ex.sizes, List.length_append, h y (by simp), ihl fun z hz => h z (by simp [hz])]
  rw [this l ih]
  omega
theorem deep_pre : ∀ (x : Ex) (d m : Nat), (∀ q ∈ x.pre d, q.2 ≤ m) ↔ d + x.deep ≤ m + 1 := by
  refine Ex.ind fun op nm vt vn vs pos l ih d m => ?_
  have key : ∀ l : List Ex, (∀ y ∈ l, ∀ d m, (∀ q ∈ y.pre d, q.2 ≤ m) ↔ d + y.deep ≤ m + 1) → ((∀ q ∈ Ex.pres (d + 1) l, q.2 ≤ m) ↔ (l = [] ∨ d + 1 + Ex.deeps l ≤ m + 1)) := fun l => by
    induction l with
    | nil => intro _; rw [Ex.pres]; simp
    | cons y ys ihl =>
      intro h
      have i2 := ihl fun z hz => h z (by simp [hz])
      have hy := h y (by simp) (d + 1) m
      rw [Ex.pres, Ex.deeps]
      simp only [List.mem_append]
      constructor
      · intro hq
        have a1 := hy.1 fun q hq2 => hq q (.inl hq2)
        have a2 := i2.1 fun q hq2 => hq q (.inr hq2)
        right
        rcases a2 with rfl | a2
        · rw [Ex.deeps]; omega
        · omega
      · intro hq q hq2
        have hq3 : d + 1 + max y.deep (Ex.deeps ys) ≤ m + 1 := by simpa using hq
        rcases hq2 with hq2 | hq2
        · exact hy.2 (by omega) q hq2
        · exact i2.2 (.inr (by omega)) q hq2
  rw [Ex.pre, Ex.deep]
  have k := key l ih
  constructor
  · intro h
    have h0 := h _ (List.mem_cons_self ..)
    simp only at h0
    have h1 := k.1 fun q hq => h q (List.mem_cons_of_mem _ hq)
    rcases h1 with rfl | h1
    · rw [Ex.deeps]; omega
    · omega
  · intro h q hq
    rcases List.mem_cons.1 hq with rfl | hq
    · simp only; omega
    · exact k.2 (.inr (by omega)) q hq
/-- Too great, as the document says it. -/
theorem tg_small (x : Ex) : tgB x = !x.small := by
  have h := fold_tg (x.pre 1) 0
  rw [tgB, Ex.small]
  congr 1
  rw [Bool.eq_iff_iff, h, Bool.and_eq_true, decide_eq_true_eq, decide_eq_true_eq, size_pre, deep_pre]
  have hp : 1 ≤ x.size := by rw [← size_pre x 1, pre_eq]; simp
  constructor
  · rintro ⟨h1, h2⟩
    refine ⟨?_, by omega⟩
    rcases h1 with h1 | h1
    · have := congrArg List.length h1
      rw [size_pre] at this
      simp at this
      omega
    · omega
  · rintro ⟨h1, h2⟩
    exact ⟨.inr (by omega), by omega⟩
end Go.Proofs.YtkbhmghdonomnaaGreatDoor
namespace Go.Proofs.YtkbhmghdonomnaaGreatDoor
open Go.RowKit Go.BigFrame
set_option linter.unusedVariables false

theorem tg_size {x : Ex} (h : tgB x = false) : (x.pre 1).length ≤ 200 := by
  rw [tg_small] at h
  have h2 : x.small = true := by simpa using h
  rw [Ex.small, Bool.and_eq_true, decide_eq_true_eq, decide_eq_true_eq] at h2
  rw [size_pre]
  exact h2.1
set_option maxHeartbeats 4000000 in
set_option maxRecDepth 20000 in
theorem treePrint_any (x : Ex) (lo : Nat → Prop) (v : Value) (w : World) (henv : TEnv w) (hE : ∀ W, Below w.heap.size w W → Env W) (hx : ExIn w lo v x) (hsz : (x.pre 1).length ≤ 1048576) (hxb : ∀ q ∈ x.pre 1, inI q.1.vn) (X : ByteArray) (K : Int) (hK : ckP x = K) (hX : X.data.toList = if ckP x = 0 then txP x else []) :
    Calls Tryz.prog 85 #[v] w fun e w' => e = .returned (.tuple #[.string X, errV K]) ∧ Below w.heap.size w w' := by
  obtain ⟨o1, n1, t1, k1, s1, p1, m1, c1, a1, rfl⟩ := hx.agg
  have hx2 : ExIn w (fun b => lo b ∧ b < w.heap.size) _ x := ExIn.low (fun b h1 h2 => ⟨h2, h1⟩) _ _ hx
  have b1 : Below w.heap.size w (w.alloc (.cells #[.string o1, .string n1, .int .i64 t1, .int .i64 k1, .string s1, .slice p1 m1 c1, .int .i64 a1] 26)) := (Below.refl _ w).alloc (Nat.le_refl _) _
  have cC := check_tree x lo _ _ (henv.on b1) (hx.on b1) hsz
  have hBk : Hid (∀ W, Below (w.heap.size + 1) (w.alloc (.cells #[.string o1, .string n1, .int .i64 t1, .int .i64 k1, .string s1, .slice p1 m1 c1, .int .i64 a1] 26)) W → (∀ i, W.cell? ⟨w.heap.size, i, none⟩ = (#[.string o1, .string n1, .int .i64 t1, .int .i64 k1, .string s1, .slice p1 m1 c1, .int .i64 a1] : Array Value)[i]?) ∧ w.heap.size < W.heap.size ∧ Below w.heap.size w W) := fun W hb => by
    have h1 := hb.block w.heap.size (Nat.lt_succ_self _)
    rw [heap_alloc_new] at h1
    exact ⟨fun i => Lib.cell_of_heap h1 i, (Array.getElem?_eq_some_iff.1 h1).1, b1.trans (hb.mono (Nat.le_succ _))⟩
  rw [hK] at cC hX
  by_cases h0 : K = 0
  · rw [h0, show errV 0 = .nilIface from rfl] at cC
    rw [if_pos h0] at hX
    obtain ⟨htg, hnd⟩ := ckP_zero (hK.trans h0)
    have hl : (txP x).length ≤ 20000 := by
      have h1 := tx_len x 1 hnd hxb
      have h2 := tg_size htg
      omega
    have cW := write_any x 1 hnd hxb
    have HX : Hid (X.data.toList = txP x) := hX
    subst h0
    clear hX hK hnd hxb htg
    go_enter Tryz.func85, Tryz.ntmps85
    go_wp2_with fail
    refine cC.mono ?_
    rintro e w1 ⟨rfl, b2⟩
    have B2 := b2.mono (show w.heap.size + 1 ≤ _ by simp)
    obtain ⟨hB, hl1, bw1⟩ := hBk.out w1 B2
    have g0 : w1.cell? ⟨w.heap.size, 0, none⟩ = some (.string o1) := hB 0
    have g1 : w1.cell? ⟨w.heap.size, 1, none⟩ = some (.string n1) := hB 1
    have g2 : w1.cell? ⟨w.heap.size, 2, none⟩ = some (.int .i64 t1) := hB 2
    have g3 : w1.cell? ⟨w.heap.size, 3, none⟩ = some (.int .i64 k1) := hB 3
    have g4 : w1.cell? ⟨w.heap.size, 4, none⟩ = some (.string s1) := hB 4
    have g5 : w1.cell? ⟨w.heap.size, 5, none⟩ = some (.slice p1 m1 c1) := hB 5
    have g6 : w1.cell? ⟨w.heap.size, 6, none⟩ = some (.int .i64 a1) := hB 6
    have hbb : IsB w1.heap.size w1.heap.size [] (w1.alloc (.cells #[.pointer none, .slice none 0 0] 91)) := Lib.fresh_isBuilder 91 5 w1
    have bw2 : Below w.heap.size w (w1.alloc (.cells #[.pointer none, .slice none 0 0] 91)) := bw1.alloc bw1.size _
    have cW2 := cW w1.heap.size w1.heap.size (fun b => lo b ∧ b < w.heap.size) _ [] _ (fun W hW => hE W (bw2.trans (hW.mono bw1.size))) (fun k hk => by have := bw1.size; omega) (hx2.on bw2) hbb (by simp; omega)
    clear cC cW b2 hB
    go_wp2_with fail
    refine cW2.mono ?_
    rintro e w3 ⟨rfl, hb3, k3w⟩
    have B3 := bw2.trans (k3w.1.mono bw1.size)
    have hz3 := hb3.lt
    rw [List.nil_append] at hb3
    clear k3w cW2 g0 g1 g2 g3 g4 g5 g6 hbb
    go_wp2_with fail
    refine (Tryz.Builder_String_any w1.heap.size w1.heap.size (txP x) _ hb3 (by omega)).mono ?_
    rintro e w4 ⟨rfl, b4⟩
    have B4 := B3.trans (b4.mono bw1.size)
    have hXe : (⟨(txP x).toArray⟩ : ByteArray) = X := by
      apply ByteArray.ext
      apply Array.toList_inj.1
      rw [HX.out]
    rw [hXe]
    clear hXe b4 hb3
    go_wp2
    go_ret2
    exact ⟨rfl, B4⟩
  · rw [if_neg h0] at hX
    obtain rfl : X = ⟨#[]⟩ := by
      apply ByteArray.ext
      apply Array.toList_inj.1
      rw [hX]
    have hve : errV K = .iface 32 (.int .i64 K) := by rw [errV, if_neg h0]
    rw [hve] at cC ⊢
    clear hX hK hxb hve
    go_enter Tryz.func85, Tryz.ntmps85
    go_wp2_with fail
    refine cC.mono ?_
    rintro e w1 ⟨rfl, b2⟩
    have B2 := (hBk.out w1 (b2.mono (show w.heap.size + 1 ≤ _ by simp))).2.2
    clear b2 cC
    go_wp2
    go_ret2
    exact ⟨rfl, B2⟩
end Go.Proofs.YtkbhmghdonomnaaGreatDoor
