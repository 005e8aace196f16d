/-
  The program's reader of words (package tree): what it asks of the variables; between.
-/
import Derived.Test.YtomakklbfjkdpaaGreatDoorTreeR2
namespace Go.Proofs.YtomakklbfjkdpaaGreatDoor
open Go.RowKit Go.BigFrame
set_option linter.unusedVariables false

def Fit (ts : List Tok) : Prop := ∀ t ∈ ts, t.2.1.size ≤ 400
theorem Fit.suf {ts rs : List Tok} (h : Fit ts) (hs : rs <:+ ts) : Fit rs := fun t ht => h t (hs.mem ht)
/-- What package tree's variables hold: the operations with how many parts each has, and the words of the language. -/
def opsL : List (List UInt8 × Int) := [([118, 97, 108], 0), ([99, 111, 108], 0), ([111, 114], 2), ([97, 110, 100], 2), ([110, 111, 116], 1), ([61], 2), ([60, 62], 2), ([60], 2), ([60, 61], 2), ([62], 2), ([62, 61], 2), ([43], 2), ([45], 2), ([42], 2), ([47], 2), ([37], 2), ([110, 101, 103], 1), ([108, 101, 110], 1), ([105, 102], 3)]
def opsC : Array Value := #[.string ⟨#[118, 97, 108]⟩, .int .i64 0, .string ⟨#[99, 111, 108]⟩, .int .i64 0, .string ⟨#[111, 114]⟩, .int .i64 2, .string ⟨#[97, 110, 100]⟩, .int .i64 2, .string ⟨#[110, 111, 116]⟩, .int .i64 1, .string ⟨#[61]⟩, .int .i64 2, .string ⟨#[60, 62]⟩, .int .i64 2, .string ⟨#[60]⟩, .int .i64 2, .string ⟨#[60, 61]⟩, .int .i64 2, .string ⟨#[62]⟩, .int .i64 2, .string ⟨#[62, 61]⟩, .int .i64 2, .string ⟨#[43]⟩, .int .i64 2, .string ⟨#[45]⟩, .int .i64 2, .string ⟨#[42]⟩, .int .i64 2, .string ⟨#[47]⟩, .int .i64 2, .string ⟨#[37]⟩, .int .i64 2, .string ⟨#[110, 101, 103]⟩, .int .i64 1, .string ⟨#[108, 101, 110]⟩, .int .i64 1, .string ⟨#[105, 102]⟩, .int .i64 3]
def wordsC : Array Value := #[.string ⟨#[111, 114]⟩, .string ⟨#[97, 110, 100]⟩, .string ⟨#[110, 111, 116]⟩, .string ⟨#[116, 114, 117, 101]⟩, .string ⟨#[102, 97, 108, 115, 101]⟩, .string ⟨#[108, 101, 110]⟩, .string ⟨#[105, 102]⟩, .string ⟨#[115, 101, 108, 101, 99, 116]⟩, .string ⟨#[97, 115]⟩, .string ⟨#[102, 114, 111, 109]⟩, .string ⟨#[119, 104, 101, 114, 101]⟩, .string ⟨#[103, 114, 111, 117, 112]⟩, .string ⟨#[98, 121]⟩, .string ⟨#[119, 105, 110, 100, 111, 119]⟩, .string ⟨#[115, 108, 105, 100, 101]⟩, .string ⟨#[99, 111, 117, 110, 116]⟩, .string ⟨#[115, 117, 109]⟩, .string ⟨#[108, 101, 97, 115, 116]⟩, .string ⟨#[109, 111, 115, 116]⟩]
structure TEnv (w : World) : Prop where
  env : Env w
  big : 12 ≤ w.heap.size
  ops : ∃ t fr, w.heap[1]? = some (.cells opsC t fr)
  wds : ∃ t fr, w.heap[3]? = some (.cells wordsC t fr)
theorem Env.onB {w w' : World} {n : Nat} (h : Env w) (hb : Below n w w') (hn : 12 ≤ n) (hs : w.heap.size ≤ w'.heap.size) : Env w' := by
  have hbig := h.big
  refine ⟨?_, ?_, ?_, ?_, ?_⟩
  · exact var?_below hb g_tab (by omega) h.tab
  · obtain ⟨tp, p, hv⟩ := h.syn; exact ⟨tp, p, var?_below hb g_syn (by omega) hv⟩
  · obtain ⟨tp, p, hv⟩ := h.ran; exact ⟨tp, p, var?_below hb g_ran (by omega) hv⟩
  · obtain ⟨m, hm⟩ := h.mx; exact ⟨m, by rw [hb.cell (p := ⟨7, 0, none⟩) (by simp; omega)]; exact hm⟩
  · omega
theorem TEnv.onB {w w' : World} {n : Nat} (h : TEnv w) (hb : Below n w w') (hn : 12 ≤ n) (hs : w.heap.size ≤ w'.heap.size) : TEnv w' := by
  refine ⟨h.env.onB hb hn hs, by have := h.big; omega, ?_, ?_⟩
  · obtain ⟨t, fr, h1⟩ := h.ops
    exact ⟨t, fr, by rw [hb.block _ (by omega)]; exact h1⟩
  · obtain ⟨t, fr, h1⟩ := h.wds
    exact ⟨t, fr, by rw [hb.block _ (by omega)]; exact h1⟩
theorem TEnv.on {w w' : World} (h : TEnv w) (hb : Below w.heap.size w w') : TEnv w' := h.onB hb h.big hb.size
theorem TEnv.but {w w' : World} {r : Nat} (h : TEnv w) (hb : But r w w') (hr : 12 ≤ r) : TEnv w' := h.onB hb.below hr hb.size
theorem ExIn.but {w w' : World} {r : Nat} {lo : Nat → Prop} {x : Ex} {v : Value} (h : ExIn w lo v x) (hb : But r w w') (hr : ∀ b, lo b → b ≠ r) : ExIn w' lo v x :=
  ExIn.keep hb.size (fun b o h1 h2 => hb.cell o h2 (hr b h1)) x v h
theorem StrsIn.but {w w' : World} {r b : Nat} {gs : List (List UInt8)} (h : StrsIn w b gs) (hb : But r w w') (hr : b ≠ r) : StrsIn w' b gs :=
  ⟨by have := hb.size; have := h.1; omega, fun j hj => by rw [hb.cell _ h.1 hr]; exact h.2 j hj⟩
/-- The same, what it has captured not in the reader's block. -/
def SignBut (w : World) (r p : Nat) (gs : List (List UInt8)) : Prop := ∃ b c, w.cell? ⟨p, 0, none⟩ = some (.slice (some ⟨b, 0, none⟩) gs.length c) ∧ p < w.heap.size ∧ StrsIn w b gs ∧ gs.length ≤ 100 ∧ p ≠ r ∧ b ≠ r
theorem SignBut.sign {w : World} {r p : Nat} {gs : List (List UInt8)} (h : SignBut w r p gs) : SignIn w p gs := by
  obtain ⟨b, c, h1, h2, h3, h4, _, _⟩ := h
  exact ⟨b, c, h1, h2, h3, h4⟩
theorem SignBut.but {w w' : World} {r p : Nat} {gs : List (List UInt8)} (h : SignBut w r p gs) (hb : But r w w') : SignBut w' r p gs := by
  obtain ⟨b, c, h1, h2, h3, h4, h5, h6⟩ := h
  exact ⟨b, c, by rw [hb.cell _ h2 h5]; exact h1, by have := hb.size; omega, h3.but hb h6, h4, h5, h6⟩
theorem But.on {r : Nat} {w w1 w2 : World} (h : But r w w1) (k : Below w1.heap.size w1 w2) (hr : r < w.heap.size) : But r w w2 :=
  h.trans (But.of_below' k (by have := h.size; omega))
theorem but_frozen {r : Nat} {w w1 : World} (h : But r w w1) {b : Nat} (o : Nat) (hb : b < w.heap.size) (hr : b ≠ r) : w1.frozen? ⟨b, o, none⟩ = w.frozen? ⟨b, o, none⟩ := by
  simp only [World.frozen?, h.kept b hb hr]
/-- An expression's value is seven cells. -/
theorem ExIn.agg {w : World} {lo : Nat → Prop} {v : Value} {x : Ex} (h : ExIn w lo v x) : ∃ op nm vt vn vs p n c pos, v = .agg #[.string op, .string nm, .int .i64 vt, .int .i64 vn, .string vs, .slice p n c, .int .i64 pos] := by
  cases x with
  | node op nm vt vn vs pos args =>
    rw [ExIn] at h
    obtain ⟨p, c, rfl, _⟩ := h
    exact ⟨_, _, _, _, _, _, _, _, _, rfl⟩
theorem ex_two {w W : World} {lo : Nat → Prop} {B : Nat} {a0 a1 a2 a3 a4 a5 a6 b0 b1 b2 b3 b4 b5 b6 : Value} {x y : Ex} {op nm vs : ByteArray} {vt vn pos : Int} (h1 : ExIn w lo (.agg #[a0, a1, a2, a3, a4, a5, a6]) x) (h2 : ExIn w lo (.agg #[b0, b1, b2, b3, b4, b5, b6]) y) (hb : Below w.heap.size w W) (hB : B < W.heap.size) (hlo : lo B)
    (hc : ∀ i, W.cell? ⟨B, i, none⟩ = (#[a0, a1, a2, a3, a4, a5, a6, b0, b1, b2, b3, b4, b5, b6] : Array Value)[i]?) (ho : op.size ≤ maxLen) (hn : nm.size ≤ maxLen) (hv : vs.size ≤ maxLen) :
    ExIn W lo (.agg #[.string op, .string nm, .int .i64 vt, .int .i64 vn, .string vs, .slice (some ⟨B, 0, none⟩) 2 2, .int .i64 pos]) (.node op nm vt vn vs pos [x, y]) := by
  rw [ExIn]
  refine ⟨_, _, rfl, ⟨by simp [maxLen], by simp⟩, ho, hn, hv, .inr ⟨B, 0, rfl, hB, hlo, ?_⟩⟩
  rw [ExsIn, ExsIn, ExsIn]
  refine ⟨⟨a0, a1, a2, a3, a4, a5, a6, ?_, ?_, ?_, ?_, ?_, ?_, ?_, h1.on hb⟩, ⟨b0, b1, b2, b3, b4, b5, b6, ?_, ?_, ?_, ?_, ?_, ?_, ?_, h2.on hb⟩, trivial⟩
  all_goals (rw [hc]; rfl)
theorem ex_one {w W : World} {lo : Nat → Prop} {B : Nat} {a0 a1 a2 a3 a4 a5 a6 : Value} {x : Ex} {op nm vs : ByteArray} {vt vn pos : Int} (h1 : ExIn w lo (.agg #[a0, a1, a2, a3, a4, a5, a6]) x) (hb : Below w.heap.size w W) (hB : B < W.heap.size) (hlo : lo B)
    (hc : ∀ i, W.cell? ⟨B, i, none⟩ = (#[a0, a1, a2, a3, a4, a5, a6] : Array Value)[i]?) (ho : op.size ≤ maxLen) (hn : nm.size ≤ maxLen) (hv : vs.size ≤ maxLen) :
    ExIn W lo (.agg #[.string op, .string nm, .int .i64 vt, .int .i64 vn, .string vs, .slice (some ⟨B, 0, none⟩) 1 1, .int .i64 pos]) (.node op nm vt vn vs pos [x]) := by
  rw [ExIn]
  refine ⟨_, _, rfl, ⟨by simp [maxLen], by simp⟩, ho, hn, hv, .inr ⟨B, 0, rfl, hB, hlo, ?_⟩⟩
  rw [ExsIn, ExsIn]
  refine ⟨⟨a0, a1, a2, a3, a4, a5, a6, ?_, ?_, ?_, ?_, ?_, ?_, ?_, h1.on hb⟩, trivial⟩
  all_goals (rw [hc]; rfl)
theorem ex_leaf {W : World} {lo : Nat → Prop} {p : Option Addr} {c : Nat} {op nm vs : ByteArray} {vt vn pos : Int} (ho : op.size ≤ maxLen) (hn : nm.size ≤ maxLen) (hv : vs.size ≤ maxLen) :
    ExIn W lo (.agg #[.string op, .string nm, .int .i64 vt, .int .i64 vn, .string vs, .slice p 0 c, .int .i64 pos]) (.node op nm vt vn vs pos []) := by
  rw [ExIn]
  exact ⟨_, _, rfl, ⟨by simp, by simp⟩, ho, hn, hv, .inl rfl⟩
set_option maxHeartbeats 4000000 in
set_option maxRecDepth 20000 in
theorem between_any (w : World) (lo : Nat → Prop) (t : Tok) (v1 v2 : Value) (x y : Ex) (h1 : ExIn w lo v1 x) (h2 : ExIn w lo v2 y) (hlo : ∀ b, w.heap.size ≤ b → lo b) (ht : t.2.1.size ≤ maxLen) :
    Calls Tryz.prog 75 #[v1, tokV t, v2] w fun e w' => (∃ v, e = .returned v ∧ ExIn w' lo v (betT x t y)) ∧ Below w.heap.size w w' := by
  obtain ⟨o1, n1, t1, k1, s1, p1, m1, c1, a1, rfl⟩ := h1.agg
  obtain ⟨o2, n2, t2, k2, s2, p2, m2, c2, a2, rfl⟩ := h2.agg
  have H1 : Aside (ExIn w lo (.agg #[.string o1, .string n1, .int .i64 t1, .int .i64 k1, .string s1, .slice p1 m1 c1, .int .i64 a1]) x) := h1
  have H2 : Aside (ExIn w lo (.agg #[.string o2, .string n2, .int .i64 t2, .int .i64 k2, .string s2, .slice p2 m2 c2, .int .i64 a2]) y) := h2
  clear h1 h2
  obtain ⟨tk, tx, ta⟩ := t
  rw [tokV]
  go_enter Tryz.func75, Tryz.ntmps75
  go_wp2
  have hb : Below w.heap.size w _ := (((((Below.refl w.heap.size w).alloc (Nat.le_refl _) (.cells #[.string o1, .string n1, .int .i64 t1, .int .i64 k1, .string s1, .slice p1 m1 c1, .int .i64 a1] 26)).alloc (by simp) (.cells #[.int .i64 tk, .string tx, .int .i64 (ta : Int)] 83)).alloc (by simp; omega) (.cells #[.string o2, .string n2, .int .i64 t2, .int .i64 k2, .string s2, .slice p2 m2 c2, .int .i64 a2] 26)).alloc (by simp; omega) (.cells #[.string tx, .string ⟨#[]⟩, .int .i64 0, .int .i64 0, .string ⟨#[]⟩, .slice (some ⟨w.heap.size + 1 + 1 + 1 + 1, 0, none⟩) 2 2, .int .i64 (ta : Int)] 26)).alloc (by simp; omega) (.cells #[.string o1, .string n1, .int .i64 t1, .int .i64 k1, .string s1, .slice p1 m1 c1, .int .i64 a1, .string o2, .string n2, .int .i64 t2, .int .i64 k2, .string s2, .slice p2 m2 c2, .int .i64 a2] 26)
  refine bodyPost_ret (v := .agg #[.string tx, .string ⟨#[]⟩, .int .i64 0, .int .i64 0, .string ⟨#[]⟩, .slice (some ⟨w.heap.size + 1 + 1 + 1 + 1, 0, none⟩) 2 2, .int .i64 (ta : Int)]) (by simp [results, Tryz.results75, go_sem]) rfl ⟨⟨_, rfl, ?_⟩, hb⟩
  exact ex_two H1.out H2.out hb (by simp) (hlo _ (by omega)) (fun i => World.cell?_alloc_at _ _ _ _ (by simp)) ht (by decide) (by decide)
end Go.Proofs.YtomakklbfjkdpaaGreatDoor
