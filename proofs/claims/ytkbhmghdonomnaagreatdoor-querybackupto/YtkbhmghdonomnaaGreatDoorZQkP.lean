/-
  QueryBack, plain: the text that the law asks first; what Print says of a query, and of one that was read.
-/
import Derived.Test.YtkbhmghdonomnaaGreatDoorZQbM
import Derived.Test.YtkbhmghdonomnaaGreatDoorGzAz
import Derived.Test.YtkbhmghdonomnaaGreatDoorGzBa
namespace Go.Proofs.YtkbhmghdonomnaaGreatDoor
open Go.RowKit Go.BigFrame
set_option linter.unusedVariables false
set_option linter.unusedSimpArgs false

def kS : ByteArray := ⟨#[115, 101, 108, 101, 99, 116, 32, 97, 32, 43, 32, 49, 32, 97, 115, 32, 98, 32, 102, 114, 111, 109, 32, 99, 32, 119, 104, 101, 114, 101, 32, 97, 32, 62, 32, 50]⟩
def kX : Ex := .node ⟨#[43]⟩ ⟨#[]⟩ 0 0 ⟨#[]⟩ 9 [.node ⟨#[99, 111, 108]⟩ ⟨#[97]⟩ 0 0 ⟨#[]⟩ 7 [], .node ⟨#[118, 97, 108]⟩ ⟨#[]⟩ 1 1 ⟨#[]⟩ 11 []]
def kY : Ex := .node ⟨#[62]⟩ ⟨#[]⟩ 0 0 ⟨#[]⟩ 33 [.node ⟨#[99, 111, 108]⟩ ⟨#[97]⟩ 0 0 ⟨#[]⟩ 31 [], .node ⟨#[118, 97, 108]⟩ ⟨#[]⟩ 1 2 ⟨#[]⟩ 35 []]
def kQ : Qy := ⟨⟨#[99]⟩, kY, [kX], [⟨#[98]⟩], [], 0, 0, []⟩
theorem k_lex : (lexAll kS.data.toList).2 = (0, 0) := by kernel_rfl
theorem k_read : qU (lexAll kS.data.toList).1 = (some kQ, []) := by kernel_rfl
theorem k_ck {x : Ex} (hs : tgB x = false) (hm : x ∈ exsQ kQ) (hp : x.pos ≠ 0) : ckB x = false := by
  rw [ckB, ckP, hs, if_neg (by decide)]
  have hok : OkN x := by
    obtain ⟨h, _⟩ := qU_rd (lexAll_gk (s := kS.data.toList) (R := (lexAll kS.data.toList).1) (p := 0) (by rw [← k_lex])).1 (by rw [k_read])
    rcases ok_exs h x hm with h | h
    · exact absurd (by rw [h]; rfl) hp
    · exact h
  rw [fold_ck' _ 0 rfl (fun q hq => (hok 1 q hq).1)]
  rfl
theorem k_any : (exsQ kQ).any ckB = false := by
  have h1 : ckB kX = false := k_ck (by rw [tg_small]; simp [kX, Ex.small, Ex.size, Ex.sizes, Ex.deep, Ex.deeps]) (by simp [exsQ, kQ]) (by decide)
  have h2 : ckB kY = false := k_ck (by rw [tg_small]; simp [kY, Ex.small, Ex.size, Ex.sizes, Ex.deep, Ex.deeps]) (by simp [exsQ, kQ]) (by decide)
  simp [exsQ, kQ, h1, h2]
theorem k_parse : qpC kS.data.toList = (kQ, 0, 0) := qpC_all (R := (lexAll kS.data.toList).1) (by rw [← k_lex]) k_read k_any
theorem qpC_zero {l : List UInt8} {q : Qy} {P : Nat} (h : qpC l = (q, 0, P)) : P = 0 ∧ ∃ R p, lexAll l = (R, 0, p) ∧ (qU R).1 = some q := by
  rw [qpC] at h
  split at h
  · rename_i h0
    exact absurd (Prod.mk.inj (Prod.mk.inj h).2).1 h0
  rename_i h0
  have h1 : (lexAll l).2.1 = 0 := by simpa using h0
  split at h
  · rename_i q1 hq
    split at h
    · exact absurd (Prod.mk.inj (Prod.mk.inj h).2).1 (by decide)
    · obtain ⟨rfl, h2⟩ := Prod.mk.inj h
      obtain ⟨-, rfl⟩ := Prod.mk.inj h2
      exact ⟨rfl, (lexAll l).1, (lexAll l).2.2, by rw [← h1], by rw [hq]⟩
  · exact absurd (Prod.mk.inj (Prod.mk.inj h).2).1 (by decide)
theorem placeT_le {l : List UInt8} {R rs : List Tok} {p : Nat} (hL : lexAll l = (R, 0, p)) (hs : rs <:+ R) : placeT rs l.length ≤ l.length := by
  obtain ⟨_, _, h3, _⟩ := lexAll_ok hL
  have h4 := (stand_small l R 0 (Nat.zero_le _) h3).2
  cases rs with
  | nil => exact Nat.le_refl _
  | cons t q => exact (h4 t (hs.subset (by simp))).2
theorem qU_suf (ts : List Tok) : (qU ts).2 <:+ ts := by
  rw [qU]
  refine thU_suf (jU_suf _ _) fun _ rs => ?_
  split
  · rw [qTwoU]
    exact thU_suf (sevU_suf aggU_suf _ _ _) fun a rs => thU_suf (frU_suf rs) fun f rs => thU_suf (by
      rw [grU]
      exact thU_suf (jU_suf _ _) fun _ rs => thU_suf (jU_suf _ _) fun _ rs => thU_suf (sevU_suf nU_suf _ _ _) fun g rs => thU_suf (jU_suf _ _) fun _ rs => thU_suf (iU_suf _) fun z rs => thU_suf (by
        rw [slU]
        cases h : nxT (sgT [wSlide]) rs with
        | none => exact List.suffix_rfl
        | some p => exact (iU_suf _).trans (nx_suf h)) fun s rs => List.suffix_rfl) fun g rs => List.suffix_rfl
  · rw [qOneU]
    exact thU_suf (sevU_suf colU_suf _ _ _) fun a rs => thU_suf (frU_suf rs) fun f rs => List.suffix_rfl
/-- Where a text goes wrong lies in it. -/
theorem qpC_at {l : List UInt8} {q : Qy} {E : Int} {P : Nat} (h : qpC l = (q, E, P)) : P ≤ l.length := by
  rw [qpC] at h
  split at h
  · rename_i h0
    obtain ⟨-, h2⟩ := Prod.mk.inj h
    obtain ⟨-, rfl⟩ := Prod.mk.inj h2
    exact (lexAll_bad (s := l) rfl h0).2.1
  rename_i h0
  have h1 : (lexAll l).2.1 = 0 := by simpa using h0
  have hL : lexAll l = ((lexAll l).1, 0, (lexAll l).2.2) := by rw [← h1]
  split at h
  · split at h
    · obtain ⟨-, h2⟩ := Prod.mk.inj h
      obtain ⟨-, rfl⟩ := Prod.mk.inj h2
      exact Nat.zero_le _
    · obtain ⟨-, h2⟩ := Prod.mk.inj h
      obtain ⟨-, rfl⟩ := Prod.mk.inj h2
      exact Nat.zero_le _
  · rename_i o r hne hq
    obtain ⟨-, h2⟩ := Prod.mk.inj h
    obtain ⟨-, rfl⟩ := Prod.mk.inj h2
    have := qU_suf (lexAll l).1
    rw [hq] at this
    exact placeT_le hL this
theorem prQ_ok {q : Qy} (h : (prQ q).2 = 0) : (prQ q).1 = wrQ q ∧ ∃ p, qpC (wrQ q) = (p, 0, 0) ∧ sameQ p q = true := by
  rw [prQ] at h ⊢
  split at h
  · rename_i h1
    rw [if_pos h1]
    refine ⟨rfl, (qpC (wrQ q)).1, ?_, h1.2⟩
    have e : qpC (wrQ q) = ((qpC (wrQ q)).1, 0, (qpC (wrQ q)).2.2) := by
      have := h1.1
      rw [← this]
    obtain ⟨h3, _⟩ := qpC_zero e
    rw [e, h3]
  · exact absurd h (by decide)
theorem prQ_back {s : List UInt8} {q : Qy} {P : Nat} (h : qpC s = (q, 0, P)) (hl : s.length ≤ 100) : (prQ q).2 = 0 := by
  obtain ⟨q', h1, h2⟩ := query_back h hl
  rw [prQ, h1, if_pos ⟨rfl, h2⟩]
theorem ex0_in : ∀ q ∈ ex0.pre 1, inI q.1.vn := by
  intro q hq
  rw [ex0, Ex.pre] at hq
  simp [Ex.pres] at hq
  subst hq
  exact in0
theorem name_size {n : ByteArray} (h : nameT n.data.toList = true) : n.size ≤ 1048576 := by
  simp only [nameT, lettersB, Bool.and_eq_true, decide_eq_true_eq] at h
  have e : n.data.toList.length = n.size := by rw [Lib.size_eq]
  omega
/-- A query that was read can be written. -/
theorem qyW_read {l : List UInt8} {q : Qy} {P : Nat} (h : qpC l = (q, 0, P)) : QyW q := by
  have hsm := qpC_small h
  obtain ⟨_, R, p, hL, hq⟩ := qpC_zero h
  obtain ⟨hok, _⟩ := qU_rd (lexAll_gk hL).1 hq
  have hx : ∀ x ∈ exsQ q, ExO x := fun x hx => ⟨by rw [pre_len]; have := hsm x hx; omega, by
    rcases ok_exs hok x hx with rfl | h
    · exact ex0_in
    · exact fun q hq => (h 1 q hq).2⟩
  have hag : ∀ a ∈ q.aggs, OkA a := by
    rcases hok.2.2 with ⟨h1, _⟩ | ⟨_, _, _, h4, _⟩
    · rw [h1]; exact fun a ha => absurd ha (by simp)
    · exact h4
  have hn : (∀ s ∈ q.names, nameT s.data.toList = true) ∧ (∀ s ∈ q.group, nameT s.data.toList = true) := by
    rcases hok.2.2 with ⟨_, h2, _, _, c, _, _, h7, h8⟩ | ⟨_, h2, _, _, h5, _⟩
    · rw [h7, h2]
      refine ⟨fun s hs => ?_, fun s hs => absurd hs (by simp)⟩
      obtain ⟨p, hp, rfl⟩ := List.mem_map.1 hs
      exact (h8 p hp).2
    · rw [h2]
      exact ⟨fun s hs => absurd hs (by simp), h5⟩
  have hzz : inI q.size ∧ inI q.slide := by
    rcases hok.2.2 with ⟨_, _, h3, h4, _⟩ | ⟨_, _, _, _, _, _, h7, h8⟩
    · rw [h3, h4]; exact ⟨in0, in0⟩
    · exact ⟨⟨by have := h7.1; omega, by have := h7.2; omega⟩, ⟨by have := h8.1; omega, by have := h8.2; omega⟩⟩
  refine ⟨hx _ (by simp [exsQ]), fun x h => hx x (by simp only [exsQ, List.mem_cons, List.mem_append]; exact .inr (.inl h)), fun a ha => ⟨hx _ (by simp only [exsQ, List.mem_cons, List.mem_append, List.mem_map]; exact .inr (.inr ⟨a, ha, rfl⟩)), ?_, name_size (hag a ha).2.2⟩, fun s hs => name_size (hn.1 s hs), fun s hs => name_size (hn.2 s hs), name_size hok.1, hzz.1, hzz.2⟩
  have h1 := (hag a ha).1
  have e : a.what.data.toList.length = a.what.size := by rw [Lib.size_eq]
  simp only [isAg, Bool.or_eq_true, decide_eq_true_eq] at h1
  rcases h1 with h | h | h | h <;> rw [h] at e <;> simp at e <;> omega
/-- One that is handed in, too. -/
theorem qyW_ok {q : Qy} (h : QyOk q) : QyW q := ⟨⟨h.wn, h.wb 1⟩, fun x hx => ⟨(h.cn x hx).1, (h.cn x hx).2 1⟩, fun a ha => ⟨⟨(h.an a ha).1, (h.an a ha).2.1 1⟩, (h.an a ha).2.2.1, (h.an a ha).2.2.2⟩, h.ns, h.gs, h.fs, h.z1, h.z2⟩
end Go.Proofs.YtkbhmghdonomnaaGreatDoor
