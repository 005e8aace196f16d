/-
  What the document's Do comes to, of any values that the operation's rule lets through.
-/
import Derived.Test.YtknibfhoecgjlaaGreatDoorQRefDf
import Derived.Test.YtknibfhoecgjlaaGreatDoorQRefDc
namespace Go.Proofs.YtknibfhoecgjlaaGreatDoor
open Go.RowKit
set_option linter.unusedVariables false

theorem refDo_any (op : ByteArray) (p : Option Addr) (c N : Nat) (vs : List V3) (w : World) (hN : vs.length = N) (hvs : ValsAt w p vs) (hv : ∀ v ∈ vs, chk v.1 v.2.1 v.2.2.data.toList = 0) (hb : ∀ v ∈ vs, v.2.2.size ≤ maxLen ∧ inB v.2.1) (T : Int) (hr : ruleP op.data.toList (vs.map (·.1)) = (T, 0)) (t k : Int) (s : ByteArray) (e : Int) (hR : appP op.data.toList vs = ((t, k, s), e)) :
    Calls Tryz.prog 21 #[.string op, .slice p N c] w fun e' w' => e' = .returned (.tuple #[.agg #[.int .i64 t, .int .i64 k, .string s], .int .i64 e]) ∧ Below w.heap.size w w' := by
  obtain ⟨r, hf, hlen, hall, hT⟩ := ruleP_in hr
  rw [List.length_map] at hlen
  obtain ⟨hm, he⟩ := kdFind_mem hf
  have h1 := (kdCnt_ok r hm).1
  rcases hvs with h | ⟨b, off, rfl, hbl, hc⟩
  · omega
  obtain ⟨⟨l⟩⟩ := op
  simp only at he
  subst he
  clear hr hf h1
  have h2 : ∀ v : V3, chk v.1 v.2.1 v.2.2.data.toList = 0 → v.1 = 2 → v.2.1 = 0 ∨ v.2.1 = 1 := fun v h e => by
    rw [e] at h
    exact (chk_two h).1
  simp only [kdRules, List.mem_cons, List.not_mem_nil, or_false] at hm
  have len1 : ∀ {l : List V3}, l.length = 1 → ∃ a, l = [a] := fun {l} h => by
    match l, h with
    | [a], _ => exact ⟨a, rfl⟩
  have len2 : ∀ {l : List V3}, l.length = 2 → ∃ a b, l = [a, b] := fun {l} h => by
    match l, h with
    | [a, b], _ => exact ⟨a, b, rfl⟩
  have len3 : ∀ {l : List V3}, l.length = 3 → ∃ a b c, l = [a, b, c] := fun {l} h => by
    match l, h with
    | [a, b, c], _ => exact ⟨a, b, c, rfl⟩
  have five : ∀ (op : ByteArray) (x y : V3), vs = [x, y] → ops5.contains op.data.toList = true → rkV op.data.toList x.2.1 y.2.1 = ((t, k, s), e) → Calls Tryz.prog 21 #[.string op, .slice (some ⟨b, off, none⟩) N c] w fun e' w' => e' = .returned (.tuple #[.agg #[.int .i64 t, .int .i64 k, .string s], .int .i64 e]) ∧ Below w.heap.size w w' := fun op x y hxy ho hR2 => by
    subst hxy
    exact rd_five op b off c N (by rw [← hN]; exact Nat.le_refl _) _ _ _ _ _ _ w hbl (one_of hc (j := 0) (by simp) off (by omega)) (one_of hc (j := 1) (by simp) (off + 3) (by omega)) (hb x (by simp)).2 (hb y (by simp)).2 ho t k s e hR2
  have cmps : ∀ (op : ByteArray) (x y : V3), vs = [x, y] → (op = ⟨#[61]⟩ ∨ op = ⟨#[60, 62]⟩ ∨ op = ⟨#[60]⟩ ∨ op = ⟨#[60, 61]⟩ ∨ op = ⟨#[62]⟩ ∨ op = ⟨#[62, 61]⟩) → x.1 = y.1 → cmpV op.data.toList x y = ((t, k, s), e) → Calls Tryz.prog 21 #[.string op, .slice (some ⟨b, off, none⟩) N c] w fun e' w' => e' = .returned (.tuple #[.agg #[.int .i64 t, .int .i64 k, .string s], .int .i64 e]) ∧ Below w.heap.size w w' := fun op x y hxy ho htt hR2 => by
    subst hxy
    have hE : cmpE x.1 x.2.1 x.2.2.data.toList y.1 y.2.1 y.2.2.data.toList = 0 := by
      rw [cmpE, if_neg (by simpa using hv x (by simp)), if_neg (by simpa using hv y (by simp)), if_neg (by simpa using htt)]
    rw [cmpV, if_neg (by simpa using hE)] at hR2
    simp only [truP, Prod.mk.injEq] at hR2
    obtain ⟨⟨rfl, hk, rfl⟩, rfl⟩ := hR2
    exact rd_cmp op b off c N (by rw [← hN]; exact Nat.le_refl _) _ _ _ _ _ _ w hbl (one_of hc (j := 0) (by simp) off (by omega)) (one_of hc (j := 1) (by simp) (off + 3) (by omega)) ho hE k hk
  rcases hm with rfl | rfl | rfl | rfl | rfl | rfl | rfl | rfl | rfl | rfl | rfl | rfl | rfl | rfl | rfl | rfl | rfl
  · obtain ⟨x, y, rfl⟩ := len2 hlen
    replace hR : (truP (isY x || isY y), (0 : Int)) = ((t, k, s), e) := hR
    simp only [truP, Prod.mk.injEq] at hR
    obtain ⟨⟨rfl, hk, rfl⟩, rfl⟩ := hR
    exact rd_or b off c N (by rw [← hN]; exact Nat.le_refl _) _ _ _ _ _ _ w hbl (one_of hc (j := 0) (by simp) off (by omega)) (one_of hc (j := 1) (by simp) (off + 3) (by omega)) k hk
  · obtain ⟨x, y, rfl⟩ := len2 hlen
    replace hR : (truP (isY x && isY y), (0 : Int)) = ((t, k, s), e) := hR
    simp only [truP, Prod.mk.injEq] at hR
    obtain ⟨⟨rfl, hk, rfl⟩, rfl⟩ := hR
    exact rd_and b off c N (by rw [← hN]; exact Nat.le_refl _) _ _ _ _ _ _ w hbl (one_of hc (j := 0) (by simp) off (by omega)) (one_of hc (j := 1) (by simp) (off + 3) (by omega)) k hk
  · obtain ⟨x, rfl⟩ := len1 hlen
    replace hR : (truP (!isY x), (0 : Int)) = ((t, k, s), e) := hR
    simp only [truP, Prod.mk.injEq] at hR
    obtain ⟨⟨rfl, hk, rfl⟩, rfl⟩ := hR
    exact rd_not b off c N (by rw [← hN]; exact Nat.le_refl _) _ _ _ w hbl (one_of hc (j := 0) (by simp) off (by omega)) (h2 x (hv x (by simp)) (by simpa [kdAll, kdMeant] using hall)) k hk
  · obtain ⟨x, y, h⟩ := len2 hlen
    exact cmps ⟨#[61]⟩ x y h (by simp) (by subst h; simpa [kdAll, kdMeant] using hall) (by subst h; exact hR)
  · obtain ⟨x, y, h⟩ := len2 hlen
    exact cmps ⟨#[60, 62]⟩ x y h (by simp) (by subst h; simpa [kdAll, kdMeant] using hall) (by subst h; exact hR)
  · obtain ⟨x, y, h⟩ := len2 hlen
    exact cmps ⟨#[60]⟩ x y h (by simp) (by subst h; simpa [kdAll, kdMeant] using hall) (by subst h; exact hR)
  · obtain ⟨x, y, h⟩ := len2 hlen
    exact cmps ⟨#[60, 61]⟩ x y h (by simp) (by subst h; simpa [kdAll, kdMeant] using hall) (by subst h; exact hR)
  · obtain ⟨x, y, h⟩ := len2 hlen
    exact cmps ⟨#[62]⟩ x y h (by simp) (by subst h; simpa [kdAll, kdMeant] using hall) (by subst h; exact hR)
  · obtain ⟨x, y, h⟩ := len2 hlen
    exact cmps ⟨#[62, 61]⟩ x y h (by simp) (by subst h; simpa [kdAll, kdMeant] using hall) (by subst h; exact hR)
  · obtain ⟨x, y, h⟩ := len2 hlen
    exact five ⟨#[43]⟩ x y h (by decide) (by subst h; exact hR)
  · obtain ⟨x, y, h⟩ := len2 hlen
    exact five ⟨#[45]⟩ x y h (by decide) (by subst h; exact hR)
  · obtain ⟨x, y, h⟩ := len2 hlen
    exact five ⟨#[42]⟩ x y h (by decide) (by subst h; exact hR)
  · obtain ⟨x, y, h⟩ := len2 hlen
    exact five ⟨#[47]⟩ x y h (by decide) (by subst h; exact hR)
  · obtain ⟨x, y, h⟩ := len2 hlen
    exact five ⟨#[37]⟩ x y h (by decide) (by subst h; exact hR)
  · obtain ⟨x, rfl⟩ := len1 hlen
    exact rd_neg b off c N (by rw [← hN]; exact Nat.le_refl _) _ _ _ w hbl (one_of hc (j := 0) (by simp) off (by omega)) (hb x (by simp)).2 t k s e hR
  · obtain ⟨x, rfl⟩ := len1 hlen
    replace hR : (((1 : Int), (x.2.2.size : Int), (⟨#[]⟩ : ByteArray)), (0 : Int)) = ((t, k, s), e) := hR
    simp only [Prod.mk.injEq] at hR
    obtain ⟨⟨rfl, rfl, rfl⟩, rfl⟩ := hR
    exact rd_len b off c N (by rw [← hN]; exact Nat.le_refl _) _ _ _ w hbl (one_of hc (j := 0) (by simp) off (by omega))
  · obtain ⟨x, y, z, rfl⟩ := len3 hlen
    replace hR : (if isY x = true then y else z, (0 : Int)) = ((t, k, s), e) := hR
    have cI := rd_if b off c N (by rw [← hN]; exact Nat.le_refl _) _ _ _ _ _ _ _ _ _ w hbl (one_of hc (j := 0) (by simp) off (by omega)) (one_of hc (j := 1) (by simp) (off + 3) (by omega)) (one_of hc (j := 2) (by simp) (off + 6) (by omega)) (h2 x (hv x (by simp)) (by simp [kdAll, kdMeant] at hall; exact hall.1))
    refine cI.mono fun e' w' h => ⟨?_, h.2⟩
    rw [h.1]
    obtain ⟨hyz, rfl⟩ := Prod.mk.inj hR
    unfold isY at hyz
    simp only [List.getElem_cons_zero, List.getElem_cons_succ]
    split at hyz
    · rename_i hbb
      subst hyz
      rw [if_pos hbb]
    · rename_i hbb
      subst hyz
      rw [if_neg hbb]
theorem do_app {op : List UInt8} {vs : List V3} (hv : ∀ v ∈ vs, chk v.1 v.2.1 v.2.2.data.toList = 0) (hr : (ruleP op (vs.map (·.1))).2 = 0) : doP op vs = appP op vs := by
  rw [doP, if_neg (by simpa using vlE_zero.2 hv), if_neg (by simpa using hr)]
end Go.Proofs.YtknibfhoecgjlaaGreatDoor
