/-
  Rows and schemas: what is written is read as it was, and what is read is written as it was.
-/
import Derived.Test.YtggabncpedcmdaaGreatDoorRowRead
import Derived.Test.YtggabncpedcmdaaGreatDoorRowShow
import Derived.Test.YtggabncpedcmdaaGreatDoorBack
import Derived.Test.YtggabncpedcmdaaGreatDoorNumFacts
namespace Go.Proofs.YtggabncpedcmdaaGreatDoor
open Go.RowKit
set_option linter.unusedVariables false

/-- Bytes that are neither a comma nor a quote are gone over. -/
theorem cut_plain (b : Bool) : ∀ (x l : List UInt8), (∀ c ∈ x, c ≠ 44 ∧ c ≠ 39) → cutPos b (x ++ l) = (cutPos b l).map (· + x.length)
  | [], l, _ => by simp
  | c :: x, l, h => by
    obtain ⟨h1, h2⟩ := h c (by simp)
    rw [List.cons_append, cutPos, if_neg (fun e => h1 e.1), if_neg h2, cut_plain b x l (fun c hc => h c (by simp [hc])), map_add, List.length_cons]
theorem cut_esc : ∀ (x l : List UInt8), cutPos true (esc x ++ l) = (cutPos true l).map (· + (esc x).length)
  | [], l => by simp [esc]
  | c :: x, l => by
    rw [esc_cons]
    by_cases hc : c = 39
    · rw [if_pos hc, List.append_assoc, List.cons_append, List.cons_append, List.nil_append, cutPos, if_neg (by simp), if_pos rfl, cutPos, if_neg (by decide), if_pos rfl, show (!(!true)) = true from rfl, cut_esc x l, map_add, map_add]
      congr 1
    · rw [if_neg hc, List.append_assoc, List.cons_append, List.nil_append, cutPos, if_neg (by simp), if_neg hc, cut_esc x l, map_add]
      congr 1
theorem itoa_bytes (n : Int) : ∀ c ∈ Lib.itoa n, c ≠ 44 ∧ c ≠ 39 := by
  have hd : ∀ u c, c ∈ Lib.decDigits u → c ≠ 44 ∧ c ≠ 39 := fun u c hc => by
    have h1 := (dec_digits u u (Nat.le_refl _)).1
    have h2 := (digB_iff c).1 (List.all_eq_true.1 h1 c hc)
    constructor
    · rintro rfl; exact absurd h2 (by decide)
    · rintro rfl; exact absurd h2 (by decide)
  intro c hc
  rw [Lib.itoa] at hc
  split at hc
  · rcases List.mem_cons.1 hc with rfl | h
    · decide
    · exact hd _ _ h
  · exact hd _ _ hc
/-- A value that is written is gone over whole. -/
theorem cut_shown {t n : Int} {x : List UInt8} (h : chk t n x = 0) (l : List UInt8) : cutPos false (shown t n x ++ l) = (cutPos false l).map (· + (shown t n x).length) := by
  rcases chk_type h with ⟨rfl, _⟩ | ⟨rfl, _, _⟩ | ⟨rfl, _, _, _⟩
  · rw [shown, if_pos rfl]
    exact cut_plain false _ l (itoa_bytes n)
  · rw [shown, if_neg (by decide), if_pos rfl]
    split
    · exact cut_plain false _ l (by decide)
    · exact cut_plain false _ l (by decide)
  · rw [shown, if_neg (by decide), if_neg (by decide)]
    rw [List.cons_append, List.append_assoc, cutPos, if_neg (by decide), if_pos rfl, show (!false) = true from rfl, cut_esc, List.cons_append, List.nil_append, cutPos, if_neg (by simp), if_pos rfl, show (!true) = false from rfl, map_add, map_add]
    congr 1
    funext k
    simp
    omega
theorem shown_ne {t n : Int} {x : List UInt8} (h : chk t n x = 0) : shown t n x ≠ [] := by
  rcases chk_type h with ⟨rfl, _⟩ | ⟨rfl, _, _⟩ | ⟨rfl, _, _, _⟩
  · rw [shown, if_pos rfl]
    obtain ⟨c, r, e, _⟩ := itoa_head n
    rw [e]; simp
  · rw [shown, if_neg (by decide), if_pos rfl]
    split <;> simp
  · rw [shown, if_neg (by decide), if_neg (by decide)]; simp
theorem rowT_cons (r r2 : Int × Int × ByteArray) (rs : List (Int × Int × ByteArray)) : rowT (r :: r2 :: rs) = shown r.1 r.2.1 r.2.2.data.toList ++ 44 :: rowT (r2 :: rs) := by
  simp only [rowT, List.map_cons, Lib.join_cons]
  simp [Lib.joinTail]
theorem rowT_one (r : Int × Int × ByteArray) : rowT [r] = shown r.1 r.2.1 r.2.2.data.toList := by
  simp [rowT, Lib.join_one]
theorem valsE_zero : ∀ {rs : List (Int × Int × ByteArray)}, valsE rs = 0 → ∀ r ∈ rs, chk r.1 r.2.1 r.2.2.data.toList = 0
  | [], _, r, h => by simp at h
  | a :: rs, h0, r, hr => by
    rw [valsE] at h0
    by_cases hc : chk a.1 a.2.1 a.2.2.data.toList = 0
    · rw [if_neg (by simpa using hc)] at h0
      rcases List.mem_cons.1 hr with rfl | hr
      · exact hc
      · exact valsE_zero h0 r hr
    · rw [if_pos hc] at h0; exact absurd h0 hc
theorem valsE_of : ∀ {rs : List (Int × Int × ByteArray)}, (∀ r ∈ rs, chk r.1 r.2.1 r.2.2.data.toList = 0) → valsE rs = 0
  | [], _ => rfl
  | a :: rs, h => by
    rw [valsE, if_neg (by simpa using h a (by simp))]
    exact valsE_of fun r hr => h r (by simp [hr])
theorem ba_eta (x : ByteArray) : (⟨x.data.toList.toArray⟩ : ByteArray) = x := by simp
/-- What is written is read, part by part. -/
theorem rd_shown : ∀ (rs : List (Int × Int × ByteArray)) (f : Nat) (acc : List (Int × Int × ByteArray)), rs ≠ [] → rs.length ≤ f → acc.length + rs.length ≤ 6 → (∀ r ∈ rs, chk r.1 r.2.1 r.2.2.data.toList = 0 ∧ -9223372036854775808 ≤ r.2.1 ∧ r.2.1 ≤ 9223372036854775807) → rdGo f (rowT rs) acc false = (acc ++ rs, 0)
  | [], _, _, h, _, _, _ => absurd rfl h
  | [r], f, acc, _, hf, hl, hk => by
    obtain ⟨f, rfl⟩ : ∃ g, f = g + 1 := ⟨f - 1, by simp at hf; omega⟩
    obtain ⟨hc, hn⟩ := hk r (by simp)
    obtain ⟨P, hP⟩ : ∃ P : ByteArray, P.data.toList = shown r.1 r.2.1 r.2.2.data.toList := ⟨⟨(shown r.1 r.2.1 r.2.2.data.toList).toArray⟩, by simp⟩
    have hcut : cutV (rowT [r]) = (P.data.toList, (⟨#[]⟩ : ByteArray).data.toList, false) := by
      have := cut_shown hc []
      rw [List.append_nil] at this
      rw [rowT_one, cutV, this, hP]
      rfl
    have hr := read_shown r.1 r.2.1 r.2.2.data.toList P hn hc hP
    have h6 : (acc.length == 6) = false := by simp at hl; simp; omega
    rw [rd_step hcut hr, if_neg (by simp), rdNext, if_neg (by decide), h6]
    simp
  | r :: r2 :: rs, f, acc, _, hf, hl, hk => by
    obtain ⟨f, rfl⟩ : ∃ g, f = g + 1 := ⟨f - 1, by simp at hf; omega⟩
    obtain ⟨hc, hn⟩ := hk r (by simp)
    obtain ⟨P, hP⟩ : ∃ P : ByteArray, P.data.toList = shown r.1 r.2.1 r.2.2.data.toList := ⟨⟨(shown r.1 r.2.1 r.2.2.data.toList).toArray⟩, by simp⟩
    obtain ⟨Q, hQ⟩ : ∃ Q : ByteArray, Q.data.toList = rowT (r2 :: rs) := ⟨⟨(rowT (r2 :: rs)).toArray⟩, by simp⟩
    have hcut : cutV (rowT (r :: r2 :: rs)) = (P.data.toList, Q.data.toList, true) := by
      have := cut_shown hc (44 :: rowT (r2 :: rs))
      rw [cutPos, if_pos ⟨rfl, rfl⟩] at this
      rw [rowT_cons, cutV, this, hP, hQ]
      simp
    have hr := read_shown r.1 r.2.1 r.2.2.data.toList P hn hc hP
    have h6 : (acc.length == 6) = false := by simp at hl; simp; omega
    rw [rd_step hcut hr, if_neg (by simp), rdNext, if_pos rfl, h6, hQ]
    have ih := rd_shown (r2 :: rs) f (acc ++ [r]) (by simp) (by simp at hf ⊢; omega) (by simp at hl ⊢; omega) (fun x hx => hk x (by simp at hx ⊢; exact Or.inr hx))
    simpa using ih
theorem rowT_long : ∀ {rs : List (Int × Int × ByteArray)}, (∀ r ∈ rs, chk r.1 r.2.1 r.2.2.data.toList = 0) → rs.length ≤ (rowT rs).length
  | [], _ => by simp
  | [r], h => by
    have := shown_ne (h r (by simp))
    rw [rowT_one]
    have : 0 < (shown r.1 r.2.1 r.2.2.data.toList).length := List.length_pos_iff.2 this
    simp; omega
  | r :: r2 :: rs, h => by
    have ih := rowT_long (rs := r2 :: rs) fun x hx => h x (by simp at hx ⊢; exact Or.inr hx)
    rw [rowT_cons]
    simp at ih ⊢
    omega
/-- ROWS ARE READ AS THEY WERE. -/
theorem row_back {rs : List (Int × Int × ByteArray)} {x : ByteArray} (hE : rowE rs = 0) (hsz : Sized rs) (hx : x.data.toList = rowT rs) : rdRow x = (rs, 0) := by
  rw [rowE] at hE
  split at hE
  · exact absurd hE (by decide)
  · rename_i h6
    have hv := valsE_zero hE
    rw [rdRow, hx]
    cases rs with
    | nil => rfl
    | cons r rs =>
      have hlong := rowT_long hv
      rw [if_neg (by intro e; rw [e] at hlong; simp at hlong), Lib.size_eq, hx]
      simpa using rd_shown (r :: rs) ((rowT (r :: rs)).length + 1) [] (by simp) (by omega) (by simp at h6 ⊢; omega) (fun a ha => ⟨hv a ha, (hsz a ha).2⟩)
theorem cutPos_split : ∀ {l : List UInt8} {b : Bool} {k : Nat}, cutPos b l = some k → l = l.take k ++ 44 :: l.drop (k + 1)
  | [], b, k, h => by simp [cutPos] at h
  | c :: l, b, k, h => by
    rw [cutPos] at h
    split at h
    · rename_i hc
      obtain rfl := Option.some.inj h
      simp [hc.1]
    · obtain ⟨j, hj, rfl⟩ := Option.map_eq_some_iff.1 h
      have := cutPos_split hj
      simpa using this
/-- What a text is read as is written as it was. -/
theorem rd_back : ∀ (f : Nat) (l : List UInt8) (acc : List (Int × Int × ByteArray)) (full : Bool) (R : List (Int × Int × ByteArray)), l.length < f → acc.length ≤ 6 → rdGo f l acc full = (R, 0) →
    full = false ∧ ∃ new, R = acc ++ new ∧ new ≠ [] ∧ rowT new = l ∧ R.length ≤ 6 ∧ ∀ r ∈ new, chk r.1 r.2.1 r.2.2.data.toList = 0 ∧ r.2.2.size ≤ 40 ∧ -9223372036854775808 ≤ r.2.1 ∧ r.2.1 ≤ 9223372036854775807
  | 0, _, _, _, _, h, _, _ => absurd h (by omega)
  | f + 1, l, acc, full, R, hf, ha, h => by
    obtain ⟨P, hP⟩ : ∃ P : ByteArray, P.data.toList = (cutV l).1 := ⟨⟨(cutV l).1.toArray⟩, by simp⟩
    obtain ⟨Q, hQ⟩ : ∃ Q : ByteArray, Q.data.toList = (cutV l).2.1 := ⟨⟨(cutV l).2.1.toArray⟩, by simp⟩
    obtain ⟨x, hx⟩ : ∃ x : ByteArray, x.data.toList = (readV P).2.2.1 := ⟨⟨(readV P).2.2.1.toArray⟩, by simp⟩
    have hc : cutV l = (P.data.toList, Q.data.toList, (cutV l).2.2) := by rw [hP, hQ]
    have hr : readV P = ((readV P).1, (readV P).2.1, x.data.toList, (readV P).2.2.2) := by rw [hx]
    rw [rd_step hc hr] at h
    generalize (readV P).1 = t at hr h
    generalize (readV P).2.1 = n at hr h
    generalize (readV P).2.2.2 = e at hr h
    generalize hm : (cutV l).2.2 = m at hc h
    split at h
    · rename_i h1
      have := congrArg Prod.snd h
      exact absurd this h1.1
    · rename_i h1
      by_cases he : e = 0
      · subst he
        obtain ⟨hk, hsh, h40, hn1, hn2⟩ := shown_read t n x.data.toList P hr
        have hx40 : x.size ≤ 40 := by simpa using h40
        cases full with
        | true =>
          simp only [Bool.true_or, if_true] at h
          rw [rdNext] at h
          split at h
          · rename_i hmt
            have hlt : (Q.data.toList).length < f := by
              rw [hmt] at hm
              rw [hQ]
              rw [cutV] at hm ⊢
              cases hcp : cutPos false l with
              | none => rw [hcp] at hm; cases hm
              | some k => have := cutPos_lt hcp; simp; omega
            exact absurd (rd_back f _ acc true R hlt ha h).1 (by decide)
          · simp at h
        | false =>
          by_cases h6 : acc.length = 6
          · rw [show (acc.length == 6) = true by simpa using h6] at h
            simp only [Bool.or_true, if_true] at h
            rw [rdNext] at h
            split at h
            · rename_i hmt
              have hlt : (Q.data.toList).length < f := by
                rw [hmt] at hm
                rw [hQ]
                rw [cutV] at hm ⊢
                cases hcp : cutPos false l with
                | none => rw [hcp] at hm; cases hm
                | some k => have := cutPos_lt hcp; simp; omega
              exact absurd (rd_back f _ acc true R hlt ha h).1 (by decide)
            · simp at h
          · rw [show (acc.length == 6) = false by simpa using h6] at h
            simp at h
            rw [rdNext] at h
            refine ⟨rfl, ?_⟩
            split at h
            · rename_i hmt
              subst hmt
              have hsplit : l = P.data.toList ++ 44 :: Q.data.toList ∧ (Q.data.toList).length < f := by
                rw [hP, hQ]
                rw [cutV] at hm ⊢
                cases hcp : cutPos false l with
                | none => rw [hcp] at hm; cases hm
                | some k => exact ⟨cutPos_split hcp, by have := cutPos_lt hcp; simp; omega⟩
              obtain ⟨_, new, e1, e2, e3, e4, e5⟩ := rd_back f _ (acc ++ [(t, n, x)]) false R hsplit.2 (by simp; omega) h
              cases new with
              | nil => exact absurd rfl e2
              | cons r2 rs =>
                refine ⟨(t, n, x) :: r2 :: rs, by rw [e1]; simp, by simp, ?_, e4, ?_⟩
                · rw [rowT_cons, e3, hsh]; exact hsplit.1.symm
                · intro r hr
                  rcases List.mem_cons.1 hr with rfl | hr
                  · exact ⟨hk, hx40, hn1, hn2⟩
                  · exact e5 r hr
            · rename_i hmt
              have hl : l = P.data.toList := by
                rw [hP]
                rw [cutV] at hm ⊢
                cases hcp : cutPos false l with
                | none => rfl
                | some k => rw [hcp] at hm; exact absurd hm.symm (by simpa using hmt)
              simp only [Bool.false_eq_true, if_false] at h
              have hR := congrArg Prod.fst h
              simp only at hR
              refine ⟨[(t, n, x)], hR.symm, by simp, by rw [rowT_one, hsh, hl], by rw [← hR]; simp; omega, ?_⟩
              intro r hr
              obtain rfl := List.mem_singleton.1 hr
              exact ⟨hk, hx40, hn1, hn2⟩
      · have he4 : e = 4 := Classical.byContradiction fun h4 => h1 ⟨he, h4⟩
        subst he4
        have hb : (full || ((4 : Int) != 0 || acc.length == 6)) = true := by simp
        rw [hb, if_pos rfl, rdNext] at h
        split at h
        · rename_i hmt
          have hlt : (Q.data.toList).length < f := by
            rw [hmt] at hm
            rw [hQ]
            rw [cutV] at hm ⊢
            cases hcp : cutPos false l with
            | none => rw [hcp] at hm; cases hm
            | some k => have := cutPos_lt hcp; simp; omega
          exact absurd (rd_back f _ acc true R hlt ha h).1 (by decide)
        · simp at h
/-- ANY TEXT THAT IS A ROW IS SHOWN AS IT WAS. -/
theorem back_row {s : ByteArray} {R : List (Int × Int × ByteArray)} (h : rdRow s = (R, 0)) : rowE R = 0 ∧ rowT R = s.data.toList ∧ Sized R := by
  rw [rdRow] at h
  split at h
  · rename_i hs
    have := congrArg Prod.fst h
    simp only at this
    subst this
    exact ⟨rfl, by rw [hs]; rfl, fun r hr => by simp at hr⟩
  · obtain ⟨_, new, e1, e2, e3, e4, e5⟩ := rd_back _ _ [] false R (by simp) (by simp) h
    simp at e1
    subst e1
    refine ⟨?_, e3, ?_⟩
    · rw [rowE, if_neg (by omega)]
      exact valsE_of fun r hr => (e5 r hr).1
    · intro r hr
      obtain ⟨_, h2, h3⟩ := e5 r hr
      exact ⟨by unfold maxLen; omega, h3⟩
/-- Columns: a text without the byte c is gone over by a cut at c. -/
theorem cut1_over (c : UInt8) : ∀ (x l : List UInt8), (∀ b ∈ x, b ≠ c) → cut1 c (x ++ l) = (x ++ (cut1 c l).1, (cut1 c l).2.1, (cut1 c l).2.2)
  | [], l, _ => rfl
  | b :: x, l, h => by
    rw [List.cons_append, cut1, if_neg (h b (by simp)), cut1_over c x l (fun d hd => h d (by simp [hd]))]
    rfl
theorem cut1_split (c : UInt8) : ∀ (l : List UInt8), ((cut1 c l).2.2 = true → l = (cut1 c l).1 ++ c :: (cut1 c l).2.1) ∧ ((cut1 c l).2.2 = false → l = (cut1 c l).1 ∧ (cut1 c l).2.1 = [])
  | [] => ⟨fun h => by simp [cut1] at h, fun _ => ⟨rfl, rfl⟩⟩
  | b :: l => by
    by_cases hb : b = c
    · rw [cut1, if_pos hb]; simp [hb]
    · rw [cut1, if_neg hb]
      obtain ⟨h1, h2⟩ := cut1_split c l
      refine ⟨fun h => ?_, fun h => ?_⟩
      · have := h1 h
        simp only [List.cons_append]
        rw [← this]
      · obtain ⟨e1, e2⟩ := h2 h
        exact ⟨by rw [← e1], e2⟩
theorem name_bytes {l : List UInt8} (h : nameB l = true) : ∀ b ∈ l, b ≠ 32 ∧ b ≠ 44 := by
  rw [nameB] at h
  simp only [Bool.and_eq_true] at h
  intro b hb
  have := List.all_eq_true.1 h.2.2 b hb
  simp [letN] at this
  constructor
  · rintro rfl; exact absurd this.1 (by decide)
  · rintro rfl; exact absurd this.1 (by decide)
theorem typeOf_word {t : Int} (h : 1 ≤ t ∧ t ≤ 3) : typeOfW (wordOf t).data.toList = t ∧ ∀ b ∈ (wordOf t).data.toList, b ≠ 44 := by
  have h3 : t = 1 ∨ t = 2 ∨ t = 3 := by omega
  rcases h3 with rfl | rfl | rfl
  · exact ⟨by decide, by decide⟩
  · exact ⟨by decide, by decide⟩
  · exact ⟨by decide, by decide⟩
theorem colT_list (z : ByteArray × Int) : (colT z).data.toList = z.1.data.toList ++ 32 :: (wordOf z.2).data.toList := by
  simp [colT]
theorem col_shown {z : ByteArray × Int} (hn : nameB z.1.data.toList = true) (ht : 1 ≤ z.2 ∧ z.2 ≤ 3) : colRd (colT z).data.toList = (z.1.data.toList, z.2, 0) ∧ ∀ b ∈ (colT z).data.toList, b ≠ 44 := by
  obtain ⟨h1, h2⟩ := typeOf_word ht
  have hb := name_bytes hn
  have hc : cut1 32 (colT z).data.toList = (z.1.data.toList, (wordOf z.2).data.toList, true) := by
    rw [colT_list, cut1_over 32 _ _ (fun b h => (hb b h).1), cut1, if_pos rfl]; simp
  refine ⟨?_, ?_⟩
  · rw [colRd, hc]
    simp only [h1, hn]
    rw [if_neg (by simp; omega)]
  · intro b h
    rw [colT_list] at h
    rcases List.mem_append.1 h with h | h
    · exact (hb b h).2
    · rcases List.mem_cons.1 h with rfl | h
      · decide
      · exact h2 b h
theorem schT_cons (z z2 : ByteArray × Int) (zs : List (ByteArray × Int)) : schT (z :: z2 :: zs) = (colT z).data.toList ++ 44 :: schT (z2 :: zs) := by
  simp only [schT, List.map_cons, Lib.join_cons]
  simp [Lib.joinTail]
theorem schT_one (z : ByteArray × Int) : schT [z] = (colT z).data.toList := by
  simp [schT, Lib.join_one]
theorem sd_shown : ∀ (zs : List (ByteArray × Int)) (f : Nat) (acc : List (ByteArray × Int)), zs ≠ [] → zs.length ≤ f → acc.length + zs.length ≤ 6 → (∀ z ∈ zs, nameB z.1.data.toList = true ∧ (1 ≤ z.2 ∧ z.2 ≤ 3)) → sdGo f (schT zs) acc = (acc ++ zs, 0)
  | [], _, _, h, _, _, _ => absurd rfl h
  | [z], f, acc, _, hf, hl, hk => by
    obtain ⟨f, rfl⟩ : ∃ g, f = g + 1 := ⟨f - 1, by simp at hf; omega⟩
    obtain ⟨hn, ht⟩ := hk z (by simp)
    obtain ⟨e1, e2⟩ := col_shown hn ht
    have hc : cut1 44 (schT [z]) = ((colT z).data.toList, (⟨#[]⟩ : ByteArray).data.toList, false) := by
      have := cut1_over 44 (colT z).data.toList [] e2
      rw [List.append_nil] at this
      rw [schT_one, this]; simp [cut1]
    rw [sd_step hc e1, if_neg (by simp), sdNext, if_neg (by decide), if_pos (by simp at hl; omega)]
  | z :: z2 :: zs, f, acc, _, hf, hl, hk => by
    obtain ⟨f, rfl⟩ : ∃ g, f = g + 1 := ⟨f - 1, by simp at hf; omega⟩
    obtain ⟨hn, ht⟩ := hk z (by simp)
    obtain ⟨e1, e2⟩ := col_shown hn ht
    obtain ⟨Q, hQ⟩ : ∃ Q : ByteArray, Q.data.toList = schT (z2 :: zs) := ⟨⟨(schT (z2 :: zs)).toArray⟩, by simp⟩
    have hc : cut1 44 (schT (z :: z2 :: zs)) = ((colT z).data.toList, Q.data.toList, true) := by
      rw [schT_cons, cut1_over 44 _ _ e2, cut1, if_pos rfl, hQ]; simp
    rw [sd_step hc e1, if_neg (by simp), sdNext, if_pos rfl, if_pos (by simp at hl; omega), hQ]
    have ih := sd_shown (z2 :: zs) f (acc ++ [z]) (by simp) (by simp at hf ⊢; omega) (by simp at hl ⊢; omega) (fun x hx => hk x (by simp at hx ⊢; exact Or.inr hx))
    simpa using ih
theorem schT_long : ∀ (zs : List (ByteArray × Int)), zs.length ≤ (schT zs).length
  | [] => by simp
  | [z] => by rw [schT_one, colT_list]; simp; omega
  | z :: z2 :: zs => by
    have ih := schT_long (z2 :: zs)
    rw [schT_cons, colT_list]
    simp at ih ⊢
    omega
/-- SCHEMAS ARE READ AS THEY WERE. -/
theorem sch_back {zs : List (ByteArray × Int)} {x : ByteArray} (hE : schE zs = 0) (hx : x.data.toList = schT zs) : sdRow x = (zs, 0) := by
  obtain ⟨h0, h6, hF⟩ := schE_zero hE
  have hlong := schT_long zs
  rw [sdRow, Lib.size_eq, hx, sd_shown zs ((schT zs).length + 1) [] (fun e => h0 (by rw [e]; rfl)) (by omega) (by simp; omega) (fun z hz => by
    obtain ⟨j, hj, rfl⟩ := List.getElem_of_mem hz
    exact ⟨(hF j hj).1, (hF j hj).2.1⟩)]
  simp [sdEnd, hE]
theorem word_of {l : List UInt8} (h : typeOfW l ≠ 0) : (wordOf (typeOfW l)).data.toList = l ∧ l ≠ [] := by
  rw [typeOfW] at h ⊢
  split
  · rename_i h1; rw [h1]; exact ⟨by decide, by decide⟩
  · rename_i h1
    rw [if_neg h1] at h
    split
    · rename_i h2; rw [h2]; exact ⟨by decide, by decide⟩
    · rename_i h2
      rw [if_neg h2] at h
      split
      · rename_i h3; rw [h3]; exact ⟨by decide, by decide⟩
      · rename_i h3
        rw [if_neg h3] at h
        exact absurd rfl h
/-- A column that was read is written as it was. -/
theorem col_back {l : List UInt8} {nm : ByteArray} {t : Int} (h : colRd l = (nm.data.toList, t, 0)) : (colT (nm, t)).data.toList = l := by
  rw [colRd] at h
  split at h
  · simp at h
  · rename_i ht
    have e1 := congrArg Prod.fst h
    have e2 := congrArg (fun x => x.2.1) h
    simp only at e1 e2
    obtain ⟨h1, h2⟩ := word_of (fun h => ht (Or.inl h))
    rw [e2] at h1
    rw [colT_list]
    obtain ⟨s1, s2⟩ := cut1_split 32 l
    cases hm : (cut1 32 l).2.2 with
    | true => rw [← e1, h1]; exact (s1 hm).symm
    | false => exact absurd (s2 hm).2 h2
theorem sd_ge : ∀ (f : Nat) (l : List UInt8) (acc R : List (ByteArray × Int)), l.length < f → sdGo f l acc = (R, 0) → R.length ≤ 6 → ∃ new, R = acc ++ new ∧ new ≠ [] ∧ schT new = l
  | 0, _, _, _, h, _, _ => absurd h (by omega)
  | f + 1, l, acc, R, hf, h, h6 => by
    obtain ⟨P, hP⟩ : ∃ P : ByteArray, P.data.toList = (cut1 44 l).1 := ⟨⟨(cut1 44 l).1.toArray⟩, by simp⟩
    obtain ⟨Q, hQ⟩ : ∃ Q : ByteArray, Q.data.toList = (cut1 44 l).2.1 := ⟨⟨(cut1 44 l).2.1.toArray⟩, by simp⟩
    obtain ⟨nm, hnm⟩ : ∃ nm : ByteArray, nm.data.toList = (colRd P.data.toList).1 := ⟨⟨(colRd P.data.toList).1.toArray⟩, by simp⟩
    have hc : cut1 44 l = (P.data.toList, Q.data.toList, (cut1 44 l).2.2) := by rw [hP, hQ]
    have hr : colRd P.data.toList = (nm.data.toList, (colRd P.data.toList).2.1, (colRd P.data.toList).2.2) := by rw [hnm]
    obtain ⟨s1, s2⟩ := cut1_split 44 l
    rw [sd_step hc hr] at h
    generalize (colRd P.data.toList).2.1 = t at hr h
    generalize (colRd P.data.toList).2.2 = k at hr h
    rw [← hP, ← hQ] at s1
    rw [← hP] at s2
    generalize hm : (cut1 44 l).2.2 = m at hc h s1 s2
    split at h
    · rename_i hk
      exact absurd (congrArg Prod.snd h) hk
    · rename_i hk
      have hk0 : k = 0 := Classical.not_not.1 hk
      subst hk0
      have hcol := col_back hr
      by_cases ha : acc.length ≤ 6
      · rw [if_pos ha, sdNext] at h
        cases m with
        | true =>
          rw [if_pos rfl] at h
          have hs := s1 rfl
          have hlt : (Q.data.toList).length < f := by
            have := congrArg List.length hs
            rw [List.length_append, List.length_cons] at this
            omega
          obtain ⟨new, e1, e2, e3⟩ := sd_ge f _ _ R hlt h h6
          cases new with
          | nil => exact absurd rfl e2
          | cons z2 zs => exact ⟨(nm, t) :: z2 :: zs, by rw [e1]; simp, by simp, by rw [schT_cons, e3, hcol]; exact hs.symm⟩
        | false =>
          rw [if_neg (by decide)] at h
          have hR := congrArg Prod.fst h
          simp only at hR
          exact ⟨[(nm, t)], hR.symm, by simp, by rw [schT_one, hcol]; exact (s2 rfl).1.symm⟩
      · rw [if_neg ha, sdNext] at h
        cases m with
        | true =>
          rw [if_pos rfl] at h
          have hs := s1 rfl
          have hlt : (Q.data.toList).length < f := by
            have := congrArg List.length hs
            rw [List.length_append, List.length_cons] at this
            omega
          obtain ⟨new, e1, e2, e3⟩ := sd_ge f _ _ R hlt h h6
          rw [e1] at h6
          simp at h6
          omega
        | false =>
          rw [if_neg (by decide)] at h
          have hR := congrArg Prod.fst h
          simp only at hR
          rw [← hR] at h6
          exact absurd h6 ha
/-- ANY TEXT THAT IS A SCHEMA IS SHOWN AS IT WAS. -/
theorem back_sch {s : ByteArray} {R : List (ByteArray × Int)} (h : sdRow s = (R, 0)) : schE R = 0 ∧ schT R = s.data.toList := by
  rw [sdRow, sdEnd] at h
  split at h
  · rename_i h1
    exact absurd (congrArg Prod.snd h) h1
  · rename_i h1
    split at h
    · rename_i h2
      exact absurd (congrArg Prod.snd h) h2
    · rename_i h2
      have hR := congrArg Prod.fst h
      simp only at hR
      have hz : schE R = 0 := by rw [← hR]; exact Classical.not_not.1 h2
      obtain ⟨_, h6, _⟩ := schE_zero hz
      obtain ⟨new, e1, e2, e3⟩ := sd_ge (s.size + 1) s.data.toList [] R (by simp) (by rw [← hR]; exact Prod.ext rfl (Classical.not_not.1 h1)) h6
      simp at e1
      subst e1
      exact ⟨hz, e3⟩
end Go.Proofs.YtggabncpedcmdaaGreatDoor
