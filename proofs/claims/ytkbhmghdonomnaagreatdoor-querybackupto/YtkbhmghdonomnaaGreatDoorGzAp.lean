/-
  TreeLz, TreeMk, TreeSn, QwA, Clone, Lex5, in one text.
-/
import Derived.Test.YtkbhmghdonomnaaGreatDoorGzAo
import Derived.Test.YtkbhmghdonomnaaGreatDoorGzAk
import Derived.Test.YtkbhmghdonomnaaGreatDoorGzAn
import Derived.Test.YtkbhmghdonomnaaGreatDoorGzAg
import Derived.Test.YtkbhmghdonomnaaGreatDoorZShelf
import Derived.WalkKit
import Derived.Below
import Derived.Test.YtkbhmghdonomnaaGreatDoorGzAd
import Derived.Deep.RegionWith
namespace Go.Proofs.YtkbhmghdonomnaaGreatDoor
set_option linter.unusedVariables false
theorem okp_P : ∀ (x : Ex) (d : Nat), (∀ q ∈ x.pre d, nodeE q.1 = 0) → (∀ q ∈ x.pre d, inI q.1.vn) → ∀ rest : List Item, Okp rest → endB (itT rest) → Okp (itP x ++ rest) := by
 refine Ex.ind fun op nm vt vn vs pos l ih d hpre hin rest hr he => ?_
 have hself := hpre (.node op nm vt vn vs pos l, d) (by rw [Ex.pre]; exact List.mem_cons_self ..)
 have hvn : inI vn := hin (.node op nm vt vn vs pos l, d) (by rw [Ex.pre]; exact List.mem_cons_self ..)
 have hsub : ∀ y ∈ l, ∀ q ∈ y.pre (d + 1), q ∈ (Ex.node op nm vt vn vs pos l).pre d := fun y hy q hq => by
  rw [Ex.pre]; exact List.mem_cons_of_mem _ (pres_mem hy q hq)
 have hI := fun y hy => ih y hy (d + 1) (fun q hq => hpre q (hsub y hy q hq)) (fun q hq => hin q (hsub y hy q hq))
 obtain ⟨ha1, ha2, _⟩ := node_ok hself
 have ha2' : (l.length : Int) = (apL op.data.toList opsL).1 := ha2
 have ha1' : (apL op.data.toList opsL).2 = true := ha1
 obtain ⟨hcol, hncol, hnval, hval⟩ := node_all hself
 clear ha1 ha2 hpre hin hsub ih hself
 have ct : ∀ (i : Item) (is : List Item), itT (i :: is) = i.2 ++ itT is := fun i is => by simp [itT]
 have par : ∀ (c : UInt8) (is : List Item), (c = 40 ∨ c = 41 ∨ c = 44) → Okp is → Okp ((some 4, [c]) :: is) := fun c is hc h => by
  rw [Okp]
  exact ⟨sgn_par c (itT is) hc, by simp, h⟩
 have bl : ∀ is : List Item, Okp is → Okp ((none, [32]) :: is) := fun is h => by
  rw [Okp]
  exact ⟨by decide, h⟩
 rw [itP, itsP_map]
 by_cases h1 : op.data.toList = [118, 97, 108]
 ·rw [if_pos h1, List.singleton_append, Okp]
  obtain ⟨a, b⟩ := tok_val hvn (hval h1) he
  exact ⟨a, b, hr⟩
 rw [if_neg h1]
 by_cases h2 : op.data.toList = [99, 111, 108]
 ·rw [if_pos h2, List.singleton_append, Okp]
  obtain ⟨a, b⟩ := tok_name (hcol h2) he
  exact ⟨a, b, hr⟩
 rw [if_neg h2]
 have hcl : Okp ((some 4, [41]) :: rest) := par 41 rest (.inr (.inl rfl)) hr
 have hcle : endB (itT ((some 4, [41]) :: rest)) := by rw [ct]; exact end41 _
 rcases op_kinds ha1' ha2' h1 h2 with ⟨ho, hl⟩ | ⟨ho, hl⟩ | ⟨ho, hl⟩ | ⟨ho, hl⟩ | ⟨ho, hl, o1, o2, o3, o4⟩
 ·obtain ⟨y, rfl⟩ := head_of hl
  rw [if_pos (.inl ho)]
  simp only [List.map_cons, List.map_nil, itI, List.cons_append, List.append_assoc, List.nil_append]
  have h3 := hI y (by simp) _ hcl hcle
  have h4 := par 40 _ (.inl rfl) h3
  rw [Okp]
  refine ⟨?_, by rw [ho]; decide, h4⟩
  rw [ho, ct]
  have hw : tokAt ([108, 101, 110] ++ 40 :: itT (itP y ++ (some 4, [41]) :: rest)) = (1, 3, 0) := by
   simp [tokAt, letB, goN, ldB, digB]
  exact hw
 ·obtain ⟨y, z, u, rfl⟩ : ∃ y z u, l = [y, z, u] := by
   match l, hl with
   | [y, z, u], _ => exact ⟨y, z, u, rfl⟩
  rw [if_pos (.inr ho)]
  simp only [List.map_cons, List.map_nil, itI, List.cons_append, List.append_assoc, List.nil_append]
  have h3 := hI u (by simp) _ hcl hcle
  have h4 := par 44 _ (.inr (.inr rfl)) (bl _ h3)
  have h5 := hI z (by simp) _ h4 (by rw [ct]; exact end44 _)
  have h6 := par 44 _ (.inr (.inr rfl)) (bl _ h5)
  have h7 := hI y (by simp) _ h6 (by rw [ct]; exact end44 _)
  have h8 := par 40 _ (.inl rfl) h7
  rw [Okp]
  refine ⟨?_, by rw [ho]; decide, h8⟩
  rw [ho, ct]
  generalize itT _ = W
  show tokAt ([105, 102] ++ 40 :: W) = (1, 2, 0)
  simp [tokAt, letB, goN, ldB, digB]
 ·obtain ⟨y, rfl⟩ := head_of hl
  rw [if_neg (by rw [ho]; decide), if_pos ho]
  simp only [List.map_cons, List.map_nil, List.headD_cons, List.cons_append, List.append_assoc, List.nil_append]
  have h3 := bl _ (hI y (by simp) _ hcl hcle)
  refine par 40 _ (.inl rfl) ?_
  rw [Okp]
  exact ⟨tk_word (c := 110) (t := [111, 116]) (by decide) (by decide) (by rw [ct]; exact end32 _), by decide, h3⟩
 ·obtain ⟨y, rfl⟩ := head_of hl
  rw [if_neg (by rw [ho]; decide), if_neg (by rw [ho]; decide), if_pos ho]
  simp only [List.map_cons, List.map_nil, List.headD_cons, List.cons_append, List.append_assoc, List.nil_append]
  have h3 := bl _ (hI y (by simp) _ hcl hcle)
  refine par 40 _ (.inl rfl) ?_
  rw [Okp, ct]
  exact ⟨tok_minus _, by decide, h3⟩
 ·obtain ⟨y, z, rfl⟩ : ∃ y z, l = [y, z] := by
   match l, hl with
   | [y, z], _ => exact ⟨y, z, rfl⟩
  rw [if_neg (fun h => h.elim o1 o2), if_neg o3, if_neg o4]
  simp only [List.map_cons, List.map_nil, itI, List.cons_append, List.append_assoc, List.nil_append]
  have h3 := bl _ (hI z (by simp) _ hcl hcle)
  have h4 : Okp ((some (opK op.data.toList), op.data.toList) :: (none, [32]) :: (itP z ++ (some 4, [41]) :: rest)) := by
   rw [Okp, ct]
   obtain ⟨a, b⟩ := tok_op ho (itT (itP z ++ (some 4, [41]) :: rest))
   exact ⟨a, b, h3⟩
  have h5 := hI y (by simp) _ (bl _ h4) (by rw [ct]; exact end32 _)
  exact par 40 _ (.inl rfl) h5
theorem itK_len : ∀ is : List Item, Okp is → (itK is).length ≤ (itT is).length
 | [], _ => by simp [itK]
 | (none, bs) :: is, h => by
  rw [Okp] at h
  have := itK_len is h.2
  simp only [itK, itT, List.flatMap_cons, List.length_append, List.nil_append] at this ⊢
  omega
 | (some k, t) :: is, h => by
  rw [Okp] at h
  have := itK_len is h.2.2
  have h2 : 1 ≤ t.length := by
   cases t with
   | nil => exact absurd rfl h.2.1
   | cons c q => simp
  simp only [itK, itT, List.flatMap_cons, List.length_append, List.length_singleton] at this ⊢
  omega
theorem sameL_all {b : Bool} : ∀ {l m : List Ex}, sameL b l m = true → l.length = m.length ∧ ∀ i (h : i < l.length) (h2 : i < m.length), sameE b l[i] m[i] = true
 | [], [], _ => ⟨rfl, fun i h => absurd h (by simp)⟩
 | [], _ :: _, h => by simp [sameL] at h
 | _ :: _, [], h => by simp [sameL] at h
 | x :: xs, y :: ys, h => by
  rw [sameL, Bool.and_eq_true] at h
  obtain ⟨h1, h2⟩ := sameL_all h.2
  refine ⟨by simp [h1], fun i hi hj => ?_⟩
  cases i with
  | zero => exact h.1
  | succ i => exact h2 i (by simpa using hi) (by simpa using hj)
theorem sizes_same {b : Bool} : ∀ {l m : List Ex}, (∀ y ∈ l, ∀ z, sameE b y z = true → y.size = z.size ∧ y.deep = z.deep) → sameL b l m = true → Ex.sizes l = Ex.sizes m ∧ Ex.deeps l = Ex.deeps m
 | [], [], _, _ => ⟨rfl, rfl⟩
 | [], _ :: _, _, h => by simp [sameL] at h
 | _ :: _, [], _, h => by simp [sameL] at h
 | x :: xs, y :: ys, hI, h => by
  rw [sameL, Bool.and_eq_true] at h
  obtain ⟨h1, h2⟩ := hI x (by simp) y h.1
  obtain ⟨h3, h4⟩ := sizes_same (fun z hz => hI z (by simp [hz])) h.2
  rw [Ex.sizes, Ex.sizes, Ex.deeps, Ex.deeps, h1, h2, h3, h4]
  exact ⟨rfl, rfl⟩
theorem same_size {b : Bool} : ∀ (x y : Ex), sameE b x y = true → x.size = y.size ∧ x.deep = y.deep := by
 refine Ex.ind fun op nm vt vn vs pos l ih y h => ?_
 obtain ⟨op2, nm2, vt2, vn2, vs2, pos2, l2⟩ := y
 rw [sameE] at h
 simp only [Bool.and_eq_true] at h
 obtain ⟨h1, h2⟩ := sizes_same (fun z hz => ih z hz) h.2.2.2.2
 rw [Ex.size, Ex.size, Ex.deep, Ex.deep, h1, h2]
 exact ⟨rfl, rfl⟩
theorem same_tg {b : Bool} {x y : Ex} (h : sameE b x y = true) : tgB x = tgB y := by
 obtain ⟨h1, h2⟩ := same_size x y h
 rw [tg_small, tg_small, Ex.small, Ex.small, h1, h2]
def OkN (x : Ex) : Prop := ∀ d, ∀ q ∈ x.pre d, nodeE q.1 = 0 ∧ inI q.1.vn
theorem pres_inv {d : Nat} {q : Ex × Nat} : ∀ {l : List Ex}, q ∈ Ex.pres d l → ∃ y ∈ l, q ∈ y.pre d
 | [], h => by rw [Ex.pres] at h; exact absurd h (by simp)
 | x :: xs, h => by
  rw [Ex.pres] at h
  rcases List.mem_append.1 h with h | h
  ·exact ⟨x, by simp, h⟩
  ·obtain ⟨y, hy, hq⟩ := pres_inv h
   exact ⟨y, by simp [hy], hq⟩
theorem okN_mk {op nm vs : ByteArray} {vt vn pos : Int} {l : List Ex} (h : nodeE (.node op nm vt vn vs pos l) = 0) (hv : inI vn) (hl : ∀ y ∈ l, OkN y) : OkN (.node op nm vt vn vs pos l) := by
 intro d q hq
 rw [Ex.pre] at hq
 rcases List.mem_cons.1 hq with rfl | hq
 ·exact ⟨h, hv⟩
 ·obtain ⟨y, hy, hq⟩ := pres_inv hq
  exact hl y hy (d + 1) q hq
theorem in0 : inI 0 := by unfold inI; omega
theorem nodeE_op {op : ByteArray} {pos : Int} {l : List Ex} (h1 : apL op.data.toList opsL = ((l.length : Int), true)) (h2 : op.data.toList ≠ [118, 97, 108]) (h3 : op.data.toList ≠ [99, 111, 108]) : nodeE (.node op ⟨#[]⟩ 0 0 ⟨#[]⟩ pos l) = 0 := by
 have e1 : nodeE (.node op ⟨#[]⟩ 0 0 ⟨#[]⟩ pos l) = nodeB (apL op.data.toList opsL).2 (op.toList == [99, 111, 108]) (nameT (⟨#[]⟩ : ByteArray).data.toList) ((l.length : Int) != (apL op.data.toList opsL).1) (!((⟨#[]⟩ : ByteArray).toList == [])) (op.toList == [118, 97, 108]) (!(((0 : Int) == 0) && (((0 : Int) == 0) && ((⟨#[]⟩ : ByteArray).toList == [])))) (ckV 0 0 (⟨#[]⟩ : ByteArray).data.toList) := rfl
 have q2 : (op.toList == [118, 97, 108]) = false := by rw [Lib.toList_data]; simpa using h2
 have q3 : (op.toList == [99, 111, 108]) = false := by rw [Lib.toList_data]; simpa using h3
 have q4 : ((⟨#[]⟩ : ByteArray).toList == ([] : List UInt8)) = true := by rw [Lib.toList_data]; rfl
 rw [e1, h1, q2, q3, q4]
 simp [nodeB]
theorem bin_ap {op : List UInt8} (h : op ∈ bin14) : apL op opsL = (2, true) ∧ op ≠ [118, 97, 108] ∧ op ≠ [99, 111, 108] := by
 simp only [bin14, List.mem_cons, List.not_mem_nil, or_false] at h
 rcases h with rfl | rfl | rfl | rfl | rfl | rfl | rfl | rfl | rfl | rfl | rfl | rfl | rfl <;> decide
theorem okN_bet {a b : Ex} {t : Tok} (ht : t.2.1.data.toList ∈ bin14) (ha : OkN a) (hb : OkN b) : OkN (betT a t b) := by
 obtain ⟨h1, h2, h3⟩ := bin_ap ht
 exact okN_mk (nodeE_op h1 h2 h3) in0 (fun y hy => by
  rcases List.mem_cons.1 hy with rfl | hy
  ·exact ha
  ·rw [List.mem_singleton.1 hy]; exact hb)
theorem okN_op1 {op : List UInt8} {pos : Int} {e : Ex} (ho : op = [110, 111, 116] ∨ op = [110, 101, 103]) (he : OkN e) : OkN (op1 op pos [e]) := by
 have h : ∀ o : List UInt8, o = op → apL o opsL = (1, true) ∧ o ≠ [118, 97, 108] ∧ o ≠ [99, 111, 108] := fun o e => by
  rcases ho with h | h <;> rw [e, h] <;> decide
 obtain ⟨h1, h2, h3⟩ := h (⟨op.toArray⟩ : ByteArray).data.toList rfl
 exact okN_mk (nodeE_op h1 h2 h3) in0 (fun y hy => by rw [List.mem_singleton.1 hy]; exact he)
def GdT (t : Tok) : Prop := ∃ k, tokAt t.2.1.data.toList = (k, t.2.1.data.toList.length, 0)
theorem readV_right {s : ByteArray} {T n : Int} {l : List UInt8} (h : readV s = (T, n, l, 0)) : chk T n l = 0 ∧ inI n ∧ (T = 1 → Lib.itoa n = s.data.toList) := by
 rw [readV] at h
 split at h
 ·simp only [Prod.mk.injEq] at h
  obtain ⟨rfl, rfl, rfl, _⟩ := h
  exact ⟨by decide, by unfold inI; omega, fun e => absurd e (by decide)⟩
 split at h
 ·simp only [Prod.mk.injEq] at h
  obtain ⟨rfl, rfl, rfl, _⟩ := h
  exact ⟨by decide, in0, fun e => absurd e (by decide)⟩
 split at h
 ·split at h
  ·simp at h
  ·split at h
   ·simp at h
   ·split at h
    ·simp at h
    ·rename_i l0 _ hp hl
     simp only [Prod.mk.injEq] at h
     obtain ⟨rfl, rfl, rfl, _⟩ := h
     refine ⟨?_, in0, fun e => absurd e (by decide)⟩
     have hp' : plainB l0 = true := by simpa using hp
     simp [chk, hp']
     omega
 ·split at h
  ·rename_i m hm
   split at h
   ·rename_i he
    simp only [Prod.mk.injEq] at h
    obtain ⟨rfl, rfl, rfl, _⟩ := h
    exact ⟨by simp [chk], atoi_bounds hm, fun _ => he⟩
   ·simp at h
  ·simp at h
theorem okN_val {t : Tok} (hg : GdT t) (hv : vlT t = true) : OkN (valE t) := by
 obtain ⟨T, n, l, e, hr⟩ : ∃ T n l e, readV t.2.1 = (T, n, l, e) := ⟨_, _, _, _, rfl⟩
 have he : e = 0 := by rw [vlT, hr] at hv; simpa using hv
 subst he
 obtain ⟨hc, hi, h1⟩ := readV_right hr
 have hck : ckV T n l = 0 := by
  rw [ckV, if_neg (by simpa using hc), if_neg]
  rintro ⟨e, hn⟩
  have h2 := h1 e
  rw [Lib.itoa, if_pos hn] at h2
  obtain ⟨k, hk⟩ := hg
  rw [← h2] at hk
  have h45 : ∀ q : List UInt8, tokAt (45 :: q) = (4, 1, 0) := fun q => by
   simp [tokAt, letB, digB, signsL, sgN, Lib.hasPrefix, List.isPrefixOf]
  rw [h45] at hk
  simp only [Prod.mk.injEq, List.length_cons] at hk
  obtain ⟨c, q, hd, _⟩ := digits_head n.natAbs n.natAbs (Nat.le_refl _)
  rw [hd] at hk
  simp at hk
 rw [valE, hr]
 refine okN_mk ?_ hi (fun y hy => absurd hy (by simp))
 have e1 : nodeE (.node ⟨#[118, 97, 108]⟩ ⟨#[]⟩ T n ⟨l.toArray⟩ (t.2.2 : Int) []) = nodeB (apL [118, 97, 108] opsL).2 ((⟨#[118, 97, 108]⟩ : ByteArray).toList == [99, 111, 108]) (nameT (⟨#[]⟩ : ByteArray).data.toList) ((([] : List Ex).length : Int) != (apL [118, 97, 108] opsL).1) (!((⟨#[]⟩ : ByteArray).toList == [])) ((⟨#[118, 97, 108]⟩ : ByteArray).toList == [118, 97, 108]) (!((T == 0) && ((n == 0) && ((⟨l.toArray⟩ : ByteArray).toList == [])))) (ckV T n l) := rfl
 have q1 : ((⟨#[118, 97, 108]⟩ : ByteArray).toList == [99, 111, 108]) = false := by rw [Lib.toList_data]; rfl
 have q2 : ((⟨#[118, 97, 108]⟩ : ByteArray).toList == [118, 97, 108]) = true := by rw [Lib.toList_data]; rfl
 have q4 : ((⟨#[]⟩ : ByteArray).toList == ([] : List UInt8)) = true := by rw [Lib.toList_data]; rfl
 rw [e1, q1, q2, q4, hck]
 simp [nodeB, apL, opsL]
theorem okN_col {t : Tok} (h : nmT t = true) : OkN (colE1 t) := by
 refine okN_mk ?_ in0 (fun y hy => absurd hy (by simp))
 have e1 : nodeE (colE1 t) = nodeB (apL [99, 111, 108] opsL).2 ((⟨#[99, 111, 108]⟩ : ByteArray).toList == [99, 111, 108]) (nameT t.2.1.data.toList) ((([] : List Ex).length : Int) != (apL [99, 111, 108] opsL).1) (!(t.2.1.toList == [])) ((⟨#[99, 111, 108]⟩ : ByteArray).toList == [118, 97, 108]) (!(((0 : Int) == 0) && (((0 : Int) == 0) && ((⟨#[]⟩ : ByteArray).toList == [])))) (ckV 0 0 (⟨#[]⟩ : ByteArray).data.toList) := rfl
 have q1 : ((⟨#[99, 111, 108]⟩ : ByteArray).toList == [99, 111, 108]) = true := by rw [Lib.toList_data]; rfl
 have q2 : ((⟨#[99, 111, 108]⟩ : ByteArray).toList == [118, 97, 108]) = false := by rw [Lib.toList_data]; rfl
 have q4 : ((⟨#[]⟩ : ByteArray).toList == ([] : List UInt8)) = true := by rw [Lib.toList_data]; rfl
 have h' : nameT t.2.1.data.toList = true := h
 show nodeE (colE1 t) = 0
 rw [e1, q1, q2, q4, h']
 simp [nodeB, apL, opsL]
def Snd (sub : List Tok → Option Ex × List Tok) : Prop := ∀ ts y, (∀ t ∈ ts, GdT t) → (sub ts).1 = some y → OkN y
theorem gd_suf {ts r : List Tok} (h : ∀ t ∈ ts, GdT t) (hs : r <:+ ts) : ∀ t ∈ r, GdT t := fun t ht => h t (hs.subset ht)
theorem sg_mem {gs : List (List UInt8)} {t : Tok} (h : sgT gs t = true) : t.2.1.data.toList ∈ gs := by
 rw [sgT, List.any_eq_true] at h
 obtain ⟨g, hg, e⟩ := h
 have e : g = t.2.1.data.toList := by simpa using e
 rw [← e]; exact hg
theorem uLoop_snd {sub : List Tok → Option Ex × List Tok} (hs : Snd sub) (hf : Suf sub) (gs : List (List UInt8)) (hgs : ∀ g ∈ gs, g ∈ bin14) : ∀ (k : Nat) (e : Ex) (ts : List Tok) (y : Ex), OkN e → (∀ t ∈ ts, GdT t) → (uLoop sub gs k e ts).1 = some y → OkN y
 | 0, e, ts, y, he, _, h => by rw [uLoop] at h; simp only [Option.some.injEq] at h; subst h; exact he
 | k + 1, e, ts, y, he, hg, h => by
  rw [uLoop] at h
  cases hn : nxT (sgT gs) ts with
  | none => rw [hn] at h; simp only [Option.some.injEq] at h; subst h; exact he
  | some q =>
   obtain ⟨t, r⟩ := q
   rw [hn] at h
   obtain ⟨h1, hst⟩ := nxT_len hn
   subst h1
   simp only at h
   have hgr : ∀ t ∈ r, GdT t := fun u hu => hg u (by simp [hu])
   have h2 := hs r
   have h6 := hf r
   cases h3 : sub r with
   | mk o r2 =>
    rw [h3] at h h2 h6
    cases o with
    | none => exact absurd h (by simp)
    | some b => exact uLoop_snd hs hf gs hgs k (betT e t b) r2 y (okN_bet (hgs _ (sg_mem hst)) he (h2 b hgr rfl)) (gd_suf hgr h6) h
theorem uSev_snd {sub : List Tok → Option Ex × List Tok} (hs : Snd sub) (hf : Suf sub) (gs : List (List UInt8)) (hgs : ∀ g ∈ gs, g ∈ bin14) : Snd (uSev sub gs) := by
 intro ts y hg h
 have h2 := hs ts
 have h6 := hf ts
 rw [uSev] at h
 cases h3 : sub ts with
 | mk o r =>
  rw [h3] at h h2 h6
  cases o with
  | none => exact absurd h (by simp)
  | some e => exact uLoop_snd hs hf gs hgs (r.length + 1) e r y (h2 e hg rfl) (gd_suf hg h6) h
theorem uAhead_snd {sub other : List Tok → Option Ex × List Tok} (hs : Snd sub) (ho : Snd other) (op : List UInt8) (hop : op = [110, 111, 116] ∨ op = [110, 101, 103]) (gs : List (List UInt8)) : Snd (uAhead op gs sub other) := by
 intro ts y hg h
 rw [uAhead] at h
 cases hn : nxT (sgT gs) ts with
 | none => rw [hn] at h; exact ho ts y hg h
 | some q =>
  obtain ⟨t, r⟩ := q
  rw [hn] at h
  have h1 := (nxT_len hn).1
  subst h1
  have h2 := hs r
  simp only at h
  cases h3 : sub r with
  | mk o r2 =>
   rw [h3] at h h2
   cases o with
   | none => exact absurd h (by simp)
   | some e =>
    simp only [Option.some.injEq] at h
    subst h
    exact okN_op1 hop (h2 e (fun u hu => hg u (by simp [hu])) rfl)
theorem uCmp_snd {sub : List Tok → Option Ex × List Tok} (hs : Snd sub) (hf : Suf sub) : Snd (uCmp sub) := by
 intro ts y hg h
 have h2 := hs ts
 have h6 := hf ts
 rw [uCmp] at h
 cases h3 : sub ts with
 | mk o r =>
  rw [h3] at h h2 h6
  cases o with
  | none => exact absurd h (by simp)
  | some e =>
   have h4 := h2 e hg rfl
   simp only at h h6
   cases hn : nxT (sgT cmpL) r with
   | none => rw [hn] at h; simp only [Option.some.injEq] at h; subst h; exact h4
   | some q =>
    obtain ⟨t, r2⟩ := q
    rw [hn] at h
    obtain ⟨h1, hst⟩ := nxT_len hn
    subst h1
    have h5 := hs r2
    simp only at h
    cases h7 : sub r2 with
    | mk o r3 =>
     rw [h7] at h h5
     cases o with
     | none => exact absurd h (by simp)
     | some b =>
      simp only [Option.some.injEq] at h
      subst h
      have hgr := gd_suf hg h6
      refine okN_bet ?_ h4 (h5 b (fun u hu => hgr u (by simp [hu])) rfl)
      have hm := sg_mem hst
      simp only [cmpL, List.mem_cons, List.not_mem_nil, or_false] at hm
      simp only [bin14, List.mem_cons, List.not_mem_nil, or_false]
      rcases hm with h | h | h | h | h | h <;> simp [h]
theorem uBr_snd {sub : List Tok → Option Ex × List Tok} (hs : Snd sub) (hf : Suf sub) : ∀ (k : Nat) (acc : List Ex) (ts : List Tok) (l : List Ex), (∀ e ∈ acc, OkN e) → (∀ t ∈ ts, GdT t) → (uBr sub k acc ts).1 = some l → ∀ e ∈ l, OkN e
 | 0, acc, ts, l, ha, _, h => by
  rw [uBr] at h
  cases hn : nxT (sgT [[41]]) ts with
  | none => rw [hn] at h; exact absurd h (by simp)
  | some q =>
   rw [hn] at h
   simp only [Option.some.injEq] at h
   subst h
   exact ha
 | k + 1, acc, ts, l, ha, hg, h => by
  rw [uBr] at h
  cases hn : nxT (sgT [if acc.length = 0 then [40] else [44]]) ts with
  | none => rw [hn] at h; exact absurd h (by simp)
  | some q =>
   obtain ⟨t, r⟩ := q
   rw [hn] at h
   have h1 := (nxT_len hn).1
   subst h1
   have hgr : ∀ t ∈ r, GdT t := fun u hu => hg u (by simp [hu])
   have h2 := hs r
   have h6 := hf r
   simp only at h
   cases h3 : sub r with
   | mk o r2 =>
    rw [h3] at h h2 h6
    cases o with
    | none => exact absurd h (by simp)
    | some e =>
     exact uBr_snd hs hf k (acc ++ [e]) r2 l (fun x hx => by
      rcases List.mem_append.1 hx with hx | hx
      ·exact ha x hx
      ·rw [List.mem_singleton.1 hx]; exact h2 e hgr rfl) (gd_suf hgr h6) h
theorem uOne_snd {sub : List Tok → Option Ex × List Tok} (hs : Snd sub) (hf : Suf sub) : Snd (uOne sub) := by
 intro ts y hg h
 cases hn : nxT (sgT lenIf) ts with
 | some q =>
  obtain ⟨t, r⟩ := q
  rw [uOne_call hn] at h
  obtain ⟨h1, hst⟩ := nxT_len hn
  have hgr : ∀ t ∈ r, GdT t := fun u hu => hg u (by rw [h1]; simp [hu])
  have h2 := uBr_snd hs hf (manyT t) [] r
  have h5 := uBr_len (sub := sub) (manyT t) [] r
  cases h3 : (uBr sub (manyT t) [] r).1 with
  | none => rw [h3] at h; exact absurd h (by simp)
  | some l =>
   rw [h3] at h
   simp only [Option.map_some, Option.some.injEq] at h
   rw [← h]
   have h6 := h5 l h3
   have ho := many_ops hst
   have hm := sg_mem hst
   refine okN_mk (nodeE_op (by rw [ho, h6]; simp) ?_ ?_) in0 (h2 l (fun e he => absurd he (by simp)) hgr h3)
   ·simp only [List.mem_cons, List.not_mem_nil, or_false] at hm
    rcases hm with e | e <;> rw [e] <;> decide
   ·simp only [List.mem_cons, List.not_mem_nil, or_false] at hm
    rcases hm with e | e <;> rw [e] <;> decide
 | none =>
  cases hv : nxT vlT ts with
  | some q =>
   obtain ⟨t, r⟩ := q
   rw [uOne_val hn hv] at h
   simp only [Option.some.injEq] at h
   obtain ⟨h1, h2⟩ := nxT_len hv
   rw [← h]
   exact okN_val (hg t (by rw [h1]; simp)) h2
  | none =>
   cases hc : nxT nmT ts with
   | some q =>
    obtain ⟨t, r⟩ := q
    rw [uOne_col hn hv hc] at h
    simp only [Option.some.injEq] at h
    rw [← h]
    exact okN_col (nxT_len hc).2
   | none =>
    rw [uOne_br hn hv hc] at h
    have h2 := uBr_snd hs hf 1 [] ts
    cases h3 : (uBr sub 1 [] ts).1 with
    | none => rw [h3] at h; exact absurd h (by simp)
    | some l =>
     rw [h3] at h
     have h4 := h2 l (fun e he => absurd he (by simp)) hg h3
     cases l with
     | nil => exact absurd h (by simp)
     | cons x xs =>
      simp only [Option.bind_some, List.head?_cons, Option.some.injEq] at h
      rw [← h]
      exact h4 x (by simp)
theorem uE_snd : ∀ (f lv : Nat), Snd (uE f lv)
 | 0, lv => fun ts y _ h => by rw [uE] at h; exact absurd h (by simp)
 | f + 1, lv => by
  have ih := fun lv => uE_snd f lv
  have hf := fun lv => uE_suf f lv
  intro ts
  unfold uE
  split
  ·exact uSev_snd (ih 1) (hf 1) _ (by decide) ts
  ·exact uSev_snd (ih 2) (hf 2) _ (by decide) ts
  ·exact uAhead_snd (ih 2) (ih 3) _ (.inl rfl) _ ts
  ·exact uCmp_snd (ih 4) (hf 4) ts
  ·exact uSev_snd (ih 5) (hf 5) _ (by decide) ts
  ·exact uSev_snd (ih 6) (hf 6) _ (by decide) ts
  ·exact uAhead_snd (ih 6) (ih 7) _ (.inr rfl) _ ts
  ·exact uOne_snd (ih 0) (hf 0) ts
end Go.Proofs.YtkbhmghdonomnaaGreatDoor
namespace Go.Proofs.YtkbhmghdonomnaaGreatDoor
set_option linter.unusedVariables false
set_option linter.unusedSimpArgs false
def btT : List Tok → Nat
 | [] => 0
 | t :: ts => t.2.1.data.toList.length + btT ts
def sumT : List Ex → Nat
 | [] => 0
 | x :: xs => (txP x).length + sumT xs
theorem sumT_app : ∀ l m : List Ex, sumT (l ++ m) = sumT l + sumT m
 | [], m => by simp [sumT]
 | x :: xs, m => by rw [List.cons_append, sumT, sumT, sumT_app xs m]; omega
theorem interB_len (bt : List UInt8) : ∀ l : List Ex, (inter bt (txsP l)).length ≤ sumT l + bt.length * l.length
 | [] => by simp [txsP, inter]
 | [x] => by simp [txsP, inter, sumT]
 | x :: y :: l => by
  have ih := interB_len bt (y :: l)
  rw [txsP, txsP, inter, sumT, List.length_append, List.length_append, List.length_cons]
  rw [txsP] at ih
  rw [Nat.mul_add, Nat.mul_one]
  omega
def LenB (sub : List Tok → Option Ex × List Tok) : Prop := ∀ ts y, (sub ts).1 = some y → (txP y).length + 3 + 4 * btT (sub ts).2 ≤ 4 * btT ts
theorem bin_tx {op : List UInt8} (h : op ∈ bin14) : op ≠ [118, 97, 108] ∧ op ≠ [99, 111, 108] ∧ ¬ (op = [108, 101, 110] ∨ op = [105, 102]) ∧ op ≠ [110, 111, 116] ∧ op ≠ [110, 101, 103] ∧ 1 ≤ op.length := by
 simp only [bin14, List.mem_cons, List.not_mem_nil, or_false] at h
 rcases h with rfl | rfl | rfl | rfl | rfl | rfl | rfl | rfl | rfl | rfl | rfl | rfl | rfl <;> decide
theorem bet_len {a b : Ex} {t : Tok} (ht : t.2.1.data.toList ∈ bin14) : (txP (betT a t b)).length = (txP a).length + (txP b).length + t.2.1.data.toList.length + 4 := by
 obtain ⟨h1, h2, h3, h4, h5, _⟩ := bin_tx ht
 rw [betT, txP, if_neg h1, if_neg h2, if_neg h3, if_neg h4, if_neg h5, txsP, txsP, txsP, argsT, inter, inter]
 simp only [List.length_cons, List.length_append, List.length_nil]
 omega
theorem uLoop_lenB {sub : List Tok → Option Ex × List Tok} (hs : LenB sub) (gs : List (List UInt8)) (hgs : ∀ g ∈ gs, g ∈ bin14) : ∀ (k : Nat) (e : Ex) (ts : List Tok) (y : Ex) (M : Nat), (uLoop sub gs k e ts).1 = some y → (txP e).length + 3 + 4 * btT ts ≤ M → (txP y).length + 3 + 4 * btT (uLoop sub gs k e ts).2 ≤ M
 | 0, e, ts, y, M, h, hM => by rw [uLoop] at h ⊢; simp only [Option.some.injEq] at h; subst h; exact hM
 | k + 1, e, ts, y, M, h, hM => by
  rw [uLoop] at h ⊢
  cases hn : nxT (sgT gs) ts with
  | none => rw [hn] at h; simp only [Option.some.injEq] at h; subst h; exact hM
  | some q =>
   obtain ⟨t, r⟩ := q
   rw [hn] at h
   obtain ⟨h1, hst⟩ := nxT_len hn
   subst h1
   simp only at h ⊢
   have h2 := hs r
   cases h3 : sub r with
   | mk o r2 =>
    rw [h3] at h h2
    cases o with
    | none => exact absurd h (by simp)
    | some b =>
     have hm := hgs _ (sg_mem hst)
     have h4 := h2 b rfl
     simp only at h h4 ⊢
     rw [btT] at hM
     have h5 := (bin_tx hm).2.2.2.2.2
     exact uLoop_lenB hs gs hgs k (betT e t b) r2 y M h (by rw [bet_len hm]; omega)
theorem uSev_lenB {sub : List Tok → Option Ex × List Tok} (hs : LenB sub) (gs : List (List UInt8)) (hgs : ∀ g ∈ gs, g ∈ bin14) : LenB (uSev sub gs) := by
 intro ts y h
 have h2 := hs ts
 rw [uSev] at h ⊢
 cases h3 : sub ts with
 | mk o r =>
  rw [h3] at h h2
  cases o with
  | none => exact absurd h (by simp)
  | some e => exact uLoop_lenB hs gs hgs (r.length + 1) e r y _ h (h2 e rfl)
theorem op1_len {op : List UInt8} {pos : Int} {e : Ex} (hop : op = [110, 111, 116] ∨ op = [110, 101, 103]) : (txP (op1 op pos [e])).length = (if op = [110, 111, 116] then 3 else 1) + (txP e).length + 3 := by
 have e0 : (⟨op.toArray⟩ : ByteArray).data.toList = op := rfl
 rw [op1, txP, e0]
 rcases hop with rfl | rfl
 ·simp [txsP, aheadT]; omega
 ·simp [txsP, aheadT]; omega
theorem uAhead_lenB {sub other : List Tok → Option Ex × List Tok} (hs : LenB sub) (ho : LenB other) (op : List UInt8) (gs : List (List UInt8)) (hop : (op = [110, 111, 116] ∧ gs = [[110, 111, 116]]) ∨ (op = [110, 101, 103] ∧ gs = [[45]])) : LenB (uAhead op gs sub other) := by
 intro ts y h
 rw [uAhead] at h ⊢
 cases hn : nxT (sgT gs) ts with
 | none => rw [hn] at h; exact ho ts y h
 | some q =>
  obtain ⟨t, r⟩ := q
  rw [hn] at h
  obtain ⟨h1, hst⟩ := nxT_len hn
  subst h1
  have hm := sg_mem hst
  have h2 := hs r
  simp only at h ⊢
  cases h3 : sub r with
  | mk o r2 =>
   rw [h3] at h h2
   cases o with
   | none => exact absurd h (by simp)
   | some e =>
    simp only [Option.some.injEq] at h
    subst h
    have h4 := h2 e rfl
    simp only at h4 ⊢
    rw [op1_len (hop.imp (·.1) (·.1)), btT]
    rcases hop with ⟨rfl, rfl⟩ | ⟨rfl, rfl⟩
    ·rw [List.mem_singleton.1 hm, if_pos rfl]
     simp only [List.length_cons, List.length_nil]
     omega
    ·rw [List.mem_singleton.1 hm, if_neg (by decide)]
     simp only [List.length_cons, List.length_nil]
     omega
theorem cmp_bin : ∀ g ∈ cmpL, g ∈ bin14 := by decide
theorem uCmp_lenB {sub : List Tok → Option Ex × List Tok} (hs : LenB sub) : LenB (uCmp sub) := by
 intro ts y h
 have h2 := hs ts
 rw [uCmp] at h ⊢
 cases h3 : sub ts with
 | mk o r =>
  rw [h3] at h h2
  cases o with
  | none => exact absurd h (by simp)
  | some e =>
   have h4 := h2 e rfl
   simp only at h h4 ⊢
   cases hn : nxT (sgT cmpL) r with
   | none => rw [hn] at h; simp only [Option.some.injEq] at h; subst h; exact h4
   | some q =>
    obtain ⟨t, r2⟩ := q
    rw [hn] at h
    obtain ⟨h1, hst⟩ := nxT_len hn
    subst h1
    have h5 := hs r2
    simp only at h ⊢
    cases h7 : sub r2 with
    | mk o r3 =>
     rw [h7] at h h5
     cases o with
     | none => exact absurd h (by simp)
     | some b =>
      simp only [Option.some.injEq] at h
      subst h
      have hm := cmp_bin _ (sg_mem hst)
      have h8 := (bin_tx hm).2.2.2.2.2
      have h9 := h5 b rfl
      rw [btT] at h4
      simp only at h9 ⊢
      rw [bet_len hm]
      omega
theorem uBr_lenB {sub : List Tok → Option Ex × List Tok} (hs : LenB sub) : ∀ (k : Nat) (acc : List Ex) (ts : List Tok) (l : List Ex), (uBr sub k acc ts).1 = some l → sumT l + 7 * k + 4 + 4 * btT (uBr sub k acc ts).2 ≤ sumT acc + 4 * btT ts
 | 0, acc, ts, l, h => by
  rw [uBr] at h ⊢
  cases hn : nxT (sgT [[41]]) ts with
  | none => rw [hn] at h; exact absurd h (by simp)
  | some q =>
   obtain ⟨t, r⟩ := q
   rw [hn] at h
   obtain ⟨h1, hst⟩ := nxT_len hn
   subst h1
   have hm := List.mem_singleton.1 (sg_mem hst)
   simp only [Option.some.injEq] at h
   subst h
   simp only
   rw [btT, hm]
   simp only [List.length_cons, List.length_nil]
   omega
 | k + 1, acc, ts, l, h => by
  rw [uBr] at h ⊢
  cases hn : nxT (sgT [if acc.length = 0 then [40] else [44]]) ts with
  | none => rw [hn] at h; exact absurd h (by simp)
  | some q =>
   obtain ⟨t, r⟩ := q
   rw [hn] at h
   obtain ⟨h1, hst⟩ := nxT_len hn
   subst h1
   have hm : t.2.1.data.toList.length = 1 := by
    rw [List.mem_singleton.1 (sg_mem hst)]
    split <;> rfl
   have h2 := hs r
   simp only at h ⊢
   cases h3 : sub r with
   | mk o r2 =>
    rw [h3] at h h2
    cases o with
    | none => exact absurd h (by simp)
    | some e =>
     have h4 := h2 e rfl
     simp only at h h4 ⊢
     have h5 := uBr_lenB hs k (acc ++ [e]) r2 l h
     rw [sumT_app, sumT, sumT] at h5
     rw [btT, hm]
     omega
theorem val_len {t : Tok} (h : vlT t = true) : (txP (valE t)).length = t.2.1.data.toList.length ∧ 1 ≤ t.2.1.data.toList.length := by
 obtain ⟨T, n, l, e, hr⟩ : ∃ T n l e, readV t.2.1 = (T, n, l, e) := ⟨_, _, _, _, rfl⟩
 have he : e = 0 := by rw [vlT, hr] at h; simpa using h
 subst he
 obtain ⟨hc, hsh, _⟩ := shown_read T n l t.2.1 hr
 have e1 : txP (valE t) = t.2.1.data.toList := by
  rw [valE, hr, txP]
  have e0 : (⟨#[118, 97, 108]⟩ : ByteArray).data.toList = [118, 97, 108] := rfl
  have e2 : (⟨l.toArray⟩ : ByteArray).data.toList = l := rfl
  rw [e0, if_pos rfl, e2, prS, if_pos hc, hsh]
 refine ⟨by rw [e1], ?_⟩
 rw [← hsh, shown]
 split
 ·rw [Lib.itoa]
  split
  ·simp
  ·obtain ⟨c, q, hd, _⟩ := digits_head n.toNat n.toNat (Nat.le_refl _)
   rw [hd]
   simp
 ·split
  ·split <;> simp
  ·simp
theorem name_pos {l : List UInt8} (h : nameT l = true) : 1 ≤ l.length := by
 cases l with
 | nil => exact absurd h (by decide)
 | cons c l => simp
theorem uOne_lenB {sub : List Tok → Option Ex × List Tok} (hs : LenB sub) : LenB (uOne sub) := by
 intro ts y h
 cases hn : nxT (sgT lenIf) ts with
 | some q =>
  obtain ⟨t, r⟩ := q
  rw [uOne_call hn] at h ⊢
  obtain ⟨h1, hst⟩ := nxT_len hn
  have h2 := uBr_lenB hs (manyT t) [] r
  have h5 := uBr_len (sub := sub) (manyT t) [] r
  cases h3 : (uBr sub (manyT t) [] r).1 with
  | none => rw [h3] at h; exact absurd h (by simp)
  | some l =>
   rw [h3] at h
   simp only [Option.map_some, Option.some.injEq] at h
   have h6 := h5 l h3
   have h7 := h2 l h3
   have hm := sg_mem hst
   have hm' : t.2.1.data.toList = [108, 101, 110] ∨ t.2.1.data.toList = [105, 102] := by simpa using hm
   have hlen := interB_len [44, 32] l
   have hf : 2 ≤ t.2.1.data.toList.length := by rcases hm' with e | e <;> rw [e] <;> decide
   simp only [List.length_cons, List.length_nil] at hlen h6
   rw [← h, h1, btT, txP, if_neg (by rcases hm' with e | e <;> rw [e] <;> decide), if_neg (by rcases hm' with e | e <;> rw [e] <;> decide), if_pos hm', argsT]
   simp only [List.length_append, List.length_cons, List.length_nil]
   rw [sumT] at h7
   omega
 | none =>
  cases hv : nxT vlT ts with
  | some q =>
   obtain ⟨t, r⟩ := q
   rw [uOne_val hn hv] at h ⊢
   simp only [Option.some.injEq] at h
   obtain ⟨h1, h2⟩ := nxT_len hv
   obtain ⟨h3, h4⟩ := val_len h2
   rw [← h, h1, btT, h3]
   simp only
   omega
  | none =>
   cases hc : nxT nmT ts with
   | some q =>
    obtain ⟨t, r⟩ := q
    rw [uOne_col hn hv hc] at h ⊢
    simp only [Option.some.injEq] at h
    obtain ⟨h1, h2⟩ := nxT_len hc
    have h4 := name_pos h2
    have e1 : txP (colE1 t) = t.2.1.data.toList := by
     rw [colE1, txP]
     have e0 : (⟨#[99, 111, 108]⟩ : ByteArray).data.toList = [99, 111, 108] := rfl
     rw [e0, if_neg (by decide), if_pos rfl]
    rw [← h, h1, btT, e1]
    simp only
    omega
   | none =>
    rw [uOne_br hn hv hc] at h ⊢
    have h2 := uBr_lenB hs 1 [] ts
    have h5 := uBr_len (sub := sub) 1 [] ts
    cases h3 : (uBr sub 1 [] ts).1 with
    | none => rw [h3] at h; exact absurd h (by simp)
    | some l =>
     rw [h3] at h
     have h4 := h2 l h3
     have h6 := h5 l h3
     match l, h6 with
     | [x], _ =>
      simp only [Option.bind_some, List.head?_cons, Option.some.injEq] at h
      subst h
      rw [sumT, sumT, sumT] at h4
      simp only
      omega
theorem uE_lenB : ∀ (f lv : Nat), LenB (uE f lv)
 | 0, lv => fun ts y h => by rw [uE] at h; exact absurd h (by simp)
 | f + 1, lv => by
  have ih := fun lv => uE_lenB f lv
  intro ts
  unfold uE
  split
  ·exact uSev_lenB (ih 1) _ (by decide) ts
  ·exact uSev_lenB (ih 2) _ (by decide) ts
  ·exact uAhead_lenB (ih 2) (ih 3) _ _ (.inl ⟨rfl, rfl⟩) ts
  ·exact uCmp_lenB (ih 4) ts
  ·exact uSev_lenB (ih 5) _ (by decide) ts
  ·exact uSev_lenB (ih 6) _ (by decide) ts
  ·exact uAhead_lenB (ih 6) (ih 7) _ _ (.inr ⟨rfl, rfl⟩) ts
  ·exact uOne_lenB (ih 0) ts
theorem readE_lenB {ts : List Tok} {x : Ex} (h : (readE ts).1 = some x) : (txP x).length + 3 + 4 * btT (readE ts).2 ≤ 4 * btT ts := uE_lenB _ _ ts x h
end Go.Proofs.YtkbhmghdonomnaaGreatDoor
namespace Go.Proofs.YtkbhmghdonomnaaGreatDoor
open Go.RowKit
theorem clone_any (s : ByteArray) (w : World) (hs : s.size ≤ 281474976710656) :
  Calls Tryz.prog 60 #[.string s] w fun e w' => e = .returned (.string s) ∧ Below w.heap.size w w' := by
 go_enter Tryz.func60, Tryz.ntmps60
 go_wp2_with fail
 refine (Tryz.stringslite_Clone s _ hs).mono ?_
 rintro e w1 ⟨rfl, b1⟩
 go_wp2
 go_ret
 exact ⟨rfl, b1⟩
end Go.Proofs.YtkbhmghdonomnaaGreatDoor
namespace Go.Proofs.YtkbhmghdonomnaaGreatDoor
open Go.RowKit
set_option linter.unusedVariables false
def capOk (v : Value) : Prop := match v with
 | .slice _ n c => n ≤ c
 | _ => True
theorem own_cap {W : World} {base : Nat} {e : TypeId} {size : Nat} {v : Value} {n : Nat} {xs : List Value} (h : W.ownsRow base e size v n xs) : capOk v := by
 rcases h.2 with ⟨rfl, h0⟩ | ⟨g, cap, cur, rfl, _, _, hcap, _⟩
 ·exact Nat.le_refl _
 ·exact hcap
theorem fault_kept {w wr : World} (h : Below (w.heap.size + 1) (w.alloc (.cells #[.int .i64 0, .int .i64 0] 34)) wr) :
  wr.cell? ⟨w.heap.size, 0, none⟩ = some (.int .i64 0) ∧ wr.cell? ⟨w.heap.size, 1, none⟩ = some (.int .i64 0) ∧ wr.frozen? ⟨w.heap.size, 0, none⟩ = false ∧ wr.frozen? ⟨w.heap.size, 1, none⟩ = false ∧ w.heap.size < wr.heap.size := by
 have hz := h.size
 simp at hz
 refine ⟨?_, ?_, ?_, ?_, by omega⟩
 ·rw [h.cell (p := ⟨w.heap.size, 0, none⟩) (Nat.lt_succ_self _), World.cell?_alloc_at _ _ _ _ rfl]; rfl
 ·rw [h.cell (p := ⟨w.heap.size, 1, none⟩) (Nat.lt_succ_self _), World.cell?_alloc_at _ _ _ _ rfl]; rfl
 ·rw [h.frozen (p := ⟨w.heap.size, 0, none⟩) (Nat.lt_succ_self _)]; simp
 ·rw [h.frozen (p := ⟨w.heap.size, 1, none⟩) (Nat.lt_succ_self _)]; simp
theorem fault_below {w wr : World} (h : Below (w.heap.size + 1) (w.alloc (.cells #[.int .i64 0, .int .i64 0] 34)) wr) : Below w.heap.size w wr :=
 ((Below.refl _ _).alloc (Nat.le_refl _) _).trans (h.mono (Nat.le_succ _))
set_option maxHeartbeats 1000000 in
theorem tokens_full (s : ByteArray) (w : World) (h : 400 < s.size) :
  Calls Tryz.prog 27 #[.string s] w fun e w' => e = .returned (.tuple #[.slice none 0 0, .agg #[.int .i64 4, .int .i64 0]]) ∧ Below w.heap.size w w' := by
 have hz : (400 : Int) < (s.size : Int) := by omega
 go_enter Tryz.func27, Tryz.ntmps27
 go_wp2
 refine bodyPost_ret (v := .tuple #[.slice none 0 0, .agg #[.int .i64 4, .int .i64 0]]) (by simp [results, Tryz.results27, go_sem]) rfl ⟨rfl, ?_⟩
 exact (Below.refl _ _).alloc (Nat.le_refl _) _
set_option maxHeartbeats 8000000 in
set_option maxRecDepth 20000 in
theorem tokens_loop (s : ByteArray) (w : World) (henv : Env w) (hw : SG w) (h400 : s.size ≤ 400) :
  Calls Tryz.prog 27 #[.string s] w fun e w' => (∃ v, e = .returned (.tuple #[v, .agg #[.int .i64 (lexS (s.size + 1) 0 s.data.toList []).2.1, .int .i64 ((lexS (s.size + 1) 0 s.data.toList []).2.2 : Nat)]]) ∧ IsToks w' v (lexS (s.size + 1) 0 s.data.toList []).1 ∧ capOk v) ∧ Below w.heap.size w w' := by
 obtain ⟨R, E, P, hR⟩ : ∃ R E P, lexS (s.size + 1) 0 s.data.toList [] = (R, E, P) := ⟨_, _, _, rfl⟩
 rw [hR]
 simp only
 obtain ⟨i0, hi, hz0, hz1, hz2⟩ := info_parts info_tok
 have hz : ¬ (400 : Int) < (s.size : Int) := by omega
 have hgo : goN blB s.data.toList ≤ s.size := by have := goN_le blB s.data.toList; simpa using this
 obtain ⟨A0, hA0⟩ : ∃ A, goN blB s.data.toList = A := ⟨_, rfl⟩
 have cB := fun W => goesOn_blank s W (by unfold maxLen; omega)
 have HR0 : Hid ((R, E, P) = lexA (s.size + 1) A0 (s.data.toList.drop A0) []) := by
  show _ = _
  rw [← hR, lexS, hA0, Nat.zero_add]
 rw [hA0] at hgo cB
 clear hR hA0
 go_enter Tryz.func27, Tryz.ntmps27
 go_wp2_with (go_at_call 64; refine (cB _).mono ?_; rintro e w' ⟨rfl, rfl⟩)
 go_loopg [4, 5, 6, 7, 8] (s.size + 1) (fun gg s4 s5 _ _ _ wr => ∃ (a : Nat) (acc : List Tok), s5 = .int .i64 a ∧ a ≤ s.size ∧ s.size - a < gg ∧ wr.ownsRow (w.heap.size + 1) 80 3 s4 acc.length (tokCells acc) ∧ Aside (Below (w.heap.size + 1) (w.alloc (.cells #[.int .i64 0, .int .i64 0] 34)) wr) ∧ Hid ((R, E, P) = lexA gg a (s.data.toList.drop a) acc) ∧ acc.length ≤ a)
 case atStart => exact ⟨A0, [], rfl, hgo, by omega, World.ownsRow_nil _ _ _ _, (show Aside _ from Below.refl _ _), HR0, Nat.zero_le _⟩
 case round =>
  obtain ⟨a, acc, rfl, ha, hg, hown, BW, HR, hacc⟩ := hrel
  obtain ⟨vp, vc, rfl⟩ := lown_slice hown
  obtain ⟨g', rfl⟩ : ∃ g', gk = g' + 1 := ⟨gk - 1, by omega⟩
  clear HR0 cB
  by_cases hlt : a < s.size
  ·have hltz : (a : Int) < (s.size : Int) := by omega
   obtain ⟨X, hX, hX1, hX2⟩ := slice_off s a ha
   have hne : s.data.toList.drop a ≠ [] := by rw [drop_cons s a hlt]; simp
   have HX1 : Hid (X.data.toList = s.data.toList.drop a) := hX1
   have BW0 := fault_below BW.out
   have cT := tokenAhead_any X wr (henv.on BW0) (hw.on BW0) (by omega) (by omega)
   clear hX1 BW0
   have HNE : Hid (s.data.toList.drop a ≠ []) := hne
   clear hne
   go_wp2_with fail
   refine cT.mono ?_
   rintro e w1 ⟨⟨k, n, h, rfl, HT⟩, b1⟩
   have B1 := BW.out.trans (b1.mono (by have := BW.out.size; simpa using this))
   have o1 := lown_below hown b1
   clear b1 hown cT BW
   have ht : tokAt (s.data.toList.drop a) = (k, n, h) := by rw [← HX1.out]; exact HT.out
   by_cases h0 : h = 0
   ·subst h0
    obtain ⟨hn1, hn2⟩ := tokAt_len ht
    have hn3 : a + n ≤ s.size := by rw [List.length_drop] at hn2; simp at hn2; omega
    obtain ⟨Y, hY, hY1, hY2⟩ := slice_mid s a (a + n) (by omega) hn3
    obtain ⟨Z, hZ, hZ1, hZ2⟩ := slice_off s (a + n) hn3
    have hYz : ∀ W : World, Sem.run Tryz.prog (Instr.slice 9 (.string s) (some (.int .i64 (a : Int))) (some (.int .i64 ((a : Int) + (n : Int)))) none) W = .ok (.string Y) W := by
     have e : ((a + n : Nat) : Int) = (a : Int) + (n : Int) := by omega
     rw [e] at hY; exact hY
    have hZz : ∀ W : World, Sem.run Tryz.prog (Instr.slice 9 (.string s) (some (.int .i64 ((a : Int) + (n : Int)))) none none) W = .ok (.string Z) W := by
     have e : ((a + n : Nat) : Int) = (a : Int) + (n : Int) := by omega
     rw [e] at hZ; exact hZ
    have hYe : Y = ⟨((s.data.toList.drop a).take n).toArray⟩ := eq_of_list (by rw [hY1, show a + n - a = n from by omega])
    have HR2 : Hid ((R, E, P) = lexS g' (a + n) (s.data.toList.drop (a + n)) (acc ++ [(k, Y, a)])) := by
     show _ = _
     rw [HR.out, lexA_tok g' a _ acc HNE.out ht, ← hYe, List.drop_drop]
    have hgz : goN blB Z.data.toList ≤ s.size - (a + n) := by have := goN_le blB Z.data.toList; simp at this; omega
    obtain ⟨G, hG⟩ : ∃ G, goN blB Z.data.toList = G := ⟨_, rfl⟩
    have cB2 := fun W => goesOn_blank Z W (by unfold maxLen; omega)
    rw [hG] at cB2 hgz
    have HR3 : Hid ((R, E, P) = lexA g' (a + n + G) (s.data.toList.drop (a + n + G)) (acc ++ [(k, Y, a)])) := by
     show _ = _
     rw [HR2.out, lexS, ← hZ1, hG, hZ1, List.drop_drop]
    clear HR HR2 hY hZ hY1 hZ1 hYe hG ht HT hn2
    go_wp2_with fail
    refine (clone_any Y _ (by omega)).mono ?_
    rintro e w2 ⟨rfl, b2⟩
    have B2 := B1.trans (b2.mono (by have := B1.size; simpa using this))
    have o2 := lown_below o1 b2
    clear b2 o1 B1
    go_wp2_with (at_builtin; refine wpList_append_own _ rfl _ _ 70 rfl (w.heap.size + 1) 80 i0 (.agg #[.int .i64 0, .string ⟨#[]⟩, .int .i64 0]) 3 32 Tryz.underlying70 hi hz0 hz1 hz2 rfl (by decide) _ _ _ rfl (o2.alloc _) ⟨w2.heap.size, 0, none⟩ 1 1 [.int .i64 k, .string Y, .int .i64 (a : Int)] rfl rfl ?c1 ?c2 ?c3 ?c4 ?c5 ?_)
    case c1 =>
     intro i u hu
     rw [Go.WideShapes.add_plain]
     match i, hu with
     | 0, hu => simp at hu; subst hu; rw [World.cell?_alloc_at _ _ _ _ (by simp)]; rfl
     | 1, hu => simp at hu; subst hu; rw [World.cell?_alloc_at _ _ _ _ (by simp)]; rfl
     | 2, hu => simp at hu; subst hu; rw [World.cell?_alloc_at _ _ _ _ (by simp)]; rfl
    case c2 =>
     intro u hu
     simp at hu
     rcases hu with rfl | rfl | rfl <;> rfl
    case c3 => unfold maxLen; omega
    case c4 => omega
    case c5 => have := B2.size; simp at this ⊢; omega
    ·intro v' w3 hown' hgrow _
     have RR := rel_tok o2 B2 (by have := B2.size; simp at this; omega) hown' hgrow
     clear hown' hgrow o2
     go_wp2_with fail
     refine (cB2 _).mono ?_
     rintro e w4 ⟨rfl, hq4⟩
     obtain rfl : w3 = w4 := hq4.symm
     go_wp2
     go_roundg g'
     case measure => omega
     case rel => exact ⟨a + n + G, acc ++ [(k, Y, a)], by go_num, by omega, by omega, RR.1, RR.2, HR3, by rw [List.length_append, List.length_singleton]; omega⟩
   ·have hF : (R, E, P) = ([], h, a) := by rw [HR.out, lexA_bad g' a _ acc HNE.out ht h0]
    have he := Prod.mk.inj hF
    obtain ⟨rfl, he⟩ := he
    obtain ⟨rfl, rfl⟩ := Prod.mk.inj he
    have hz0 : (E != 0) = true := by simpa using h0
    obtain ⟨q0, q1, q2, q3, ql⟩ := fault_kept B1
    clear HR ht HT h0 hF he o1
    go_wp2
    refine bodyPost_ret (v := .tuple #[.slice none 0 0, .agg #[.int .i64 E, .int .i64 (P : Nat)]]) (by simp [results, Tryz.results27, go_sem, q0, q1]) rfl ⟨⟨_, rfl, isToks_nil _, Nat.le_refl _⟩, ?_⟩
    exact ((fault_below B1).setCell (Nat.le_refl _) _).setCell (Nat.le_refl _) _
  ·have hltz : ¬ (a : Int) < (s.size : Int) := by omega
   have hF : (R, E, P) = (acc, 0, 0) := by
    have h := HR.out
    rw [List.drop_eq_nil_of_le (by simp; omega), lexA_nil] at h
    exact h
   obtain ⟨rfl, he⟩ := Prod.mk.inj hF
   obtain ⟨rfl, rfl⟩ := Prod.mk.inj he
   obtain ⟨q0, q1, q2, q3, ql⟩ := fault_kept BW.out
   clear HR hF he
   go_wp2
   refine bodyPost_ret (v := .tuple #[.slice vp R.length vc, .agg #[.int .i64 0, .int .i64 0]]) (by simp [results, Tryz.results27, go_sem, q0, q1]) rfl ⟨⟨_, rfl, ?_, own_cap hown⟩, ?_⟩
   ·exact own_toks (lown_set (lown_set hown 0 (.int .i64 0)) 1 (.int .i64 0))
   ·exact ((fault_below BW.out).setCell (Nat.le_refl _) _).setCell (Nat.le_refl _) _
theorem tokens_any (s : ByteArray) (w : World) (henv : Env w) (hw : SG w) :
  Calls Tryz.prog 27 #[.string s] w fun e w' => (∃ v, e = .returned (.tuple #[v, .agg #[.int .i64 (lexAll s.data.toList).2.1, .int .i64 ((lexAll s.data.toList).2.2 : Nat)]]) ∧ IsToks w' v (lexAll s.data.toList).1 ∧ capOk v) ∧ Below w.heap.size w w' := by
 have hl : s.data.toList.length = s.size := by simp
 by_cases h : 400 < s.size
 ·rw [lexAll, if_pos (by omega)]
  exact (tokens_full s w h).mono fun e w' hh => ⟨⟨_, hh.1, isToks_nil _, Nat.le_refl _⟩, hh.2⟩
 ·rw [lexAll, if_neg (by omega), hl]
  exact tokens_loop s w henv hw (by omega)
theorem tokens_cap (s : ByteArray) (R : List Tok) (E : Int) (P : Nat) (w : World) (henv : Env w) (hw : SG w) (h : lexAll s.data.toList = (R, E, P)) :
  Calls Tryz.prog 27 #[.string s] w fun e w' => (∃ v, e = .returned (.tuple #[v, .agg #[.int .i64 E, .int .i64 (P : Nat)]]) ∧ IsToks w' v R ∧ capOk v) ∧ Below w.heap.size w w' := by
 have := tokens_any s w henv hw
 rw [h] at this
 exact this
end Go.Proofs.YtkbhmghdonomnaaGreatDoor
