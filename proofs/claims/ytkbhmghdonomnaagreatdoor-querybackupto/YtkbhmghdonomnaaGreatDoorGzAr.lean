/-
  QrB, QrC, QrD, in one text.
-/
import Derived.Test.YtkbhmghdonomnaaGreatDoorGzAq
import Derived.Deep.RegionLaw
namespace Go.Proofs.YtkbhmghdonomnaaGreatDoor
open Go.RowKit Go.BigFrame
set_option linter.unusedVariables false
set_option linter.unusedSimpArgs false
variable {en : Nat} {WZ : World}

theorem name1_q (t : Tok) (w : World) (henv : TEnv w) (hs : t.2.1.size ≤ maxLen) :
  Calls Tryz.prog 74 #[tokV t] w fun e w' => e = .returned (.bool (nmT t)) ∧ Below w.heap.size w w' := by
 obtain ⟨tk, tx, ta⟩ := t
 rw [tokV, nmT]
 simp only at hs ⊢
 have cC := fun W (hb : Below w.heap.size w W) => isColumn_any tx W (henv.on hb) hs
 generalize nameT tx.data.toList = R at cC
 go_enter Tryz.func74, Tryz.ntmps74
 go_wp2_with fail
 refine (cC _ (al _ _)).mono ?_
 rintro e w1 ⟨rfl, b1⟩
 go_wp2
 go_ret
 exact ⟨rfl, (al _ _).trans (b1.mono (by simp))⟩
theorem begins_q (t : Tok) (w : World) (henv : AEnv w) :
  Calls Tryz.prog 70 #[tokV t] w fun e w' => e = .returned (.bool (agB t)) ∧ Below w.heap.size w w' := by
 obtain ⟨tk, tx, ta⟩ := t
 rw [tokV, agB]
 simp only
 have cC := fun W (hb : Below w.heap.size w W) => isAgg_any tx W (henv.on hb)
 generalize isAg tx.data.toList = R at cC
 go_enter Tryz.func70, Tryz.ntmps70
 go_wp2_with fail
 refine (cC _ (al _ _)).mono ?_
 rintro e w1 ⟨rfl, rfl⟩
 go_wp2
 go_ret
 exact ⟨rfl, al _ _⟩
theorem number1_q (t : Tok) (w : World) :
  Calls Tryz.prog 113 #[tokV t] w fun e w' => e = .returned (.bool (isNum t)) ∧ Below w.heap.size w w' := by
 obtain ⟨tk, tx, ta⟩ := t
 rw [tokV]
 have hd : isNum (tk, tx, ta) = (tk == 2) := by rw [isNum]; by_cases h : tk = 2 <;> simp [h]
 obtain ⟨R, hR⟩ : ∃ R, isNum (tk, tx, ta) = R := ⟨_, rfl⟩
 rw [hR]
 rw [hR] at hd
 have hd2 := hd.symm
 clear hR hd
 go_enter Tryz.func113, Tryz.ntmps113
 go_wp2
 go_ret
 exact ⟨rfl, al _ _⟩
theorem atoi_none (n : Int) : Lib.atoiAll (⟨#[]⟩ : ByteArray).data.toList ≠ .ok n := by
 intro h
 simp [Lib.atoiAll] at h
theorem ent_name (args : Array Value) (W : World) : Sem.run Tryz.prog (callFunc 74 args) W = .ok (.enter 74 args) W := by kernel_rfl
theorem ent_numb (args : Array Value) (W : World) : Sem.run Tryz.prog (callFunc 113 args) W = .ok (.enter 113 args) W := by kernel_rfl
theorem ent_begs (args : Array Value) (W : World) : Sem.run Tryz.prog (callFunc 70 args) W = .ok (.enter 70 args) W := by kernel_rfl
theorem take_q (P : Tok → Bool) (f : FuncId) (hent : ∀ (args : Array Value) (W : World), Sem.run Tryz.prog (callFunc f args) W = .ok (.enter f args) W) (V : World) (tr : Nat) (ts : List Tok) (h : RdAt en V tr ts)
  (hf : ∀ t ∈ ts, ∀ W, Below V.heap.size V W → Calls Tryz.prog f #[tokV t] W fun e w' => e = .returned (.bool (P t)) ∧ Below W.heap.size W w') :
  Calls Tryz.prog 67 #[.pointer (some ⟨tr, 0, none⟩), .func (.func f) #[] #[]] V fun e w' => ∃ (R : Bool) (k : Int) (x : ByteArray) (a : Int) (rs : List Tok), e = .returned (.tuple #[.agg #[.int .i64 k, .string x, .int .i64 a], .bool R]) ∧ Aside (RdAt en w' tr rs) ∧ Aside (But tr V w') ∧ Hid ((R = false ∧ nxT P ts = none ∧ rs = ts ∧ x = ⟨#[]⟩) ∨ (R = true ∧ ∃ a', nxT P ts = some ((k, x, a'), rs))) := by
 cases hn : nxT P ts with
 | none =>
  exact (take_none' P f #[] hent V tr ts h (fun t ht W hb => hf t ht W hb) hn).mono fun e w' hh => ⟨false, 0, ⟨#[]⟩, 0, ts, hh.1, hh.2.1, hh.2.2, .inl ⟨rfl, rfl, rfl, rfl⟩⟩
 | some q =>
  obtain ⟨⟨k, x, a⟩, rs⟩ := q
  exact (take_some P f #[] hent V tr (k, x, a) ts rs h (fun t ht W hb => hf t ht W hb) hn).mono fun e w' hh => ⟨true, k, x, a, rs, hh.1, hh.2.1, hh.2.2, .inr ⟨rfl, a, rfl⟩⟩
set_option maxHeartbeats 4000000 in
set_option maxRecDepth 20000 in
theorem name_q (W : World) (tr rb : Nat) (ts : List Tok) (h : QH WZ en W tr rb ts) (b o : Nat) (cs : Array Value) (tt : TypeId) (hB : Blk W b cs tt) (hbr : tr < b) (ho : o < cs.size) (hro : b = rb → 1 ≤ o) :
  Calls Tryz.prog 30 #[.pointer (some ⟨rb, 0, none⟩), .pointer (some ⟨b, o, none⟩)] W fun e w' => ∃ (R : Bool) (x : ByteArray), e = .returned (.bool R) ∧ Aside (QH WZ en w' tr rb (nU ts).2) ∧ Aside (Fr tr (· = b) W w') ∧ Aside (Blk w' b (cs.setIfInBounds o (.string x)) tt) ∧ Hid ((nU ts).1 = if R = true then some x else none) := by
 have HH : Aside (QH WZ en W tr rb ts) := h
 have HB : Aside (Blk W b cs tt) := hB
 have hp0 := h.p0
 have hlt := h.lt
 have hne := h.ne
 have hrl := h.rd.lt
 have hbl := hB.lt
 have cT := take_q nmT _ ent_name W tr ts h.rd (fun t ht V hb => name1_q t V (h.env.on hb) (by have := h.fit t ht; unfold maxLen; omega))
 clear h hB
 go_enter Tryz.func30, Tryz.ntmps30
 go_wp2_with fail
 refine cT.mono ?_
 rintro e w1 ⟨R, k, x, a, rs, rfl, hr1, bt1, HR⟩
 have B1 : Blk w1 b cs tt := HB.out.but bt1.out (by omega)
 obtain ⟨v0, hv0⟩ : ∃ v0, cs[o]? = some v0 := ⟨_, Array.getElem?_eq_getElem ho⟩
 have hcell : w1.cell? ⟨b, o, none⟩ = some v0 := by rw [B1.cell]; exact hv0
 have hfz : w1.frozen? ⟨b, o, none⟩ = false := B1.frozen o
 have hbl1 : b < w1.heap.size := B1.lt
 have hne1 : b ≠ w1.heap.size := by omega
 have F1 : Fr tr (· = b) W (w1.setCell ⟨b, o, none⟩ (.string x)) := (Fr.of_but bt1.out).set o _ (by omega) (fun _ => rfl)
 have X1 := B1.set o (.string x)
 have R1 : RdAt en (w1.setCell ⟨b, o, none⟩ (.string x)) tr rs := hr1.out.onB ((Below.refl (tr + 1) w1).setCell (p := ⟨b, o, none⟩) hbr _) (by simp [World.setCell])
 have hnU : nU ts = (if R = true then some x else none, rs) := by
  rw [nU]
  rcases HR.out with ⟨rfl, h1, rfl, rfl⟩ | ⟨rfl, a', h1⟩
  ·rw [h1]; rfl
  ·rw [h1]; rfl
 have hsuf : rs <:+ ts := by have := nU_suf ts; rw [hnU] at this; exact this
 have Q1 : QH WZ en (w1.setCell ⟨b, o, none⟩ (.string x)) tr rb rs := HH.out.go F1 R1 hsuf (by
  by_cases e : b = rb
  ·subst e
   have h1 := hro rfl
   rw [World.cell?_setCell_other _ _ _ _ (by first | (simp; done) | (simp; omega)), bt1.out.cell 0 hlt (by omega)]
   exact hp0
  ·rw [F1.cell 0 hlt (by omega) (fun h => e h.symm)]; exact hp0)
 have HF : Hid ((nU ts).1 = if R = true then some x else none) := by show _ = _; rw [hnU]
 have hz : tr ≤ (w1.setCell ⟨b, o, none⟩ (.string x)).heap.size := by have := F1.size; omega
 have AQ : ∀ o', Aside (QH WZ en ((w1.setCell ⟨b, o, none⟩ (.string x)).alloc o') tr rb (nU ts).2) ∧ Aside (Fr tr (· = b) W ((w1.setCell ⟨b, o, none⟩ (.string x)).alloc o')) ∧ Aside (Blk ((w1.setCell ⟨b, o, none⟩ (.string x)).alloc o') b (cs.setIfInBounds o (.string x)) tt) := fun o' => by
  have F2 := F1.on (al _ o') hz
  refine ⟨?_, F2, X1.on (al _ _)⟩
  rw [hnU]
  exact Q1.fr (S := fun _ => False) (Fr.of_below (al _ _) hz) (R1.on (al _ _)) List.suffix_rfl (fun h => h)
 clear HH HB hr1 bt1 B1 F1 X1 R1 Q1 hnU hsuf cT hv0 HR
 go_wp2
 go_ret
 exact ⟨R, x, rfl, (AQ _).1, (AQ _).2.1, (AQ _).2.2, HF⟩
set_option maxHeartbeats 4000000 in
set_option maxRecDepth 20000 in
theorem number_q (W : World) (tr rb : Nat) (ts : List Tok) (h : QH WZ en W tr rb ts) (b o : Nat) (cs : Array Value) (tt : TypeId) (hB : Blk W b cs tt) (hbr : tr < b) (ho : o < cs.size) (hro : b = rb → 1 ≤ o) :
  Calls Tryz.prog 78 #[.pointer (some ⟨rb, 0, none⟩), .pointer (some ⟨b, o, none⟩)] W fun e w' => ∃ (R : Bool) (x : Int), e = .returned (.bool R) ∧ Aside (QH WZ en w' tr rb (iU ts).2) ∧ Aside (Fr tr (· = b) W w') ∧ Aside (Blk w' b (cs.setIfInBounds o (.int .i64 x)) tt) ∧ Hid ((iU ts).1 = if R = true then some x else none) := by
 have HH : Aside (QH WZ en W tr rb ts) := h
 have HB : Aside (Blk W b cs tt) := hB
 have hp0 := h.p0
 have hlt := h.lt
 have hne := h.ne
 have hrl := h.rd.lt
 have hbl := hB.lt
 have cT := take_q isNum _ ent_numb W tr ts h.rd (fun t ht V hb => number1_q t V)
 clear h hB
 go_enter Tryz.func78, Tryz.ntmps78
 go_wp2_with fail
 refine cT.mono ?_
 rintro e w1 ⟨R, k, tx, a, rs, rfl, hr1, bt1, HR⟩
 have hsz : tx.size ≤ 140737488355328 := by
  rcases HR.out with ⟨rfl, h1, rfl, rfl⟩ | ⟨rfl, a', h1⟩
  ·decide
  ·have := HH.out.fit _ (by rw [(nxT_len h1).1]; exact List.mem_cons_self ..)
   simp only at this
   omega
 have bA := al w1 (.cells #[.int .i64 k, .string tx, .int .i64 a] 80)
 have E1 : TEnv (w1.alloc (.cells #[.int .i64 k, .string tx, .int .i64 a] 80)) := (HH.out.env.but bt1.out HH.out.gt).on bA
 have cA : Calls Tryz.prog 114 #[.string tx] (w1.alloc (.cells #[.int .i64 k, .string tx, .int .i64 a] 80)) fun e w' => (∃ x v, e = .returned (.tuple #[.int .i64 x, v]) ∧ Hid (R = true → x = nuI tx.data.toList)) ∧ Below (w1.alloc (.cells #[.int .i64 k, .string tx, .int .i64 a] 80)).heap.size (w1.alloc (.cells #[.int .i64 k, .string tx, .int .i64 a] 80)) w' := by
  rcases HR.out with ⟨rfl, h1, rfl, rfl⟩ | ⟨rfl, a', h1⟩
  ·refine (atoi_bad ⟨#[]⟩ _ (by decide) atoi_none E1.env).mono fun e w' hh => ?_
   obtain ⟨n, t, v, he, hb⟩ := hh
   exact ⟨⟨n, _, he, (show Hid _ from fun h => absurd h (by decide))⟩, hb⟩
  ·have hn := HH.out.num _ (by rw [(nxT_len h1).1]; exact List.mem_cons_self ..) (nxT_len h1).2
   refine (atoi_ok tx _ _ hsz hn).mono fun e w' hh => ?_
   exact ⟨⟨_, _, hh.1, (show Hid _ from fun _ => rfl)⟩, hh.2⟩
 go_wp2_with fail
 refine cA.mono ?_
 rintro e w2 ⟨⟨x, v, rfl, HX⟩, b2⟩
 have bt2 : But tr W w2 := (bt1.out.on bA (by omega)).on b2 (by omega)
 have hr2 : RdAt en w2 tr rs := (hr1.out.on bA).on b2
 have B1 : Blk w2 b cs tt := HB.out.but bt2 (by omega)
 obtain ⟨v0, hv0⟩ : ∃ v0, cs[o]? = some v0 := ⟨_, Array.getElem?_eq_getElem ho⟩
 have hcell : w2.cell? ⟨b, o, none⟩ = some v0 := by rw [B1.cell]; exact hv0
 have hfz : w2.frozen? ⟨b, o, none⟩ = false := B1.frozen o
 have hbl1 : b < w2.heap.size := B1.lt
 have F1 : Fr tr (· = b) W (w2.setCell ⟨b, o, none⟩ (.int .i64 x)) := (Fr.of_but bt2).set o _ (by omega) (fun _ => rfl)
 have X1 := B1.set o (.int .i64 x)
 have R1 : RdAt en (w2.setCell ⟨b, o, none⟩ (.int .i64 x)) tr rs := hr2.onB ((Below.refl (tr + 1) w2).setCell (p := ⟨b, o, none⟩) hbr _) (by simp [World.setCell])
 have hiU : iU ts = (if R = true then some x else none, rs) := by
  rw [iU]
  rcases HR.out with ⟨rfl, h1, rfl, rfl⟩ | ⟨rfl, a', h1⟩
  ·rw [h1]; rfl
  ·rw [h1, HX.out rfl]; rfl
 have hsuf : rs <:+ ts := by have := iU_suf ts; rw [hiU] at this; exact this
 have Q1 : Aside (QH WZ en (w2.setCell ⟨b, o, none⟩ (.int .i64 x)) tr rb (iU ts).2) := by
  show QH _ _ _ _ _ _
  rw [hiU]
  exact HH.out.go F1 R1 hsuf (by
   by_cases e : b = rb
   ·subst e
    have h1 := hro rfl
    rw [World.cell?_setCell_other _ _ _ _ (by first | (simp; done) | (simp; omega)), bt2.cell 0 hlt (by omega)]
    exact hp0
   ·rw [F1.cell 0 hlt (by omega) (fun h => e h.symm)]; exact hp0)
 have HF : Hid ((iU ts).1 = if R = true then some x else none) := by show _ = _; rw [hiU]
 have F2 : Aside (Fr tr (· = b) W (w2.setCell ⟨b, o, none⟩ (.int .i64 x))) := F1
 have X2 : Aside (Blk (w2.setCell ⟨b, o, none⟩ (.int .i64 x)) b (cs.setIfInBounds o (.int .i64 x)) tt) := X1
 clear HH HB hr1 bt1 bt2 hr2 B1 F1 X1 R1 hiU hsuf cT hv0 HR HX E1 bA b2 cA
 go_wp2
 go_ret
 exact ⟨R, x, rfl, Q1, F2, X2, HF⟩
abbrev exL (x : Ex) (xp : Option Addr) (xc : Nat) : List Value := [.string x.op, .string x.nm, .int .i64 x.vt, .int .i64 x.vn, .string x.vs, .slice xp x.args.length xc, .int .i64 x.pos]
theorem ex_one' (x : Ex) (xp : Option Addr) (xc : Nat) : (exL x xp xc).toArray.all (·.oneCell') = true := all_oneCell_toArray (fun v hv => by
 simp at hv
 rcases hv with rfl | rfl | rfl | rfl | rfl | rfl | rfl <;> rfl)
theorem there_blk {w : World} {b : Nat} {cs : Array Value} {t : TypeId} (h : Blk w b cs t) (o n : Nat) (hn : o + n ≤ cs.size) : w.there b o n := fun j hj => by
 refine ⟨?_, h.frozen _⟩
 rw [h.cell, Array.getElem?_eq_getElem (by omega)]
 rfl
def putB : Array Value → Nat → List Value → Array Value
 | cs, _, [] => cs
 | cs, o, v :: r => putB (cs.setIfInBounds o v) (o + 1) r
theorem Blk.cellsB {b : Nat} {t : TypeId} : ∀ (vs : List Value) (o : Nat) (w : World) (cs : Array Value), Blk w b cs t → Blk (w.setCells b o vs) b (putB cs o vs) t
 | [], _, _, _, h => h
 | v :: r, o, _, _, h => Blk.cellsB r (o + 1) _ _ (h.set o v)
theorem below_cellsB {B b : Nat} {a : World} (hb : B ≤ b) : ∀ (vs : List Value) (o : Nat) (w : World), Below B a w → Below B a (w.setCells b o vs)
 | [], _, _, h => h
 | v :: r, o, w, h => below_cellsB hb r (o + 1) _ (h.setCell (p := ⟨b, o, none⟩) hb v)
theorem putB_head : ∀ (vs : List Value) (o : Nat) (cs : Array Value), 1 ≤ o → (putB cs o vs)[0]? = cs[0]?
 | [], _, _, _ => rfl
 | v :: r, o, cs, h => by
  rw [putB, putB_head r (o + 1) _ (by omega), Array.getElem?_setIfInBounds, if_neg (by omega)]
theorem setCells_size {b : Nat} : ∀ (vs : List Value) (o : Nat) (w : World), (w.setCells b o vs).heap.size = w.heap.size
 | [], _, _ => rfl
 | v :: r, o, w => by
  show ((w.setCell ⟨b, o, none⟩ v).setCells b (o + 1) r).heap.size = _
  rw [setCells_size r (o + 1) _]; simp [World.setCell]
theorem exin_cells {lo : Nat → Prop} {b : Nat} (hb : ∀ k, lo k → k ≠ b) {x : Ex} {v : Value} : ∀ (vs : List Value) (o : Nat) (w : World), ExIn w lo v x → ExIn (w.setCells b o vs) lo v x
 | [], _, _, h => h
 | u :: r, o, w, h => exin_cells hb r (o + 1) _ (ExIn.keep (by simp [World.setCell]) (fun k p h1 h2 => by have := hb k h1; simp [World.cell?_setCell_other]) x v h)
set_option maxHeartbeats 4000000 in
set_option maxRecDepth 20000 in
theorem expression_q (W : World) (tr rb : Nat) (ts : List Tok) (h : QH WZ en W tr rb ts) (b o : Nat) (cs : Array Value) (tt : TypeId) (hB : Blk W b cs tt) (hbr : tr < b) (ho : o + 7 ≤ cs.size) (hro : b = rb → 1 ≤ o) :
  Calls Tryz.prog 76 #[.pointer (some ⟨rb, 0, none⟩), .pointer (some ⟨b, o, none⟩)] W fun e w' => ∃ (R : Bool) (x : Ex) (xp : Option Addr) (xc : Nat), e = .returned (.bool R) ∧ Aside (QH WZ en w' tr rb (readE ts).2) ∧ Aside (Fr tr (· = b) W w') ∧ Aside (Blk w' b (putB cs o (exL x xp xc)) tt) ∧ Aside (ExIn w' (W.heap.size ≤ ·) (exV x xp xc) x) ∧ Hid ((readE ts).1 = if R = true then some x else none) := by
 have HH : Aside (QH WZ en W tr rb ts) := h
 have HB : Aside (Blk W b cs tt) := hB
 have hp0 := h.p0
 have hlt := h.lt
 have hne := h.ne
 have hbl := hB.lt
 have cE := expression_reads ts h.fit W tr h.rd h.env h.gt
 clear h hB
 go_enter Tryz.func76, Tryz.ntmps76
 go_wp2_with fail
 refine cE.mono ?_
 rintro e w1 ⟨v, R, x, rfl, hx, hr1, bt1, HR⟩
 obtain ⟨xp, xc, rfl, -⟩ := hx.out.whole
 have B1 : Blk w1 b cs tt := HB.out.but bt1.out (by omega)
 have hst : ∀ {ops : Array Oper} {rest : List Oper} {op : Oper} {a : Act} {Q : Exit → Act → World → Prop} (hgd : op.guard = none) (p y : Operand) (ho : op.op = .store 26 p y) (hx : a.eval p = .pointer (some ⟨b, o, none⟩)) (hy : a.eval y = .agg (exL x xp xc).toArray), wpList Tryz.prog ops Q rest (a.put op.dst undef) (w1.setCells b o (exL x xp xc)) → wpList Tryz.prog ops Q (op :: rest) a w1 := fun hgd p y hop hx hy hh => wpList_store_mid hgd 26 p y hop b o (exL x xp xc).toArray hx hy (there_blk B1 o 7 ho) size_exU (ex_one' x xp xc) hh
 have hsz := setCells_size (b := b) (exL x xp xc) o w1
 have F1 : Aside (Fr tr (· = b) W (w1.setCells b o (exL x xp xc))) := Fr.cells (tr := tr) (S := (· = b)) (b := b) (Nat.le_of_lt hbr) (fun _ => rfl) (exL x xp xc) o w1 (Fr.of_but bt1.out)
 have X1 : Aside (Blk (w1.setCells b o (exL x xp xc)) b (putB cs o (exL x xp xc)) tt) := Blk.cellsB _ o w1 cs B1
 have R1 : RdAt en (w1.setCells b o (exL x xp xc)) tr (readE ts).2 := hr1.out.onB (below_cellsB hbr _ o w1 (Below.refl _ _)) (by omega)
 have E1 : Aside (ExIn (w1.setCells b o (exL x xp xc)) (W.heap.size ≤ ·) (exV x xp xc) x) := exin_cells (fun k hk => by omega) _ o w1 hx.out
 have Q1 : Aside (QH WZ en (w1.setCells b o (exL x xp xc)) tr rb (readE ts).2) := by
  refine HH.out.go F1.out R1 (readE_suf ts) ?_
  by_cases e : b = rb
  ·subst e
   have h1 := hro rfl
   rw [X1.out.cell, putB_head _ _ _ h1, ← HB.out.cell 0]; exact hp0
  ·rw [F1.out.cell 0 hlt (by omega) (fun h => e h.symm)]; exact hp0
 have HF : Hid ((readE ts).1 = if R = true then some x else none) := HR
 have hbl1 : b < w1.heap.size := B1.lt
 clear HH HB hr1 bt1 B1 R1 cE hsz HR hx
 generalize w1.setCells b o (exL x xp xc) = w2 at *
 go_wp2_with (refine hst rfl _ _ rfl rfl rfl ?_)
 go_ret
 exact ⟨R, x, xp, xc, rfl, Q1, F1, X1, E1, HF⟩
end Go.Proofs.YtkbhmghdonomnaaGreatDoor
namespace Go.Proofs.YtkbhmghdonomnaaGreatDoor
open Go.RowKit Go.BigFrame
set_option linter.unusedVariables false
set_option linter.unusedSimpArgs false
variable {en : Nat} {WZ : World}

theorem exin_fr {tr : Nat} {S lo : Nat → Prop} {w w' : World} {v : Value} {x : Ex} (h : ExIn w lo v x) (hf : Fr tr S w w') (hs : ∀ b, lo b → b < w.heap.size → b ≠ tr ∧ ¬ S b) : ExIn w' lo v x := by
 have h3 := ExIn.low (lo' := fun b => lo b ∧ b < w.heap.size) (fun b hb hb2 => ⟨hb2, hb⟩) _ _ h
 have h4 := ExIn.keep (w' := w') hf.size (fun b o hb _ => by
  obtain ⟨h1, h2⟩ := hs b hb.1 hb.2
  simp only [World.cell?, hf.kept b hb.2 h1 h2]) _ _ h3
 exact ExIn.low (fun b _ hb => hb.1) _ _ h4
theorem set_same {cs : Array Value} {o : Nat} {v : Value} (h : cs[o]? = some v) : cs.setIfInBounds o v = cs := by
 obtain ⟨ho, hv⟩ := Array.getElem?_eq_some_iff.1 h
 apply Array.ext
 ·simp
 ·intro i h1 h2
  rw [Array.getElem_setIfInBounds (by simpa using h1)]
  split
  ·rename_i e; subst e; exact hv.symm
  ·rfl
theorem thU_some {α β : Type} {x : α} {rs : List Tok} {f : α → List Tok → Option β × List Tok} {a : Option α × List Tok} (h : a = (some x, rs)) : thU a f = f x rs := by rw [h]; rfl
theorem thU_none {α β : Type} {rs : List Tok} {f : α → List Tok → Option β × List Tok} {a : Option α × List Tok} (h : a = (none, rs)) : thU a f = (none, rs) := by rw [h]; rfl
theorem jU_form (g : List UInt8) (ts : List Tok) : ∃ (R : Bool) (rs : List Tok), jU g ts = (if R = true then some () else none, rs) := by
 rw [jU]
 cases nxT (sgT [g]) ts with
 | none => exact ⟨false, ts, rfl⟩
 | some p => exact ⟨true, p.2, rfl⟩
theorem Fr.weak {tr : Nat} {S : Nat → Prop} {w w1 : World} (h : Fr tr (fun _ => False) w w1) : Fr tr S w w1 := h.mono (fun _ _ h => h.elim)
set_option maxHeartbeats 4000000 in
set_option maxRecDepth 20000 in
theorem as_q (W : World) (tr rb : Nat) (ts : List Tok) (h : QH WZ en W tr rb ts) (b o : Nat) (cs : Array Value) (tt : TypeId) (hB : Blk W b cs tt) (hbr : tr < b) (x0 : ByteArray) (ho : cs[o]? = some (.string x0)) (hro : b = rb → 1 ≤ o) :
  Calls Tryz.prog 110 #[.pointer (some ⟨rb, 0, none⟩), .pointer (some ⟨b, o, none⟩)] W fun e w' => ∃ (R : Bool) (x : ByteArray), e = .returned (.bool R) ∧ Aside (QH WZ en w' tr rb (asU ts).2) ∧ Aside (Fr tr (· = b) W w') ∧ Aside (Blk w' b (cs.setIfInBounds o (.string x)) tt) ∧ Hid ((asU ts).1 = if R = true then some x else none) := by
 obtain ⟨R1, rs1, hj⟩ := jU_form wAs ts
 have cJ := just_q wAs W tr rb ts h R1 rs1 hj
 have HB : Aside (Blk W b cs tt) := hB
 have hosz : o < cs.size := (Array.getElem?_eq_some_iff.1 ho).1
 have cN := fun W1 (h1 : QH WZ en W1 tr rb rs1) (B1 : Blk W1 b cs tt) => name_q W1 tr rb rs1 h1 b o cs tt B1 hbr hosz hro
 have hsame := set_same ho
 clear h hB
 cases R1
 ·have HA : Hid (asU ts = (none, rs1)) := by show _ = _; rw [asU, thU_none hj]
  go_enter Tryz.func110, Tryz.ntmps110
  go_wp2_with fail
  refine cJ.mono ?_
  rintro e w1 ⟨rfl, Q1, F1⟩
  clear cN cJ
  go_wp2
  go_ret
  refine ⟨false, x0, rfl, ?_, F1.out.weak, ?_, ?_⟩
  ·rw [HA.out]; exact Q1
  ·rw [hsame]; exact HB.out.fr F1.out (by omega) (fun h => h)
  ·show _ = _; rw [HA.out]; rfl
 ·have HA : Hid (asU ts = nU rs1) := by show _ = _; rw [asU, thU_some hj]
  go_enter Tryz.func110, Tryz.ntmps110
  go_wp2_with fail
  refine cJ.mono ?_
  rintro e w1 ⟨rfl, Q1, F1⟩
  have c2 := cN w1 Q1.out (HB.out.fr F1.out (by omega) (fun h => h))
  clear cN cJ
  go_wp2_with fail
  refine c2.mono ?_
  rintro e w2 ⟨R, x, rfl, Q2, F2, B2, HR⟩
  clear c2
  go_wp2
  go_ret
  refine ⟨R, x, rfl, ?_, F1.out.weak.trans (F2.out.mono (fun _ _ h => h)), B2, ?_⟩
  ·rw [HA.out]; exact Q2
  ·show _ = _; rw [HA.out]; exact HR.out
set_option maxHeartbeats 4000000 in
set_option maxRecDepth 20000 in
theorem bracketed_q (W : World) (tr rb : Nat) (ts : List Tok) (h : QH WZ en W tr rb ts) (b o : Nat) (cs : Array Value) (tt : TypeId) (hB : Blk W b cs tt) (hbr : tr < b) (ho : o + 7 ≤ cs.size) (h0 : putB cs o (exL ex0 none 0) = cs) (hro : b = rb → 1 ≤ o) :
  Calls Tryz.prog 109 #[.pointer (some ⟨rb, 0, none⟩), .pointer (some ⟨b, o, none⟩)] W fun e w' => ∃ (R : Bool) (x : Ex) (xp : Option Addr) (xc : Nat), e = .returned (.bool R) ∧ Aside (QH WZ en w' tr rb (brU ts).2) ∧ Aside (Fr tr (· = b) W w') ∧ Aside (Blk w' b (putB cs o (exL x xp xc)) tt) ∧ Aside (ExIn w' (W.heap.size ≤ ·) (exV x xp xc) x) ∧ Hid ((brU ts).1 = if R = true then some x else none) := by
 obtain ⟨R1, rs1, hj⟩ := jU_form [40] ts
 have cJ := just_q [40] W tr rb ts h R1 rs1 hj
 have HB : Aside (Blk W b cs tt) := hB
 have hbl := hB.lt
 have htr := h.rd.lt
 have cN := fun W1 (h1 : QH WZ en W1 tr rb rs1) (B1 : Blk W1 b cs tt) => expression_q W1 tr rb rs1 h1 b o cs tt B1 hbr ho hro
 have cJ2 := fun W2 rs2 (h2 : QH WZ en W2 tr rb rs2) R2 rs3 hj2 => just_q [41] W2 tr rb rs2 h2 R2 rs3 hj2
 clear h hB
 cases R1
 ·have HA : Hid (brU ts = (none, rs1)) := by show _ = _; rw [brU, thU_none hj]
  go_enter Tryz.func109, Tryz.ntmps109
  go_wp2_with fail
  refine cJ.mono ?_
  rintro e w1 ⟨rfl, Q1, F1⟩
  clear cN cJ cJ2
  go_wp2
  go_ret
  refine ⟨false, ex0, none, 0, rfl, ?_, F1.out.weak, ?_, ex_zero _ _, ?_⟩
  ·rw [HA.out]; exact Q1
  ·rw [h0]; exact HB.out.fr F1.out (by omega) (fun h => h)
  ·show _ = _; rw [HA.out]; rfl
 ·go_enter Tryz.func109, Tryz.ntmps109
  go_wp2_with fail
  refine cJ.mono ?_
  rintro e w1 ⟨rfl, Q1, F1⟩
  have c2 := cN w1 Q1.out (HB.out.fr F1.out (by omega) (fun h => h))
  clear cN cJ
  go_wp2_with fail
  refine c2.mono ?_
  rintro e w2 ⟨R, x, xp, xc, rfl, Q2, F2, B2, E2, HR⟩
  clear c2
  have hs1 := F1.out.size
  have F02 : Fr tr (· = b) W w2 := F1.out.weak.trans F2.out
  have E02 : ExIn w2 (W.heap.size ≤ ·) (exV x xp xc) x := ExIn.low (fun k _ (hk : w1.heap.size ≤ k) => (show W.heap.size ≤ k by omega)) _ _ E2.out
  cases R
  ·have HA : Hid (brU ts = (none, (readE rs1).2)) := by
    show _ = _
    rw [brU, thU_some hj, thU_none (rs := (readE rs1).2) (Prod.ext HR.out rfl)]
   clear cJ2
   go_wp2
   go_ret
   refine ⟨false, x, xp, xc, rfl, ?_, F02, B2, E02, ?_⟩
   ·rw [HA.out]; exact Q2
   ·show _ = _; rw [HA.out]; rfl
  ·obtain ⟨R3, rs3, hj3⟩ := jU_form [41] (readE rs1).2
   have c3 := cJ2 w2 _ Q2.out R3 rs3 hj3
   have HA : Hid (brU ts = (if R3 = true then some x else none, rs3)) := by
    show _ = _
    rw [brU, thU_some hj, thU_some (x := x) (rs := (readE rs1).2) (Prod.ext HR.out rfl)]
    cases R3
    ·rw [thU_none hj3]; rfl
    ·rw [thU_some hj3]; rfl
   clear cJ2
   go_wp2_with fail
   refine c3.mono ?_
   rintro e w3 ⟨rfl, Q3, F3⟩
   clear c3
   have hs2 := F02.size
   have E3 : ExIn w3 (W.heap.size ≤ ·) (exV x xp xc) x := exin_fr E02 F3.out (fun k (hk : W.heap.size ≤ k) _ => ⟨by omega, fun h => h⟩)
   go_wp2
   go_ret
   refine ⟨R3, x, xp, xc, rfl, ?_, F02.trans F3.out.weak, B2.out.fr F3.out (by omega) (fun h => h), E3, ?_⟩
   ·rw [HA.out]; exact Q3
   ·show _ = _; rw [HA.out]
end Go.Proofs.YtkbhmghdonomnaaGreatDoor
namespace Go.Proofs.YtkbhmghdonomnaaGreatDoor
open Go.RowKit Go.BigFrame
set_option linter.unusedVariables false
set_option linter.unusedSimpArgs false
variable {en : Nat} {WZ : World}

theorem step_append_q {P : Program} {ops : Array Oper} {o : Oper} {a : Act} {w : World} {K : Act → World → Prop} {Q : Exit → Act → World → Prop} {E : Prop}
  (hg : o.guard = none) (s x : Operand) (t : TypeId) (hop : o.op = Op.call { callee := Callee.builtin Builtin.append, args := #[s, x], argTypes := #[t, t] })
  (base : Nat) (e : TypeId) (i : TypeInfo) (z : Value) (size bytes : Nat) (h1 : P.underlying t = some (.slice e)) (h2 : P.info? e = some i) (h3 : i.zero = some z) (h4 : i.size = size) (h5 : i.bytes = bytes) (h6 : z.cells.size = size) (h7 : 0 < size)
  (v : Value) (n : Nat) (xs : List Value) (hs : a.eval s = v) (hown : w.ownsRow base e size v n xs)
  (ad : Addr) (m c : Nat) (news : List Value) (hx : a.eval x = .slice (some ad) m c) (hn : news.length = m * size) (hc : ∀ j u, news[j]? = some u → w.cell? (ad.add j) = some u) (h1c : ∀ u ∈ news, u.oneCell' = true) (hm : 0 < m)
  (b1 : n + m ≤ maxLen) (b2 : (n + m) * bytes ≤ 140737488355328) (hb : base ≤ w.heap.size)
  (hK : ∀ q' c' w', w'.ownsRow base e size (.slice q' (n + m) c') (n + m) (xs ++ news) → w.grownBy w' v.ownBlock → ((Value.slice q' (n + m) c').ownBlock = v.ownBlock ∨ (Value.slice q' (n + m) c').ownBlock = some w.heap.size) → K (a.put o.dst (.slice q' (n + m) c')) w') :
  if Region.wanted o (yielded ops a.tmps) = true then Oper.wp P o a w K Q else E := by
 have hw : Region.wanted o (yielded ops a.tmps) = true := by simp [Region.wanted, hg]
 rw [if_pos hw]
 obtain ⟨v', w', hrun, r1, r2, _⟩ := run_append_own (P := P) w base t o.type e i z size bytes h1 h2 h3 h4 h5 h6 h7 v n xs hown ad m c news hn hc h1c b1 b2 hb
 have h5' : v'.ownBlock = v.ownBlock ∨ v'.ownBlock = some w.heap.size := by
  subst h4
  subst h5
  exact append_block w base t o.type e i z h1 h2 h3 v n xs hown ad m c news hn hc h1c hm b1 b2 hrun
 obtain ⟨q', c', rfl⟩ := lown_slice r1
 unfold Oper.wp
 simp [execOp, hop, resolve, invoke, builtin, hs, hx, hrun, Result.andThen]
 exact hK q' c' w' r1 r2 h5'
theorem own_ne {w : World} {B rb : Nat} {e : TypeId} {sz n : Nat} {v : Value} {xs : List Value} (h : w.ownsRow B e sz v n xs) (hr : rb < B) : some rb ≠ v.ownBlock := fun e => by have := (h.lt rb e.symm).1; omega
theorem Fr.grown {tr : Nat} {S : Nat → Prop} {w w1 w2 : World} {row : Option Nat} (h : Fr tr S w w1) (hg : w1.grownBy w2 row) (hr : ∀ k, row = some k → tr ≤ k ∧ (k < w.heap.size → S k)) (ht : tr ≤ w1.heap.size) : Fr tr S w w2 :=
 ⟨h.below.grown hg ht (fun j hj => (hr j hj).1), fun k hk hkr hn => by
  rw [hg.block k (by have := h.size; omega) (fun e => hn ((hr k e.symm).2 hk))]
  exact h.kept k hk hkr hn⟩
theorem news_str {V : World} {g : Nat} {x : ByteArray} (h : V.cell? ⟨g, 0, none⟩ = some (.string x)) : ∀ j u, ([.string x] : List Value)[j]? = some u → V.cell? ((⟨g, 0, none⟩ : Addr).add j) = some u := fun j u hu => by
 have hj : j = 0 := by have := (List.getElem?_eq_some_iff.1 hu).1; simp at this; omega
 subst hj
 have e : Value.string x = u := by simpa using hu
 subst e
 rw [Go.WideShapes.add_plain]; exact h
theorem set_set (cs : Array Value) (o : Nat) (u v : Value) : (cs.setIfInBounds o u).setIfInBounds o v = cs.setIfInBounds o v := by
 apply Array.ext_getElem?
 intro i
 simp only [Array.getElem?_setIfInBounds, Array.size_setIfInBounds]
 by_cases h : o = i
 ·simp [h]
 ·simp [h]
structure GrS (WZ : World) (en : Nat) (W0 W : World) (tr rb : Nat) (BC : Array Value) (ts : List Tok) (gs : List ByteArray) : Prop where
 qh : QH WZ en W tr rb ts
 box : ∃ gq gc, Blk W rb (BC.setIfInBounds 11 (.slice gq gs.length gc)) 55 ∧ W.ownsRow W0.heap.size 9 1 (.slice gq gs.length gc) gs.length (gs.map .string)
 fr : Fr tr (fun k => k = rb) W0 W
 sz : 11 < BC.size
 lt : rb < W0.heap.size
theorem GrS.go {W0 W w' : World} {tr rb : Nat} {BC : Array Value} {ts ts' : List Tok} {gs : List ByteArray} (h : GrS WZ en W0 W tr rb BC ts gs) (hf : Fr tr (fun _ => False) W w') (hq : QH WZ en w' tr rb ts') : GrS WZ en W0 w' tr rb BC ts' gs := by
 obtain ⟨gq, gc, h1, h2⟩ := h.box
 have hne := h.qh.ne
 have hlt := h.lt
 refine ⟨hq, ⟨gq, gc, h1.fr hf (by omega) (fun h => h), ?_⟩, h.fr.trans hf.weak, h.sz, h.lt⟩
 exact own_keep h2 (B' := rb) ⟨hf.size, fun b h1 h2 => hf.kept b h2 (by omega) (fun h => h)⟩ (by omega)
theorem gr_end {W0 W w1 V w9 : World} {tr rb z : Nat} {BC : Array Value} {ts ts' : List Tok} {gs : List ByteArray} {gq q9 : Option Addr} {gc c9 N : Nat} {x : ByteArray} (hN : gs.length = N) (hfr : Fr tr (fun k => k = rb) W0 W) (hsz : 11 < BC.size) (hlt : rb < W0.heap.size) (hne : tr < rb)
  (hz : W.heap.size ≤ z) (q1 : QH WZ en w1 tr rb ts') (f1 : Fr tr (· = z) W w1) (bx : Blk W rb (BC.setIfInBounds 11 (.slice gq N gc)) 55) (ow : w1.ownsRow W0.heap.size 9 1 (.slice gq N gc) N (gs.map .string))
  (hb : Below w1.heap.size w1 V) (hown' : w9.ownsRow W0.heap.size 9 1 (.slice q9 (N + 1) c9) (N + 1) (gs.map .string ++ [.string x])) (hgrow : V.grownBy w9 (Value.slice gq N gc).ownBlock) :
  (w9.cell? ⟨rb, 11, none⟩ = some (.slice gq N gc) ∧ w9.frozen? ⟨rb, 11, none⟩ = false ∧ rb < w9.heap.size) ∧ Aside (GrS WZ en W0 (w9.setCell ⟨rb, 11, none⟩ (.slice q9 (N + 1) c9)) tr rb BC ts' (gs ++ [x])) := by
 subst hN
 have s0 := hfr.size
 have s1 := f1.size
 have b9 : Blk w9 rb (BC.setIfInBounds 11 (.slice gq gs.length gc)) 55 := ((bx.fr f1 (by omega) (by omega)).on hb).grown hgrow (own_ne ow hlt)
 have F1 : Fr tr (fun k => k = rb) W0 w1 := hfr.trans (f1.mono (fun k hk e => by omega))
 have F9 : Fr tr (fun k => k = rb) W0 w9 := (F1.on hb (by omega)).grown hgrow (fun k hk => by
  have := (ow.lt k hk).1
  exact ⟨by omega, fun h => by omega⟩) (by have := hb.size; omega)
 have B10 := b9.set 11 (.slice q9 (gs.length + 1) c9)
 have F10 := F9.set 11 (.slice q9 (gs.length + 1) c9) (b := rb) (by omega) (fun _ => rfl)
 have hr9 : RdAt en w9 tr ts' := (q1.rd.on hb).onB ((Below.refl (tr + 1) V).grown hgrow (by have := hb.size; have := q1.rd.lt; omega) (fun k hk => by have := (ow.lt k hk).1; omega)) hgrow.size
 have hr10 : RdAt en (w9.setCell ⟨rb, 11, none⟩ (.slice q9 (gs.length + 1) c9)) tr ts' := hr9.onB ((Below.refl (tr + 1) w9).setCell (p := ⟨rb, 11, none⟩) hne _) (by simp [World.setCell])
 have hbc : (BC.setIfInBounds 11 (.slice gq gs.length gc)).setIfInBounds 11 (.slice q9 (gs.length + 1) c9) = BC.setIfInBounds 11 (.slice q9 (gs.length + 1) c9) := set_set _ _ _ _
 refine ⟨⟨by rw [b9.cell, Array.getElem?_setIfInBounds, if_pos rfl, if_pos hsz], b9.frozen 11, b9.lt⟩, ?_⟩
 have Q10 : QH WZ en (w9.setCell ⟨rb, 11, none⟩ (.slice q9 (gs.length + 1) c9)) tr rb ts' := by
  have Fq : Fr tr (fun k => k = rb ∨ W0.heap.size ≤ k) w1 (w9.setCell ⟨rb, 11, none⟩ (.slice q9 (gs.length + 1) c9)) := ((Fr.of_below hb (by omega)).grown hgrow (fun k hk => by
   have := (ow.lt k hk).1
   exact ⟨by omega, fun h => .inr this⟩) (by have := hb.size; omega)).set 11 _ (by omega) (fun _ => .inl rfl)
  refine q1.go Fq hr10 List.suffix_rfl ?_
  rw [World.cell?_setCell_other _ _ _ _ (by simp), b9.cell, Array.getElem?_setIfInBounds, if_neg (by decide)]
  have h0 := (bx.fr f1 (by omega) (by omega)).cell 0
  rw [q1.p0, Array.getElem?_setIfInBounds, if_neg (by decide)] at h0
  exact h0.symm
 refine ⟨Q10, ⟨q9, c9, ?_, ?_⟩, F10, hsz, hlt⟩
 ·rw [List.length_append, List.length_singleton, ← hbc]; exact B10
 ·rw [List.length_append, List.length_singleton, List.map_append]
  exact own_keep hown' (KeepB.set w9 11 _ (Nat.lt_succ_self rb)) (by omega)
set_option maxHeartbeats 4000000 in
set_option maxRecDepth 20000 in
theorem groupCol_q (W0 W : World) (tr rb : Nat) (BC : Array Value) (ts : List Tok) (gs : List ByteArray) (h : GrS WZ en W0 W tr rb BC ts gs) (hl : gs.length ≤ 1000) :
  Calls Tryz.prog 77 #[.pointer (some ⟨rb, 0, none⟩)] W fun e w' => ∃ (R : Bool) (x : ByteArray), e = .returned (.bool R) ∧ Aside (GrS WZ en W0 w' tr rb BC (nU ts).2 (gs ++ [x])) ∧ Hid ((nU ts).1 = if R = true then some x else none) := by
 obtain ⟨qh, ⟨gq, gc, bx, ow⟩, hfr, hsz, hlt⟩ := h
 have hne := qh.ne
 have htl := qh.rd.lt
 have hW := hfr.size
 have bA := al W (.cells #[.string ⟨#[]⟩] 9)
 have Q0 : QH WZ en (W.alloc (.cells #[.string ⟨#[]⟩] 9)) tr rb ts := qh.fr (S := fun _ => False) (Fr.of_below bA (by omega)) (qh.rd.on bA) List.suffix_rfl (fun h => h)
 have cN := name_q _ tr rb ts Q0 W.heap.size 0 #[.string ⟨#[]⟩] 9 (blk_alloc W _ _) (by omega) (by simp) (fun e => by omega)
 obtain ⟨N, hN⟩ : ∃ N, gs.length = N := ⟨_, rfl⟩
 have HN : Hid (gs.length = N) := hN
 rw [hN] at bx ow hl
 obtain ⟨i0, hi, hz0, hz1, hzz⟩ := info_parts info_strA
 have HBX : Aside (Blk W rb (BC.setIfInBounds 11 (.slice gq N gc)) 55) := bx
 have HOW : Aside (W.ownsRow W0.heap.size 9 1 (.slice gq N gc) N (gs.map .string)) := ow
 have HQH : Aside (QH WZ en W tr rb ts) := qh
 have HFR : Aside (Fr tr (fun k => k = rb) W0 W) := hfr
 clear bx ow qh hfr Q0 hN
 go_enter Tryz.func77, Tryz.ntmps77
 go_wp2_with fail
 refine cN.mono ?_
 rintro e w1 ⟨R, x, rfl, Q1, F1, B1, HR⟩
 have FW : Fr tr (· = W.heap.size) W w1 := (Fr.of_below bA (by omega)).trans F1.out
 have s1 := FW.size
 have OW1 : Aside (w1.ownsRow W0.heap.size 9 1 (.slice gq N gc) N (gs.map .string)) := own_keep HOW.out (B' := rb) ⟨s1, fun b h1 h2 => FW.kept b h2 (by omega) (by omega)⟩ (by omega)
 have hc0 : w1.cell? ⟨W.heap.size, 0, none⟩ = some (.string x) := by rw [B1.out.cell]; rfl
 have hzl : W.heap.size < w1.heap.size := B1.out.lt
 have bxw := HBX.out.fr FW (by omega) (by omega)
 have hc11 : w1.cell? ⟨rb, 11, none⟩ = some (.slice gq N gc) := by rw [bxw.cell, Array.getElem?_setIfInBounds, if_pos rfl, if_pos hsz]
 have hrl : rb < w1.heap.size := bxw.lt
 have Own : ∀ V, Below w1.heap.size w1 V → V.ownsRow W0.heap.size 9 1 (.slice gq N gc) N (gs.map .string) := fun V hb => lown_below OW1.out hb
 have End := fun (V w9 : World) (q9 : Option Addr) (c9 : Nat) => gr_end (en := en) (W0 := W0) (W := W) (w1 := w1) (V := V) (w9 := w9) (tr := tr) (rb := rb) (z := W.heap.size) (BC := BC) (ts := ts) (ts' := (nU ts).2) (gs := gs) (gq := gq) (q9 := q9) (gc := gc) (c9 := c9) (N := N) (x := x) HN.out HFR.out hsz hlt hne (Nat.le_refl _) Q1.out FW HBX.out OW1.out
 have hW0 : W0.heap.size ≤ w1.heap.size := by omega
 clear cN HBX HOW HQH HFR Q1 F1 B1 FW OW1 bxw
 generalize gs.map Value.string = GS at *
 go_wp2
 go_region_law (refine step_append_q rfl (.tmp 12) (.tmp 14) 27 rfl W0.heap.size 9 i0 _ 1 16 Tryz.underlying27 hi hz0 hz1 hzz rfl (by decide) (.slice gq N gc) N GS (by simp [Act.eval]) (Own _ (by repeat (first | exact Below.refl _ _ | refine Below.drew ?_ | refine below_alloc ?_ (Nat.le_refl _) _))) ⟨w1.heap.size, 0, none⟩ 1 1 [.string x] (by simp [Act.eval]) rfl (news_str (by simp)) (by intro u hu; simp at hu; subst hu; rfl) (by decide) (by simp [maxLen]; omega) (by omega) (by simp; omega) ?_; intro q9 c9 w9 hown' hgrow hfr'; obtain ⟨⟨k1, k2, k3⟩, KS⟩ := End _ w9 q9 c9 (by repeat (first | exact Below.refl _ _ | refine Below.drew ?_ | refine below_alloc ?_ (Nat.le_refl _) _)) hown' hgrow)
 all_goals
  go_wp2
  go_ret
  exact ⟨R, x, rfl, KS, HR⟩
end Go.Proofs.YtkbhmghdonomnaaGreatDoor
