/-
  QrH, QrI, QrJ, QrK, in one text.
-/
import Derived.Test.YtkbhmghdonomnaaGreatDoorGzAr
import Derived.Test.YtkbhmghdonomnaaGreatDoorZQrG
namespace Go.Proofs.YtkbhmghdonomnaaGreatDoor
open Go.RowKit Go.BigFrame
set_option linter.unusedVariables false
set_option linter.unusedSimpArgs false
variable {en : Nat} {WZ : World}

theorem sevU_more {α : Type} {part : List Tok → Option α × List Tok} {k : Nat} {acc : List α} {ts rs rs' : List Tok} {x : α} {t : Tok} (h : part ts = (some x, rs)) (hn : nxT (sgT [[44]]) rs = some (t, rs')) : sevU part (k + 1) acc ts = sevU part k (acc ++ [x]) rs' := by
 rw [sevU, h]
 simp only [hn]
theorem sevU_last {α : Type} {part : List Tok → Option α × List Tok} {k : Nat} {acc : List α} {ts rs : List Tok} {x : α} (h : part ts = (some x, rs)) (hn : nxT (sgT [[44]]) rs = none) : sevU part (k + 1) acc ts = (some (acc ++ [x]), rs) := by
 rw [sevU, h]
 simp only [hn]
theorem sevU_fail {α : Type} {part : List Tok → Option α × List Tok} {k : Nat} {acc : List α} {ts rs : List Tok} (h : part ts = (none, rs)) : sevU part (k + 1) acc ts = (none, rs) := by rw [sevU, h]
set_option maxHeartbeats 4000000 in
set_option maxRecDepth 20000 in
theorem several_q {α : Type} (St : World → List Tok → List α → Prop) (part : List Tok → Option α × List Tok) (f : FuncId) (hent : ∀ (args : Array Value) (W : World), Sem.run Tryz.prog (callFunc f args) W = .ok (.enter f args) W) (tr rb : Nat)
  (hqh : ∀ W ts acc, St W ts acc → QH WZ en W tr rb ts) (hgo : ∀ W w' ts ts' acc, St W ts acc → Fr tr (fun _ => False) W w' → QH WZ en w' tr rb ts' → St w' ts' acc) (hsuf : ∀ ts, (part ts).2 <:+ ts)
  (hpart : ∀ W ts acc, St W ts acc → acc.length ≤ 1000 → Calls Tryz.prog f #[.pointer (some ⟨rb, 0, none⟩)] W fun e w' => ∃ (R : Bool) (acc' : List α), e = .returned (.bool R) ∧ Aside (St w' (part ts).2 acc') ∧ Hid ((R = true ∧ ∃ x, (part ts).1 = some x ∧ acc' = acc ++ [x]) ∨ (R = false ∧ (part ts).1 = none)))
  (W : World) (ts : List Tok) (h : St W ts []) (hl : ts.length ≤ 400) :
  Calls Tryz.prog 71 #[.pointer (some ⟨rb, 0, none⟩), .func (.func f) #[.pointer (some ⟨rb, 0, none⟩)] #[]] W fun e w' => ∃ (R : Bool) (acc' : List α), e = .returned (.bool R) ∧ Aside (St w' (sevU part (ts.length + 1) [] ts).2 acc') ∧ Hid ((R = true ∧ (sevU part (ts.length + 1) [] ts).1 = some acc') ∨ (R = false ∧ (sevU part (ts.length + 1) [] ts).1 = none)) := by
 have HS : Aside (St W ts []) := h
 have HP := (show Aside _ from hpart)
 have HG := (show Aside _ from hgo)
 have HQ := (show Aside _ from hqh)
 have HF := (show Aside _ from hsuf)
 clear h hpart hgo hqh hsuf
 obtain ⟨T, hT⟩ : ∃ T, sevU part (ts.length + 1) [] ts = T := ⟨_, rfl⟩
 have HT : Hid (sevU part (ts.length + 1) [] ts = T) := hT
 rw [hT]
 clear hT
 go_enter Tryz.func71, Tryz.ntmps71
 go_wp2
 go_loopg [6] (ts.length + 1) (fun gg _ wr => ∃ (acc : List α) (ts' : List Tok), ts'.length + 1 ≤ gg ∧ acc.length + ts'.length ≤ 400 ∧ Aside (St wr ts' acc) ∧ Hid (sevU part gg acc ts' = T))
 case atStart => exact ⟨[], ts, Nat.le_refl _, by simpa using hl, (show Aside _ from HS.out), HT⟩
 case round =>
  obtain ⟨acc, ts', hg, hL, hS, hV⟩ := hrel
  clear HS HT
  have cP := HP.out wr ts' acc hS.out (by omega)
  obtain ⟨kk, rfl⟩ : ∃ kk, gk = kk + 1 := ⟨gk - 1, by omega⟩
  go_wp2_with fail
  refine cP.mono ?_
  rintro e w1 ⟨R, acc', rfl, S1, HR⟩
  have hsu := HF.out ts'
  clear cP hS
  cases R
  ·have hp : part ts' = (none, (part ts').2) := by
    rcases HR.out with ⟨h, -⟩ | ⟨-, h⟩
    ·exact absurd h (by decide)
    ·exact Prod.ext h rfl
   have HV : Hid (T = (none, (part ts').2)) := by show _ = _; rw [← hV.out, sevU_fail hp]
   clear HR hp hV HP HG HQ HF
   go_wp2
   go_ret
   refine ⟨false, acc', rfl, ?_, .inr ⟨rfl, ?_⟩⟩
   ·rw [HV.out]; exact S1
   ·rw [HV.out]
  ·obtain ⟨x, hx, rfl⟩ : ∃ x, (part ts').1 = some x ∧ acc' = acc ++ [x] := by
    rcases HR.out with ⟨-, h⟩ | ⟨h, -⟩
    ·exact h
    ·exact absurd h (by decide)
   have hp : part ts' = (some x, (part ts').2) := Prod.ext hx rfl
   obtain ⟨R2, rs2, hj⟩ := jU_form [44] (part ts').2
   have cJ := just_q [44] w1 tr rb (part ts').2 (HQ.out _ _ _ S1.out) R2 rs2 hj
   cases R2
   ·have hn : nxT (sgT [[44]]) (part ts').2 = none := by
     rw [jU] at hj
     cases hh : nxT (sgT [[44]]) (part ts').2 with
     | none => rfl
     | some p => rw [hh] at hj; exact absurd (Prod.mk.inj hj).1 (by simp)
    have hrs : rs2 = (part ts').2 := by
     rw [jU, hn] at hj
     exact (Prod.mk.inj hj).2.symm
    have HV : Hid (T = (some (acc ++ [x]), (part ts').2)) := by show _ = _; rw [← hV.out, sevU_last hp hn]
    have HG2 := HG.out w1
    clear HR hp hV HP HG HQ HF hn hj
    go_wp2_with fail
    refine cJ.mono ?_
    rintro e w2 ⟨rfl, Q2, F2⟩
    have S2 := HG2 w2 _ rs2 _ S1.out F2.out Q2.out
    rw [hrs] at S2
    clear HG2 cJ Q2 F2 S1
    go_wp2
    go_ret
    refine ⟨true, acc ++ [x], rfl, ?_, .inl ⟨rfl, ?_⟩⟩
    ·rw [HV.out]; exact S2
    ·rw [HV.out]
   ·obtain ⟨t, hn⟩ : ∃ t, nxT (sgT [[44]]) (part ts').2 = some (t, rs2) := by
     rw [jU] at hj
     cases hh : nxT (sgT [[44]]) (part ts').2 with
     | none => rw [hh] at hj; exact absurd (Prod.mk.inj hj).1 (by simp)
     | some p => rw [hh] at hj; exact ⟨p.1, by rw [← (Prod.mk.inj hj).2]⟩
    have HV : Hid (sevU part kk (acc ++ [x]) rs2 = T) := by show _ = _; rw [← hV.out, sevU_more hp hn]
    have hlen : rs2.length + 1 = (part ts').2.length := by rw [(nxT_len hn).1]; simp
    have hle := hsu.length_le
    have HG2 := HG.out w1
    clear HR hp hV hn hj
    go_wp2_with fail
    refine cJ.mono ?_
    rintro e w2 ⟨rfl, Q2, F2⟩
    have S2 := HG2 w2 _ rs2 _ S1.out F2.out Q2.out
    clear HG2 cJ Q2 F2 S1
    go_wp2
    go_roundg kk
    case measure => omega
    case rel => exact ⟨acc ++ [x], rs2, by omega, by simp; omega, (show Aside _ from S2), HV⟩
end Go.Proofs.YtkbhmghdonomnaaGreatDoor
namespace Go.Proofs.YtkbhmghdonomnaaGreatDoor
open Go.RowKit Go.BigFrame
set_option linter.unusedVariables false
set_option linter.unusedSimpArgs false
variable {en : Nat} {WZ : World}

structure QS (WZ : World) (en : Nat) (W : World) (tr rb : Nat) (ts : List Tok) (BC : Array Value) (I : World → Prop) : Prop where
 qh : QH WZ en W tr rb ts
 box : Blk W rb BC 55
 inv : I W
def Kp (tr rb : Nat) (I : World → Prop) : Prop := ∀ W w', rb < W.heap.size → I W → Fr tr (· = rb) W w' → I w'
theorem QS.go {W w' : World} {tr rb : Nat} {ts ts' : List Tok} {BC : Array Value} {I : World → Prop} (h : QS WZ en W tr rb ts BC I) (hc : Kp tr rb I) (hf : Fr tr (fun _ => False) W w') (hq : QH WZ en w' tr rb ts') : QS WZ en w' tr rb ts' BC I :=
 ⟨hq, h.box.fr hf (by have := h.qh.ne; omega) (fun h => h), hc W w' h.qh.lt h.inv hf.weak⟩
theorem QS.put {W w' : World} {tr rb : Nat} {ts ts' : List Tok} {BC BC' : Array Value} {I : World → Prop} (h : QS WZ en W tr rb ts BC I) (hc : Kp tr rb I) (hf : Fr tr (· = rb) W w') (hq : QH WZ en w' tr rb ts') (hb : Blk w' rb BC' 55) : QS WZ en w' tr rb ts' BC' I :=
 ⟨hq, hb, hc W w' h.qh.lt h.inv hf⟩
theorem cl_ex {tr rb B : Nat} {v : Value} {x : Ex} (hB : tr < B) (hB2 : rb < B) : Kp tr rb (fun W => ExIn W (B ≤ ·) v x) := fun W w' hl h hf => exin_fr h hf (fun b hb _ => ⟨by omega, by omega⟩)
theorem cl_and {tr rb : Nat} {I J : World → Prop} (h : Kp tr rb I) (k : Kp tr rb J) : Kp tr rb (fun W => I W ∧ J W) := fun W w' hl hh hf => ⟨h W w' hl hh.1 hf, k W w' hl hh.2 hf⟩
theorem keep_fr {tr rb : Nat} {W w' : World} (hf : Fr tr (· = rb) W w') (hne : tr < rb) : KeepB (rb + 1) W w' := ⟨hf.size, fun b h1 h2 => hf.kept b h2 (by omega) (by omega)⟩
theorem whU_suf (ts : List Tok) : (whU ts).2 <:+ ts := by
 rw [whU]
 cases h : nxT (sgT [wWhere]) ts with
 | none => exact List.suffix_rfl
 | some p => exact (readE_suf _).trans (nx_suf h)
theorem whU_no {ts rs : List Tok} (hj : jU wWhere ts = (none, rs)) : whU ts = (some ex0, rs) := by
 rw [jU] at hj
 rw [whU]
 cases h : nxT (sgT [wWhere]) ts with
 | none => rw [h] at hj; rw [(Prod.mk.inj hj).2.symm]
 | some p => rw [h] at hj; exact absurd (Prod.mk.inj hj).1 (by simp)
theorem whU_yes {ts rs : List Tok} (hj : jU wWhere ts = (some (), rs)) : whU ts = readE rs := by
 rw [jU] at hj
 rw [whU]
 cases h : nxT (sgT [wWhere]) ts with
 | none => rw [h] at hj; exact absurd (Prod.mk.inj hj).1 (by simp)
 | some p => rw [h] at hj; rw [(Prod.mk.inj hj).2.symm]
theorem slU_no {z : Int} {ts rs : List Tok} (hj : jU wSlide ts = (none, rs)) : slU z ts = (some z, rs) := by
 rw [jU] at hj
 rw [slU]
 cases h : nxT (sgT [wSlide]) ts with
 | none => rw [h] at hj; rw [(Prod.mk.inj hj).2.symm]
 | some p => rw [h] at hj; exact absurd (Prod.mk.inj hj).1 (by simp)
theorem slU_yes {z : Int} {ts rs : List Tok} (hj : jU wSlide ts = (some (), rs)) : slU z ts = iU rs := by
 rw [jU] at hj
 rw [slU]
 cases h : nxT (sgT [wSlide]) ts with
 | none => rw [h] at hj; exact absurd (Prod.mk.inj hj).1 (by simp)
 | some p => rw [h] at hj; rw [(Prod.mk.inj hj).2.symm]
set_option maxHeartbeats 4000000 in
set_option maxRecDepth 20000 in
theorem where_q (W : World) (tr rb : Nat) (ts : List Tok) (BC : Array Value) (I : World → Prop) (h : QS WZ en W tr rb ts BC I) (hc : Kp tr rb I) (hsz : BC.size = 15) (h0 : putB BC 2 (exL ex0 none 0) = BC) :
  Calls Tryz.prog 31 #[.pointer (some ⟨rb, 0, none⟩)] W fun e w' => ∃ (R : Bool) (x : Ex) (xp : Option Addr) (xc : Nat), e = .returned (.bool R) ∧ Aside (QS WZ en w' tr rb (whU ts).2 (putB BC 2 (exL x xp xc)) (fun V => I V ∧ ExIn V (rb + 1 ≤ ·) (exV x xp xc) x)) ∧ Hid ((whU ts).1 = if R = true then some x else none) := by
 obtain ⟨R1, rs1, hj⟩ := jU_form wWhere ts
 have cJ := just_q wWhere W tr rb ts h.qh R1 rs1 hj
 have HS : Aside (QS WZ en W tr rb ts BC I) := h
 have hne := h.qh.ne
 have hrl := h.qh.lt
 have cE := fun W1 (h1 : QH WZ en W1 tr rb rs1) (B1 : Blk W1 rb BC 55) => expression_q W1 tr rb rs1 h1 rb 2 BC 55 B1 hne (by omega) (fun _ => by decide)
 clear h
 cases R1
 ·have HA := (show Hid _ from whU_no hj)
  go_enter Tryz.func31, Tryz.ntmps31
  go_wp2_with fail
  refine cJ.mono ?_
  rintro e w1 ⟨rfl, Q1, F1⟩
  have S1 := HS.out.go hc F1.out Q1.out
  clear cJ cE
  go_wp2
  go_ret
  refine ⟨true, ex0, none, 0, rfl, ?_, ?_⟩
  ·rw [HA.out, h0]
   exact ⟨S1.qh, S1.box, S1.inv, ex_zero _ _⟩
  ·show _ = _; rw [HA.out]; rfl
 ·have HA := (show Hid _ from whU_yes hj)
  go_enter Tryz.func31, Tryz.ntmps31
  go_wp2_with fail
  refine cJ.mono ?_
  rintro e w1 ⟨rfl, Q1, F1⟩
  have S1 := HS.out.go hc F1.out Q1.out
  have c2 := cE w1 S1.qh S1.box
  have s1 := F1.out.size
  have hrl1 : rb < w1.heap.size := by omega
  clear cJ cE Q1 F1
  go_wp2_with fail
  refine c2.mono ?_
  rintro e w2 ⟨R, x, xp, xc, rfl, Q2, F2, B2, E2, HR⟩
  have S2 := S1.put hc F2.out Q2.out B2.out
  clear c2
  go_wp2
  go_ret
  refine ⟨R, x, xp, xc, rfl, ?_, ?_⟩
  ·rw [HA.out]
   exact ⟨S2.qh, S2.box, S2.inv, ExIn.low (fun b _ (hb : w1.heap.size ≤ b) => (show rb + 1 ≤ b by omega)) _ _ E2.out⟩
  ·show _ = _; rw [HA.out]; exact HR.out
set_option maxHeartbeats 4000000 in
set_option maxRecDepth 20000 in
theorem slide_q (W : World) (tr rb : Nat) (ts : List Tok) (BC : Array Value) (I : World → Prop) (h : QS WZ en W tr rb ts BC I) (hc : Kp tr rb I) (hsz : BC.size = 15) (z y0 : Int) (h12 : BC[12]? = some (.int .i64 z)) (h13 : BC[13]? = some (.int .i64 y0)) :
  Calls Tryz.prog 79 #[.pointer (some ⟨rb, 0, none⟩)] W fun e w' => ∃ (R : Bool) (y : Int), e = .returned (.bool R) ∧ Aside (QS WZ en w' tr rb (slU z ts).2 (BC.setIfInBounds 13 (.int .i64 y)) I) ∧ Hid ((slU z ts).1 = if R = true then some y else none) := by
 obtain ⟨R1, rs1, hj⟩ := jU_form wSlide ts
 have cJ := just_q wSlide W tr rb ts h.qh R1 rs1 hj
 have HS : Aside (QS WZ en W tr rb ts BC I) := h
 have hne := h.qh.ne
 have hrl := h.qh.lt
 have cE := fun W1 (h1 : QH WZ en W1 tr rb rs1) (B1 : Blk W1 rb BC 55) => number_q W1 tr rb rs1 h1 rb 13 BC 55 B1 hne (by omega) (fun _ => by decide)
 clear h
 cases R1
 ·have HA := (show Hid _ from slU_no (z := z) hj)
  go_enter Tryz.func79, Tryz.ntmps79
  go_wp2_with fail
  refine cJ.mono ?_
  rintro e w1 ⟨rfl, Q1, F1⟩
  have S1 := HS.out.go hc F1.out Q1.out
  have k12 : w1.cell? ⟨rb, 12, none⟩ = some (.int .i64 z) := by rw [S1.box.cell]; exact h12
  have k13 : w1.cell? ⟨rb, 13, none⟩ = some (.int .i64 y0) := by rw [S1.box.cell]; exact h13
  have kf : w1.frozen? ⟨rb, 13, none⟩ = false := S1.box.frozen 13
  have kl := S1.box.lt
  have F2 : Fr tr (· = rb) w1 (w1.setCell ⟨rb, 13, none⟩ (.int .i64 z)) := (Fr.refl _ _ _).set 13 _ (by omega) (fun _ => rfl)
  have B2 := S1.box.set 13 (.int .i64 z)
  have R2 : RdAt en (w1.setCell ⟨rb, 13, none⟩ (.int .i64 z)) tr rs1 := S1.qh.rd.onB ((Below.refl (tr + 1) w1).setCell (p := ⟨rb, 13, none⟩) hne _) (by simp [World.setCell])
  have S2 : Aside (QS WZ en (w1.setCell ⟨rb, 13, none⟩ (.int .i64 z)) tr rb rs1 (BC.setIfInBounds 13 (.int .i64 z)) I) := S1.put hc F2 (S1.qh.go F2 R2 List.suffix_rfl (by rw [World.cell?_setCell_other _ _ _ _ (by simp)]; exact S1.qh.p0)) B2
  clear cJ cE HS S1 F2 B2 R2 Q1 F1
  go_wp2
  go_ret
  refine ⟨true, z, rfl, ?_, ?_⟩
  ·rw [HA.out]; exact S2
  ·show _ = _; rw [HA.out]; rfl
 ·have HA := (show Hid _ from slU_yes (z := z) hj)
  go_enter Tryz.func79, Tryz.ntmps79
  go_wp2_with fail
  refine cJ.mono ?_
  rintro e w1 ⟨rfl, Q1, F1⟩
  have S1 := HS.out.go hc F1.out Q1.out
  have c2 := cE w1 S1.qh S1.box
  have s1 := F1.out.size
  have hrl1 : rb < w1.heap.size := by omega
  clear cJ cE Q1 F1
  go_wp2_with fail
  refine c2.mono ?_
  rintro e w2 ⟨R, y, rfl, Q2, F2, B2, HR⟩
  have S2 := S1.put hc F2.out Q2.out B2.out
  clear c2
  go_wp2
  go_ret
  refine ⟨R, y, rfl, ?_, ?_⟩
  ·rw [HA.out]; exact S2
  ·show _ = _; rw [HA.out]; exact HR.out
end Go.Proofs.YtkbhmghdonomnaaGreatDoor
namespace Go.Proofs.YtkbhmghdonomnaaGreatDoor
open Go.RowKit Go.BigFrame
set_option linter.unusedVariables false
set_option linter.unusedSimpArgs false
variable {en : Nat} {WZ : World}

theorem ent_grc (args : Array Value) (W : World) : Sem.run Tryz.prog (callFunc 77 args) W = .ok (.enter 77 args) W := by kernel_rfl
theorem ent_agg (args : Array Value) (W : World) : Sem.run Tryz.prog (callFunc 72 args) W = .ok (.enter 72 args) W := by kernel_rfl
theorem ent_qcol (args : Array Value) (W : World) : Sem.run Tryz.prog (callFunc 73 args) W = .ok (.enter 73 args) W := by kernel_rfl
theorem groups_q (W : World) (tr rb : Nat) (ts : List Tok) (BC : Array Value) (I : World → Prop) (h : QS WZ en W tr rb ts BC I) (hc : Kp tr rb I) (hsz : BC.size = 15) (h11 : BC[11]? = some (.slice none 0 0)) (hl : ts.length ≤ 400) :
  Calls Tryz.prog 71 #[.pointer (some ⟨rb, 0, none⟩), .func (.func 77) #[.pointer (some ⟨rb, 0, none⟩)] #[]] W fun e w' => ∃ (R : Bool) (gs : List ByteArray) (gq : Option Addr) (gc : Nat), e = .returned (.bool R) ∧ Aside (QS WZ en w' tr rb (sevU nU (ts.length + 1) [] ts).2 (BC.setIfInBounds 11 (.slice gq gs.length gc)) (fun V => I V ∧ V.ownsRow (rb + 1) 9 1 (.slice gq gs.length gc) gs.length (gs.map .string))) ∧ Hid ((sevU nU (ts.length + 1) [] ts).1 = if R = true then some gs else none) := by
 have hne := h.qh.ne
 have hrl := h.qh.lt
 have S0 : GrS WZ en W W tr rb BC ts [] := ⟨h.qh, ⟨none, 0, by rw [show (.slice none ([] : List ByteArray).length 0 : Value) = .slice none 0 0 from rfl, set_same h11]; exact h.box, World.ownsRow_nil _ _ _ _⟩, Fr.refl _ _ _, by omega, hrl⟩
 have c := several_q (en := en) (fun V ts gs => GrS WZ en W V tr rb BC ts gs) nU 77 ent_grc tr rb (fun V ts gs h => h.qh) (fun V w' ts ts' gs h hf hq => h.go hf hq) nU_suf (fun V ts gs hS hl => (groupCol_q W V tr rb BC ts gs hS hl).mono fun e w' hh => by
  obtain ⟨R, x, he, hg, hr⟩ := hh
  refine ⟨R, gs ++ [x], he, hg, ?_⟩
  cases R
  ·exact .inr ⟨rfl, hr.out⟩
  ·exact .inl ⟨rfl, x, hr.out, rfl⟩) W ts S0 hl
 refine c.mono fun e w' hh => ?_
 obtain ⟨R, gs, he, hg, hr⟩ := hh
 obtain ⟨gq, gc, hb, ho⟩ := hg.out.box
 refine ⟨R, gs, gq, gc, he, ⟨hg.out.qh, hb, hc W w' hrl h.inv hg.out.fr, ?_⟩, ?_⟩
 ·refine ⟨ho.1, ?_⟩
  rcases ho.2 with hn | ⟨g, cap, cur, e1, h1, rest⟩
  ·exact .inl hn
  ·exact .inr ⟨g, cap, cur, e1, by omega, rest⟩
 ·cases R
  ·rcases hr.out with ⟨h1, _⟩ | ⟨_, h2⟩
   ·exact absurd h1 (by decide)
   ·exact h2
  ·rcases hr.out with ⟨_, h2⟩ | ⟨h1, _⟩
   ·exact h2
   ·exact absurd h1 (by decide)
theorem cl_own {tr rb : Nat} {e : TypeId} {size n : Nat} {v : Value} {xs : List Value} (hne : tr < rb) : Kp tr rb (fun V => V.ownsRow (rb + 1) e size v n xs) := fun W w' hl h hf => own_keep h (keep_fr hf hne) (Nat.le_refl _)
theorem group_none (W : World) (tr rb : Nat) (BC : Array Value) (hb : Blk W rb BC 55) (h14 : ∃ p c, BC[14]? = some (.slice p 0 c)) :
  Calls Tryz.prog 32 #[.pointer (some ⟨rb, 0, none⟩)] W fun e w' => e = .returned (.bool true) ∧ w' = W := by
 obtain ⟨p, c, h14⟩ := h14
 have hc : W.cell? ⟨rb, 14, none⟩ = some (.slice p 0 c) := by rw [hb.cell]; exact h14
 have hl := hb.lt
 clear hb h14
 go_enter Tryz.func32, Tryz.ntmps32
 go_wp2
 go_ret
 exact ⟨rfl, rfl⟩
set_option maxHeartbeats 8000000 in
set_option maxRecDepth 20000 in
theorem group_q (W : World) (tr rb : Nat) (ts : List Tok) (BC : Array Value) (I : World → Prop) (h : QS WZ en W tr rb ts BC I) (hc : Kp tr rb I) (hsz : BC.size = 15) (h11 : BC[11]? = some (.slice none 0 0)) (h12 : BC[12]? = some (.int .i64 0)) (h13 : BC[13]? = some (.int .i64 0)) (p14 : Option Addr) (n14 c14 : Nat) (h14 : BC[14]? = some (.slice p14 n14 c14)) (hn : n14 ≠ 0) (hn2 : n14 ≤ 1000) (hl : ts.length ≤ 400) :
  Calls Tryz.prog 32 #[.pointer (some ⟨rb, 0, none⟩)] W fun e w' => ∃ R : Bool, e = .returned (.bool R) ∧ Aside (QH WZ en w' tr rb (grU ts).2) ∧ Hid ((R = false ∧ (grU ts).1 = none) ∨ (R = true ∧ ∃ gs gq gc z s, (grU ts).1 = some (gs, z, s) ∧ QS WZ en w' tr rb (grU ts).2 (((BC.setIfInBounds 11 (.slice gq gs.length gc)).setIfInBounds 12 (.int .i64 z)).setIfInBounds 13 (.int .i64 s)) (fun V => I V ∧ V.ownsRow (rb + 1) 9 1 (.slice gq gs.length gc) gs.length (gs.map .string)))) := by
 have HS : Aside (QS WZ en W tr rb ts BC I) := h
 have hne := h.qh.ne
 have hrl := h.qh.lt
 have hc14 : W.cell? ⟨rb, 14, none⟩ = some (.slice p14 n14 c14) := by rw [h.box.cell]; exact h14
 have hnz : ((n14 : Int) == 0) = false := by simp; omega
 obtain ⟨R1, rs1, hj1⟩ := jU_form wGroup ts
 have c1 := just_q wGroup W tr rb ts h.qh R1 rs1 hj1
 have hs1 : rs1 <:+ ts := by have := jU_suf wGroup ts; rw [hj1] at this; exact this
 clear h h14
 cases R1
 ·have HA : Hid (grU ts = (none, rs1)) := by show _ = _; rw [grU, thU_none hj1]
  go_enter Tryz.func32, Tryz.ntmps32
  go_wp2_with fail
  refine c1.mono ?_
  rintro e w1 ⟨rfl, Q1, F1⟩
  clear c1
  go_wp2
  go_ret
  refine ⟨false, rfl, ?_, .inl ⟨rfl, ?_⟩⟩
  ·rw [HA.out]; exact Q1
  ·rw [HA.out]
 obtain ⟨R2, rs2, hj2⟩ := jU_form wBy rs1
 have hs2 : rs2 <:+ rs1 := by have := jU_suf wBy rs1; rw [hj2] at this; exact this
 have c2 := fun w1 (q : QH WZ en w1 tr rb rs1) => just_q wBy w1 tr rb rs1 q R2 rs2 hj2
 cases R2
 ·have HA : Hid (grU ts = (none, rs2)) := by show _ = _; rw [grU, thU_some hj1, thU_none hj2]
  go_enter Tryz.func32, Tryz.ntmps32
  go_wp2_with fail
  refine c1.mono ?_
  rintro e w1 ⟨rfl, Q1, F1⟩
  go_wp2_with fail
  refine (c2 w1 Q1.out).mono ?_
  rintro e w2 ⟨rfl, Q2, F2⟩
  clear c1 c2
  go_wp2
  go_ret
  refine ⟨false, rfl, ?_, .inl ⟨rfl, ?_⟩⟩
  ·rw [HA.out]; exact Q2
  ·rw [HA.out]
 have hl2 : rs2.length ≤ 400 := by have := hs1.length_le; have := hs2.length_le; omega
 have c3 := fun w2 (q : QS WZ en w2 tr rb rs2 BC I) => groups_q w2 tr rb rs2 BC I q hc hsz h11 hl2
 have HAg : Hid (grU ts = thU (sevU nU (rs2.length + 1) [] rs2) fun g rs => thU (jU wWindow rs) fun _ rs => thU (iU rs) fun z rs => thU (slU z rs) fun s rs => (some (g, z, s), rs)) := by show _ = _; rw [grU, thU_some hj1, thU_some hj2]
 clear hj1 hj2
 go_enter Tryz.func32, Tryz.ntmps32
 go_wp2_with fail
 refine c1.mono ?_
 rintro e w1 ⟨rfl, Q1, F1⟩
 go_wp2_with fail
 refine (c2 w1 Q1.out).mono ?_
 rintro e w2 ⟨rfl, Q2, F2⟩
 have S2 := (HS.out.go hc F1.out Q1.out).go hc F2.out Q2.out
 clear c1 c2 Q1 F1 Q2 F2 HS
 go_wp2_with fail
 refine (c3 w2 S2).mono ?_
 rintro e w3 ⟨R3, gs, gq, gc, rfl, S3, HR3⟩
 clear c3 S2
 obtain ⟨rs3, hrs3⟩ : ∃ rs3, (sevU nU (rs2.length + 1) [] rs2).2 = rs3 := ⟨_, rfl⟩
 have hsv : sevU nU (rs2.length + 1) [] rs2 = (if R3 = true then some gs else none, rs3) := Prod.ext HR3.out hrs3
 rw [hrs3] at S3
 clear hrs3 HR3
 cases R3
 ·have HA : Hid (grU ts = (none, rs3)) := by show _ = _; rw [HAg.out, thU_none hsv]
  go_wp2
  go_ret
  refine ⟨false, rfl, ?_, .inl ⟨rfl, ?_⟩⟩
  ·rw [HA.out]; exact S3.out.qh
  ·rw [HA.out]
 obtain ⟨R4, rs4, hj4⟩ := jU_form wWindow rs3
 have c4 := just_q wWindow w3 tr rb rs3 S3.out.qh R4 rs4 hj4
 have hc3 := cl_and hc (cl_own (e := 9) (size := 1) (n := gs.length) (v := .slice gq gs.length gc) (xs := gs.map .string) hne)
 cases R4
 ·have HA : Hid (grU ts = (none, rs4)) := by show _ = _; rw [HAg.out, thU_some hsv, thU_none hj4]
  go_wp2_with fail
  refine c4.mono ?_
  rintro e w4 ⟨rfl, Q4, F4⟩
  clear c4
  go_wp2
  go_ret
  refine ⟨false, rfl, ?_, .inl ⟨rfl, ?_⟩⟩
  ·rw [HA.out]; exact Q4
  ·rw [HA.out]
 go_wp2_with fail
 refine c4.mono ?_
 rintro e w4 ⟨rfl, Q4, F4⟩
 have S4 := S3.out.go hc3 F4.out Q4.out
 have hrl4 := S4.qh.lt
 have c5 := number_q w4 tr rb rs4 S4.qh rb 12 _ 55 S4.box hne (by simp; omega) (fun _ => by decide)
 clear c4 Q4 F4 S3
 go_wp2_with fail
 refine c5.mono ?_
 rintro e w5 ⟨R5, z, rfl, Q5, F5, B5, HR5⟩
 have S5 := S4.put hc3 F5.out Q5.out B5.out
 clear c5 Q5 F5 B5 S4
 obtain ⟨rs5, hrs5⟩ : ∃ rs5, (iU rs4).2 = rs5 := ⟨_, rfl⟩
 have hiv : iU rs4 = (if R5 = true then some z else none, rs5) := Prod.ext HR5.out hrs5
 rw [hrs5] at S5
 clear hrs5 HR5
 cases R5
 ·have HA : Hid (grU ts = (none, rs5)) := by show _ = _; rw [HAg.out, thU_some hsv, thU_some hj4, thU_none hiv]
  go_wp2
  go_ret
  refine ⟨false, rfl, ?_, .inl ⟨rfl, ?_⟩⟩
  ·rw [HA.out]; exact S5.qh
  ·rw [HA.out]
 have c6 := slide_q w5 tr rb rs5 _ _ S5 hc3 (by simp; omega) z 0 (by rw [Array.getElem?_setIfInBounds, if_pos rfl, if_pos (by simp; omega)]) (by rw [Array.getElem?_setIfInBounds, if_neg (by decide), Array.getElem?_setIfInBounds, if_neg (by decide)]; exact h13)
 clear S5
 go_wp2_with fail
 refine c6.mono ?_
 rintro e w6 ⟨R6, s, rfl, S6, HR6⟩
 obtain ⟨rs6, hrs6⟩ : ∃ rs6, (slU z rs5).2 = rs6 := ⟨_, rfl⟩
 have hsl : slU z rs5 = (if R6 = true then some s else none, rs6) := Prod.ext HR6.out hrs6
 rw [hrs6] at S6
 clear hrs6 HR6 c6
 have HA : Hid (grU ts = (if R6 = true then some (gs, z, s) else none, rs6)) := by
  show _ = _
  rw [HAg.out, thU_some hsv, thU_some hj4, thU_some hiv]
  cases R6
  ·rw [thU_none hsl]; rfl
  ·rw [thU_some hsl]; rfl
 go_wp2
 go_ret
 refine ⟨R6, rfl, ?_, ?_⟩
 ·rw [HA.out]; exact S6.out.qh
 ·rw [HA.out]
  cases R6
  ·exact .inl ⟨rfl, rfl⟩
  ·exact .inr ⟨rfl, gs, gq, gc, z, s, rfl, S6.out⟩
end Go.Proofs.YtkbhmghdonomnaaGreatDoor
namespace Go.Proofs.YtkbhmghdonomnaaGreatDoor
open Go.RowKit Go.BigFrame
set_option linter.unusedVariables false
set_option linter.unusedSimpArgs false
variable {en : Nat} {WZ : World}

theorem asU_suf (ts : List Tok) : (asU ts).2 <:+ ts := by
 obtain ⟨R, rs, hj⟩ := jU_form wAs ts
 have hs : rs <:+ ts := by have := jU_suf wAs ts; rw [hj] at this; exact this
 cases R
 ·rw [asU, thU_none hj]; exact hs
 ·rw [asU, thU_some hj]; exact (nU_suf rs).trans hs
theorem colU_suf (ts : List Tok) : (colU ts).2 <:+ ts := by
 cases h : (readE ts).1 with
 | none => rw [colU, thU_none (rs := (readE ts).2) (Prod.ext h rfl)]; exact readE_suf ts
 | some x =>
  rw [colU, thU_some (x := x) (rs := (readE ts).2) (Prod.ext h rfl)]
  cases h2 : (asU (readE ts).2).1 with
  | none => rw [thU_none (rs := (asU (readE ts).2).2) (Prod.ext h2 rfl)]; exact (asU_suf _).trans (readE_suf ts)
  | some n => rw [thU_some (x := n) (rs := (asU (readE ts).2).2) (Prod.ext h2 rfl)]; exact (asU_suf _).trans (readE_suf ts)
theorem brU_suf (ts : List Tok) : (brU ts).2 <:+ ts := by
 obtain ⟨R, rs, hj⟩ := jU_form [40] ts
 have hs : rs <:+ ts := by have := jU_suf [40] ts; rw [hj] at this; exact this
 cases R
 ·rw [brU, thU_none hj]; exact hs
 ·rw [brU, thU_some hj]
  cases h : (readE rs).1 with
  | none => rw [thU_none (rs := (readE rs).2) (Prod.ext h rfl)]; exact (readE_suf rs).trans hs
  | some x =>
   rw [thU_some (x := x) (rs := (readE rs).2) (Prod.ext h rfl)]
   obtain ⟨R2, rs2, hj2⟩ := jU_form [41] (readE rs).2
   have hs2 : rs2 <:+ (readE rs).2 := by have := jU_suf [41] (readE rs).2; rw [hj2] at this; exact this
   cases R2
   ·rw [thU_none hj2]; exact hs2.trans ((readE_suf rs).trans hs)
   ·rw [thU_some hj2]; exact hs2.trans ((readE_suf rs).trans hs)
theorem argU_suf (w : List UInt8) (ts : List Tok) : (argU w ts).2 <:+ ts := by
 rw [argU]
 split
 ·exact List.suffix_rfl
 ·exact brU_suf ts
theorem aggU_suf (ts : List Tok) : (aggU ts).2 <:+ ts := by
 rw [aggU]
 cases h : nxT agB ts with
 | none => exact List.suffix_rfl
 | some p =>
  obtain ⟨t, rs⟩ := p
  have hs := nx_suf h
  simp only
  cases h1 : (argU t.2.1.data.toList rs).1 with
  | none => rw [thU_none (rs := (argU t.2.1.data.toList rs).2) (Prod.ext h1 rfl)]; exact (argU_suf _ rs).trans hs
  | some x =>
   rw [thU_some (x := x) (rs := (argU t.2.1.data.toList rs).2) (Prod.ext h1 rfl)]
   cases h2 : (asU (argU t.2.1.data.toList rs).2).1 with
   | none => rw [thU_none (rs := (asU (argU t.2.1.data.toList rs).2).2) (Prod.ext h2 rfl)]; exact (asU_suf _).trans ((argU_suf _ rs).trans hs)
   | some n => rw [thU_some (x := n) (rs := (asU (argU t.2.1.data.toList rs).2).2) (Prod.ext h2 rfl)]; exact (asU_suf _).trans ((argU_suf _ rs).trans hs)
theorem next_q (W : World) (tr rb : Nat) (ts : List Tok) (h : QH WZ en W tr rb ts) :
  Calls Tryz.prog 69 #[.pointer (some ⟨tr, 0, none⟩), .func (.func 70) #[] #[]] W fun e w' => e = .returned (.bool (nextB agB ts)) ∧ Below W.heap.size W w' := by
 cases ts with
 | nil => exact (next_none W tr _ h.rd).mono fun e w' hh => ⟨hh.1, by rw [hh.2]; exact Below.refl _ _⟩
 | cons t ts => exact next_gen _ #[] ent_begs W tr t ts (agB t) h.rd (begins_q t W h.aenv)
set_option maxHeartbeats 2000000 in
theorem items_agg (W : World) (tr rb : Nat) (ts : List Tok) (BC : Array Value) (h : QS WZ en W tr rb ts BC (fun _ => True)) (hsz : BC.size = 15) (h14 : BC[14]? = some (.slice none 0 0)) (hl : ts.length ≤ 400) (hb : nextB agB ts = true) :
  Calls Tryz.prog 29 #[.pointer (some ⟨rb, 0, none⟩)] W fun e w' => ∃ (R : Bool) (ls : List Ag) (aq : Option Addr) (ac : Nat), e = .returned (.bool R) ∧ Aside (QS WZ en w' tr rb (sevU aggU (ts.length + 1) [] ts).2 (BC.setIfInBounds 14 (.slice aq ls.length ac)) (fun V => AgsOwn V (rb + 1) (.slice aq ls.length ac) ls)) ∧ Hid ((sevU aggU (ts.length + 1) [] ts).1 = if R = true then some ls else none) := by
 have hne := h.qh.ne
 have hrl := h.qh.lt
 have hp0 := h.qh.p0
 have cX := next_q W tr rb ts h.qh
 rw [hb] at cX
 have cS := fun w1 (q : QS WZ en w1 tr rb ts BC (fun _ => True)) => several_q (en := en) (fun V ts ls => AgS WZ en w1 V tr rb BC ts ls) aggU 72 ent_agg tr rb (fun V ts gs h => h.qh) (fun V w' ts ts' gs h hf hq => h.go hf hq) aggU_suf (fun V ts ls hS hl => agg_q w1 V tr rb BC ts ls hS hl) w1 ts ⟨q.qh, ⟨none, 0, by rw [show (.slice none ([] : List Ag).length 0 : Value) = .slice none 0 0 from rfl, set_same h14]; exact q.box, agsOwn_nil _ _⟩, Fr.refl _ _ _, by omega, q.qh.lt⟩ hl
 have HS : Aside (QS WZ en W tr rb ts BC (fun _ => True)) := h
 clear h hb
 go_enter Tryz.func29, Tryz.ntmps29
 go_wp2_with fail
 refine cX.mono ?_
 rintro e w1 ⟨rfl, b1⟩
 have s1 := b1.size
 have F1 : Fr tr (fun _ => False) W w1 := Fr.of_below b1 (by omega)
 have S1 := HS.out.go (fun _ _ _ _ _ => trivial) F1 (HS.out.qh.fr F1 (HS.out.qh.rd.on b1) List.suffix_rfl (fun h => h))
 have c2 := cS w1 S1
 clear cS cX HS S1 F1
 go_wp2_with fail
 refine c2.mono ?_
 rintro e w2 ⟨R, ls, rfl, hg, hr⟩
 clear c2
 obtain ⟨aq, ac, hbx, ho⟩ := hg.out.box
 have SF : Aside (QS WZ en w2 tr rb (sevU aggU (ts.length + 1) [] ts).2 (BC.setIfInBounds 14 (.slice aq ls.length ac)) (fun V => AgsOwn V (rb + 1) (.slice aq ls.length ac) ls)) := by
  refine ⟨hg.out.qh, hbx, ?_⟩
  obtain ⟨cs, h1, h2⟩ := ho
  refine ⟨cs, ⟨h1.1, ?_⟩, fun j hj => ?_⟩
  ·rcases h1.2 with hn | ⟨g, cap, cur, e1, hB, rest⟩
   ·exact .inl hn
   ·exact .inr ⟨g, cap, cur, e1, by omega, rest⟩
  ·obtain ⟨ap, ac', e0, e1, e2, e3, e4, e5, e6, e7, e8, hx⟩ := h2 j hj
   exact ⟨ap, ac', e0, e1, e2, e3, e4, e5, e6, e7, e8, ExIn.low (fun b _ hb => ⟨by have := hb.1; omega, hb.2⟩) _ _ hx⟩
 have HR : Hid ((sevU aggU (ts.length + 1) [] ts).1 = if R = true then some ls else none) := by
  show _ = _
  cases R
  ·rcases hr.out with ⟨h1, _⟩ | ⟨_, h2⟩
   ·exact absurd h1 (by decide)
   ·exact h2
  ·rcases hr.out with ⟨_, h2⟩ | ⟨h1, _⟩
   ·exact h2
   ·exact absurd h1 (by decide)
 clear hg hr hbx ho
 go_wp2
 go_ret
 exact ⟨R, ls, aq, ac, rfl, SF, HR⟩
def CoS (WZ : World) (en : Nat) (W0 : World) (tr rb : Nat) (BC : Array Value) (W : World) (ts : List Tok) (l : List (Ex × ByteArray)) : Prop := ∃ cq cc nq nc, CoX WZ en W0 W tr rb BC ts (l.map (·.1)) (l.map (·.2)) cq l.length cc nq l.length nc
set_option maxHeartbeats 2000000 in
theorem items_col (W : World) (tr rb : Nat) (ts : List Tok) (BC : Array Value) (h : QS WZ en W tr rb ts BC (fun _ => True)) (hsz : BC.size = 15) (h9 : BC[9]? = some (.slice none 0 0)) (h10 : BC[10]? = some (.slice none 0 0)) (hl : ts.length ≤ 400) (hb : nextB agB ts = false) :
  Calls Tryz.prog 29 #[.pointer (some ⟨rb, 0, none⟩)] W fun e w' => ∃ (R : Bool) (l : List (Ex × ByteArray)) (cq : Option Addr) (cc : Nat) (nq : Option Addr) (nc : Nat), e = .returned (.bool R) ∧ Aside (QS WZ en w' tr rb (sevU colU (ts.length + 1) [] ts).2 (bc2 BC (.slice cq l.length cc) (.slice nq l.length nc)) (fun V => ArgsO V (rb + 1) (.slice cq l.length cc) (Value.slice nq l.length nc).ownBlock (l.map (·.1)) ∧ V.ownsRow (rb + 1) 9 1 (.slice nq l.length nc) l.length ((l.map (·.2)).map .string))) ∧ Hid ((sevU colU (ts.length + 1) [] ts).1 = if R = true then some l else none) := by
 have hne := h.qh.ne
 have hrl := h.qh.lt
 have hp0 := h.qh.p0
 have cX := next_q W tr rb ts h.qh
 rw [hb] at cX
 have cS := fun w1 (q : QS WZ en w1 tr rb ts BC (fun _ => True)) => several_q (en := en) (fun V ts l => CoS WZ en w1 tr rb BC V ts l) colU 73 ent_qcol tr rb (fun V ts l h => by obtain ⟨_, _, _, _, h⟩ := h; exact h.qh) (fun V w' ts ts' l h hf hq => by obtain ⟨cq, cc, nq, nc, h⟩ := h; exact ⟨cq, cc, nq, nc, h.keep hf (fun _ _ h => h) hq⟩) colU_suf (fun V ts l hS hl => by
   obtain ⟨cq, cc, nq, nc, hx⟩ := hS
   refine (col_q w1 V tr rb BC ts _ _ cq l.length cc nq l.length nc hx hl hl).mono fun e w' hh => ?_
   obtain ⟨R, x, nm, cq', cc', nq', nc', he, hX, hr⟩ := hh
   refine ⟨R, l ++ [(x, nm)], he, ⟨cq', cc', nq', nc', by simpa using hX.out⟩, ?_⟩
   cases R
   ·exact .inr ⟨rfl, hr.out⟩
   ·exact .inl ⟨rfl, _, hr.out, rfl⟩) w1 ts ⟨none, 0, none, 0, q.qh, by
    show Blk w1 rb (bc2 BC (.slice none 0 0) (.slice none 0 0)) _
    rw [bc2, set_same h9, set_same h10]; exact q.box, argsO_nil _ _ _, World.ownsRow_nil _ _ _ _, rfl, rfl, Fr.refl _ _ _, by omega, q.qh.lt⟩ hl
 have HS : Aside (QS WZ en W tr rb ts BC (fun _ => True)) := h
 clear h hb
 go_enter Tryz.func29, Tryz.ntmps29
 go_wp2_with fail
 refine cX.mono ?_
 rintro e w1 ⟨rfl, b1⟩
 have s1 := b1.size
 have F1 : Fr tr (fun _ => False) W w1 := Fr.of_below b1 (by omega)
 have S1 := HS.out.go (fun _ _ _ _ _ => trivial) F1 (HS.out.qh.fr F1 (HS.out.qh.rd.on b1) List.suffix_rfl (fun h => h))
 have c2 := cS w1 S1
 clear cS cX HS S1 F1
 go_wp2_with fail
 refine c2.mono ?_
 rintro e w2 ⟨R, l, rfl, hg, hr⟩
 clear c2
 obtain ⟨cq, cc, nq, nc, hX⟩ := hg.out
 have SF : Aside (QS WZ en w2 tr rb (sevU colU (ts.length + 1) [] ts).2 (bc2 BC (.slice cq l.length cc) (.slice nq l.length nc)) (fun V => ArgsO V (rb + 1) (.slice cq l.length cc) (Value.slice nq l.length nc).ownBlock (l.map (·.1)) ∧ V.ownsRow (rb + 1) 9 1 (.slice nq l.length nc) l.length ((l.map (·.2)).map .string))) := by
  refine ⟨hX.qh, hX.box, ?_, ?_⟩
  ·obtain ⟨cs, h1, h2⟩ := hX.cols
   refine ⟨cs, ⟨h1.1, ?_⟩, fun j hj => ?_⟩
   ·rcases h1.2 with hn | ⟨g, cap, cur, e1, hB, rest⟩
    ·exact .inl hn
    ·exact .inr ⟨g, cap, cur, e1, by omega, rest⟩
   ·obtain ⟨a0, a1, a2, a3, a4, a5, a6, e0, e1, e2, e3, e4, e5, e6, hx⟩ := h2 j hj
    exact ⟨a0, a1, a2, a3, a4, a5, a6, e0, e1, e2, e3, e4, e5, e6, ExIn.low (fun b _ hb => ⟨by have := hb.1; omega, hb.2⟩) _ _ hx⟩
  ·refine ⟨hX.names.1, ?_⟩
   rcases hX.names.2 with hn | ⟨g, cap, cur, e1, hB, rest⟩
   ·exact .inl hn
   ·exact .inr ⟨g, cap, cur, e1, by omega, rest⟩
 have HR : Hid ((sevU colU (ts.length + 1) [] ts).1 = if R = true then some l else none) := by
  show _ = _
  cases R
  ·rcases hr.out with ⟨h1, _⟩ | ⟨_, h2⟩
   ·exact absurd h1 (by decide)
   ·exact h2
  ·rcases hr.out with ⟨_, h2⟩ | ⟨h1, _⟩
   ·exact h2
   ·exact absurd h1 (by decide)
 clear hg hr hX
 go_wp2
 go_ret
 exact ⟨R, l, cq, cc, nq, nc, rfl, SF, HR⟩
end Go.Proofs.YtkbhmghdonomnaaGreatDoor
