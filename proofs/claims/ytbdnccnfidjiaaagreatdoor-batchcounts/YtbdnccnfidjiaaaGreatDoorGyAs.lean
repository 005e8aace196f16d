/-
  QrH, QrI, QrJ, QrK, QrL, QrM, QrN.
-/
import Derived.Test.YtbdnccnfidjiaaaGreatDoorGyAq
import Derived.Test.YtbdnccnfidjiaaaGreatDoorGyAp
import Derived.Test.YtbdnccnfidjiaaaGreatDoorGyAb
import Derived.Test.YtbdnccnfidjiaaaGreatDoorGyAr
import Derived.Deep.LoopGhost
import Derived.Laws.AppendOwnNone
namespace Go.Proofs.YtbdnccnfidjiaaaGreatDoor
open Go.RowKit
set_option linter.unusedVariables false
set_option linter.unusedSimpArgs false
set_option maxHeartbeats 8000000
section
open Go.BigFrame
variable {en : Nat} {WZ : World}

theorem zeJ{α:Type}{part:List Tok→Option α×List Tok}{k:Nat}{acc:List α}{ts rs rs':List Tok}{x:α}{t:Tok}(h:part ts=(some x,rs))(hn:nxT (sgT [[44]]) rs=some (t,rs')):sevU part (k+1) acc ts=sevU part k (acc++[x]) rs':=by
 rw[sevU,h]
 simp only[hn]
theorem zeI{α:Type}{part:List Tok→Option α×List Tok}{k:Nat}{acc:List α}{ts rs:List Tok}{x:α}(h:part ts=(some x,rs))(hn:nxT (sgT [[44]]) rs=none):sevU part (k+1) acc ts=(some (acc++[x]),rs):=by
 rw[sevU,h]
 simp only[hn]
theorem zeH{α:Type}{part:List Tok→Option α×List Tok}{k:Nat}{acc:List α}{ts rs:List Tok}(h:part ts=(none,rs)):sevU part (k+1) acc ts=(none,rs):=by rw[sevU,h]
set_option maxRecDepth 20000 in
theorem zhM{α:Type}(St:World→List Tok→List α→Prop)(part:List Tok→Option α×List Tok)(f:FuncId)(hent:∀(args:Array Value) (W:World),Sem.run Tryz.prog (callFunc f args) W=.ok (.enter f args) W)(tr rb:Nat)
  (hqh:∀W ts acc,St W ts acc→QH WZ en W tr rb ts)(hgo:∀W w' ts ts' acc,St W ts acc→Fr tr (fun _=>False) W w'→QH WZ en w' tr rb ts'→St w' ts' acc)(hsuf:∀ts,(part ts).2 <:+ ts)
  (hpart:∀W ts acc,St W ts acc→acc.length≤1000→Calls Tryz.prog f #[.pointer (some ⟨rb,0,none⟩)] W fun e w'=>∃(R:Bool) (acc':List α),e=.returned (.bool R)∧Aside (St w' (part ts).2 acc')∧Hid ((R=true∧∃x,(part ts).1=some x∧acc'=acc++[x])∨(R=false∧(part ts).1=none)))
  (W:World)(ts:List Tok)(h:St W ts [])(hl:ts.length≤400) :
  Calls Tryz.prog 49 #[.pointer (some ⟨rb,0,none⟩),.func (.func f) #[.pointer (some ⟨rb,0,none⟩)] #[]] W fun e w'=>∃(R:Bool) (acc':List α),e=.returned (.bool R)∧Aside (St w' (sevU part (ts.length+1) [] ts).2 acc')∧Hid ((R=true∧(sevU part (ts.length+1) [] ts).1=some acc')∨(R=false∧(sevU part (ts.length+1) [] ts).1=none)):=by
 have HS:Aside (St W ts []):=h
 have HP:=(show Aside _ from hpart)
 have HG:=(show Aside _ from hgo)
 have HQ:=(show Aside _ from hqh)
 have HF:=(show Aside _ from hsuf)
 clear h hpart hgo hqh hsuf
 obtain⟨T,hT⟩:∃T,sevU part (ts.length+1) [] ts=T:=⟨_,rfl⟩
 have HT:Hid (sevU part (ts.length+1) [] ts=T):=hT
 rw[hT]
 clear hT
 go_enter Tryz.func49,Tryz.ntmps49
 go_wp2
 go_loopg [6] (ts.length+1) (fun gg _ wr=>∃(acc:List α) (ts':List Tok),ts'.length+1≤gg∧acc.length+ts'.length≤400∧Aside (St wr ts' acc)∧Hid (sevU part gg acc ts'=T))
 case atStart=>exact⟨[],ts,Nat.le_refl _,by simpa using hl,(show Aside _ from HS.out),HT⟩
 case round =>
  obtain⟨acc,ts',hg,hL,hS,hV⟩:=hrel
  clear HS HT
  have cP:=HP.out wr ts' acc hS.out (by omega)
  obtain⟨kk,rfl⟩:∃kk,gk=kk+1:=⟨gk-1,by omega⟩
  go_wp2_with fail
  refine cP.mono ?_
  rintro e w1 ⟨R,acc',rfl,S1,HR⟩
  have hsu:=HF.out ts'
  clear cP hS
  cases R
  ·have hp:part ts'=(none,(part ts').2):=by
    rcases HR.out with ⟨h,-⟩|⟨-,h⟩
    ·exact absurd h (by decide)
    ·exact Prod.ext h rfl
   have HV:Hid (T=(none,(part ts').2)):=by show _=_;rw[←hV.out,zeH hp]
   clear HR hp hV HP HG HQ HF
   go_wp2
   go_ret
   refine⟨false,acc',rfl,?_,.inr ⟨rfl,?_⟩⟩
   ·rw[HV.out];exact S1
   ·rw[HV.out]
  ·obtain⟨x,hx,rfl⟩:∃x,(part ts').1=some x∧acc'=acc++[x]:=by
    rcases HR.out with ⟨-,h⟩|⟨h,-⟩
    ·exact h
    ·exact absurd h (by decide)
   have hp:part ts'=(some x,(part ts').2):=Prod.ext hx rfl
   obtain⟨R2,rs2,hj⟩:=zaJ [44] (part ts').2
   have cJ:=zdb [44] w1 tr rb (part ts').2 (HQ.out _ _ _ S1.out) R2 rs2 hj
   cases R2
   ·have hn:nxT (sgT [[44]]) (part ts').2=none:=by
     rw[jU] at hj
     cases hh:nxT (sgT [[44]]) (part ts').2 with
     | none=>rfl
     | some p=>rw[hh] at hj;exact absurd (Prod.mk.inj hj).1 (by simp)
    have hrs:rs2=(part ts').2:=by
     rw[jU,hn] at hj
     exact (Prod.mk.inj hj).2.symm
    have HV:Hid (T=(some (acc++[x]),(part ts').2)):=by show _=_;rw[←hV.out,zeI hp hn]
    have HG2:=HG.out w1
    clear HR hp hV HP HG HQ HF hn hj
    go_wp2_with fail
    refine cJ.mono ?_
    rintro e w2 ⟨rfl,Q2,F2⟩
    have S2:=HG2 w2 _ rs2 _ S1.out F2.out Q2.out
    rw[hrs] at S2
    clear HG2 cJ Q2 F2 S1
    go_wp2
    go_ret
    refine⟨true,acc++[x],rfl,?_,.inl ⟨rfl,?_⟩⟩
    ·rw[HV.out];exact S2
    ·rw[HV.out]
   ·obtain⟨t,hn⟩:∃t,nxT (sgT [[44]]) (part ts').2=some (t,rs2):=by
     rw[jU] at hj
     cases hh:nxT (sgT [[44]]) (part ts').2 with
     | none=>rw[hh] at hj;exact absurd (Prod.mk.inj hj).1 (by simp)
     | some p=>rw[hh] at hj;exact⟨p.1,by rw[←(Prod.mk.inj hj).2]⟩
    have HV:Hid (sevU part kk (acc++[x]) rs2=T):=by show _=_;rw[←hV.out,zeJ hp hn]
    have hlen:rs2.length+1=(part ts').2.length:=by rw[(zal hn).1];simp
    have hle:=hsu.length_le
    have HG2:=HG.out w1
    clear HR hp hV hn hj
    go_wp2_with fail
    refine cJ.mono ?_
    rintro e w2 ⟨rfl,Q2,F2⟩
    have S2:=HG2 w2 _ rs2 _ S1.out F2.out Q2.out
    clear HG2 cJ Q2 F2 S1
    go_wp2
    go_roundg kk
    case measure=>omega
    case rel=>exact⟨acc++[x],rs2,by omega,by simp;omega,(show Aside _ from S2),HV⟩
end
section
open Go.BigFrame
variable {en : Nat} {WZ : World}

structure QS(WZ:World)(en:Nat)(W:World)(tr rb:Nat)(ts:List Tok)(BC:Array Value)(I:World→Prop):Prop where
 qh:QH WZ en W tr rb ts
 box:Blk W rb BC 55
 inv:I W
def KpQ(tr rb:Nat)(I:World→Prop):Prop:=∀W w',rb<W.heap.size→I W→Fr tr (·=rb) W w'→I w'
theorem QS.go{W w':World}{tr rb:Nat}{ts ts':List Tok}{BC:Array Value}{I:World→Prop}(h:QS WZ en W tr rb ts BC I)(hc:KpQ tr rb I)(hf:Fr tr (fun _=>False) W w')(hq:QH WZ en w' tr rb ts'):QS WZ en w' tr rb ts' BC I :=
 ⟨hq,h.box.fr hf (by have:=h.qh.ne;omega) (fun h=>h),hc W w' h.qh.lt h.inv hf.weak⟩
theorem QS.put{W w':World}{tr rb:Nat}{ts ts':List Tok}{BC BC':Array Value}{I:World→Prop}(h:QS WZ en W tr rb ts BC I)(hc:KpQ tr rb I)(hf:Fr tr (·=rb) W w')(hq:QH WZ en w' tr rb ts')(hb:Blk w' rb BC' 55):QS WZ en w' tr rb ts' BC' I :=
 ⟨hq,hb,hc W w' h.qh.lt h.inv hf⟩
theorem cl_ex{tr rb B:Nat}{v:Value}{x:Ex}(hB:tr<B)(hB2:rb<B):KpQ tr rb (fun W=>ExIn W (B≤·) v x):=fun W w' hl h hf=>zjB h hf (fun b hb _=>⟨by omega,by omega⟩)
theorem zqn{tr rb:Nat}{I J:World→Prop}(h:KpQ tr rb I)(k:KpQ tr rb J):KpQ tr rb (fun W=>I W∧J W):=fun W w' hl hh hf=>⟨h W w' hl hh.1 hf,k W w' hl hh.2 hf⟩
theorem zni{tr rb:Nat}{W w':World}(hf:Fr tr (·=rb) W w')(hne:tr<rb):KeepB (rb+1) W w':=⟨hf.size,fun b h1 h2=>hf.kept b h2 (by omega) (by omega)⟩
theorem zsB(ts:List Tok):(whU ts).2 <:+ ts:=by
 rw[whU]
 cases h:nxT (sgT [zfV]) ts with
 | none=>exact List.suffix_rfl
 | some p=>exact (zbU _).trans (zgF h)
theorem ztH{ts rs:List Tok}(hj:jU zfV ts=(none,rs)):whU ts=(some ex0,rs):=by
 rw[jU] at hj
 rw[whU]
 cases h:nxT (sgT [zfV]) ts with
 | none=>rw[h] at hj;rw[(Prod.mk.inj hj).2.symm]
 | some p=>rw[h] at hj;exact absurd (Prod.mk.inj hj).1 (by simp)
theorem zsC{ts rs:List Tok}(hj:jU zfV ts=(some (),rs)):whU ts=readE rs:=by
 rw[jU] at hj
 rw[whU]
 cases h:nxT (sgT [zfV]) ts with
 | none=>rw[h] at hj;exact absurd (Prod.mk.inj hj).1 (by simp)
 | some p=>rw[h] at hj;rw[(Prod.mk.inj hj).2.symm]
theorem ztA{z:Int}{ts rs:List Tok}(hj:jU zhe ts=(none,rs)):slU z ts=(some z,rs):=by
 rw[jU] at hj
 rw[slU]
 cases h:nxT (sgT [zhe]) ts with
 | none=>rw[h] at hj;rw[(Prod.mk.inj hj).2.symm]
 | some p=>rw[h] at hj;exact absurd (Prod.mk.inj hj).1 (by simp)
theorem zrV{z:Int}{ts rs:List Tok}(hj:jU zhe ts=(some (),rs)):slU z ts=iU rs:=by
 rw[jU] at hj
 rw[slU]
 cases h:nxT (sgT [zhe]) ts with
 | none=>rw[h] at hj;exact absurd (Prod.mk.inj hj).1 (by simp)
 | some p=>rw[h] at hj;rw[(Prod.mk.inj hj).2.symm]
set_option maxRecDepth 20000 in
theorem zsD(W:World)(tr rb:Nat)(ts:List Tok)(BC:Array Value)(I:World→Prop)(h:QS WZ en W tr rb ts BC I)(hc:KpQ tr rb I)(hsz:BC.size=15)(h0:putB BC 2 (exL ex0 none 0)=BC) :
  Calls Tryz.prog 24 #[.pointer (some ⟨rb,0,none⟩)] W fun e w'=>∃(R:Bool) (x:Ex) (xp:Option Addr) (xc:Nat),e=.returned (.bool R)∧Aside (QS WZ en w' tr rb (whU ts).2 (putB BC 2 (exL x xp xc)) (fun V=>I V∧ExIn V (rb+1≤·) (exV x xp xc) x))∧Hid ((whU ts).1=if R=true then some x else none):=by
 obtain⟨R1,rs1,hj⟩:=zaJ zfV ts
 have cJ:=zdb zfV W tr rb ts h.qh R1 rs1 hj
 have HS:Aside (QS WZ en W tr rb ts BC I):=h
 have hne:=h.qh.ne
 have hrl:=h.qh.lt
 have cE:=fun W1 (h1:QH WZ en W1 tr rb rs1) (B1:Blk W1 rb BC 55)=>zcT W1 tr rb rs1 h1 rb 2 BC 55 B1 hne (by omega) (fun _=>by decide)
 clear h
 cases R1
 ·have HA:=(show Hid _ from ztH hj)
  go_enter Tryz.func24,Tryz.ntmps24
  go_wp2_with fail
  refine cJ.mono ?_
  rintro e w1 ⟨rfl,Q1,F1⟩
  have S1:=HS.out.go hc F1.out Q1.out
  clear cJ cE
  go_wp2
  go_ret
  refine⟨true,ex0,none,0,rfl,?_,?_⟩
  ·rw[HA.out,h0]
   exact⟨S1.qh,S1.box,S1.inv,zfk _ _⟩
  ·show _=_;rw[HA.out];rfl
 ·have HA:=(show Hid _ from zsC hj)
  go_enter Tryz.func24,Tryz.ntmps24
  go_wp2_with fail
  refine cJ.mono ?_
  rintro e w1 ⟨rfl,Q1,F1⟩
  have S1:=HS.out.go hc F1.out Q1.out
  have c2:=cE w1 S1.qh S1.box
  have s1:=F1.out.size
  have hrl1:rb<w1.heap.size:=by omega
  clear cJ cE Q1 F1
  go_wp2_with fail
  refine c2.mono ?_
  rintro e w2 ⟨R,x,xp,xc,rfl,Q2,F2,B2,E2,HR⟩
  have S2:=S1.put hc F2.out Q2.out B2.out
  clear c2
  go_wp2
  go_ret
  refine⟨R,x,xp,xc,rfl,?_,?_⟩
  ·rw[HA.out]
   exact⟨S2.qh,S2.box,S2.inv,ExIn.low (fun b _ (hb:w1.heap.size≤b)=>(show rb+1≤b by omega)) _ _ E2.out⟩
  ·show _=_;rw[HA.out];exact HR.out
set_option maxRecDepth 20000 in
theorem zrW(W:World)(tr rb:Nat)(ts:List Tok)(BC:Array Value)(I:World→Prop)(h:QS WZ en W tr rb ts BC I)(hc:KpQ tr rb I)(hsz:BC.size=15)(z y0:Int)(h12:BC[12]?=some (.int .i64 z))(h13:BC[13]?=some (.int .i64 y0)) :
  Calls Tryz.prog 57 #[.pointer (some ⟨rb,0,none⟩)] W fun e w'=>∃(R:Bool) (y:Int),e=.returned (.bool R)∧Aside (QS WZ en w' tr rb (slU z ts).2 (BC.setIfInBounds 13 (.int .i64 y)) I)∧Hid ((slU z ts).1=if R=true then some y else none):=by
 obtain⟨R1,rs1,hj⟩:=zaJ zhe ts
 have cJ:=zdb zhe W tr rb ts h.qh R1 rs1 hj
 have HS:Aside (QS WZ en W tr rb ts BC I):=h
 have hne:=h.qh.ne
 have hrl:=h.qh.lt
 have cE:=fun W1 (h1:QH WZ en W1 tr rb rs1) (B1:Blk W1 rb BC 55)=>zkl W1 tr rb rs1 h1 rb 13 BC 55 B1 hne (by omega) (fun _=>by decide)
 clear h
 cases R1
 ·have HA:=(show Hid _ from ztA (z:=z) hj)
  go_enter Tryz.func57,Tryz.ntmps57
  go_wp2_with fail
  refine cJ.mono ?_
  rintro e w1 ⟨rfl,Q1,F1⟩
  have S1:=HS.out.go hc F1.out Q1.out
  have k12:w1.cell? ⟨rb,12,none⟩=some (.int .i64 z):=by rw[S1.box.cell];exact h12
  have k13:w1.cell? ⟨rb,13,none⟩=some (.int .i64 y0):=by rw[S1.box.cell];exact h13
  have kf:w1.frozen? ⟨rb,13,none⟩=false:=S1.box.frozen 13
  have kl:=S1.box.lt
  have F2:Fr tr (·=rb) w1 (w1.setCell ⟨rb,13,none⟩ (.int .i64 z)):=(Fr.refl _ _ _).set 13 _ (by omega) (fun _=>rfl)
  have B2:=S1.box.set 13 (.int .i64 z)
  have R2:RdAt en (w1.setCell ⟨rb,13,none⟩ (.int .i64 z)) tr rs1:=S1.qh.rd.onB ((Below.refl (tr+1) w1).setCell (p:=⟨rb,13,none⟩) hne _) (by simp[World.setCell])
  have S2:Aside (QS WZ en (w1.setCell ⟨rb,13,none⟩ (.int .i64 z)) tr rb rs1 (BC.setIfInBounds 13 (.int .i64 z)) I):=S1.put hc F2 (S1.qh.go F2 R2 List.suffix_rfl (by rw[World.cell?_setCell_other _ _ _ _ (by simp)];exact S1.qh.p0)) B2
  clear cJ cE HS S1 F2 B2 R2 Q1 F1
  go_wp2
  go_ret
  refine⟨true,z,rfl,?_,?_⟩
  ·rw[HA.out];exact S2
  ·show _=_;rw[HA.out];rfl
 ·have HA:=(show Hid _ from zrV (z:=z) hj)
  go_enter Tryz.func57,Tryz.ntmps57
  go_wp2_with fail
  refine cJ.mono ?_
  rintro e w1 ⟨rfl,Q1,F1⟩
  have S1:=HS.out.go hc F1.out Q1.out
  have c2:=cE w1 S1.qh S1.box
  have s1:=F1.out.size
  have hrl1:rb<w1.heap.size:=by omega
  clear cJ cE Q1 F1
  go_wp2_with fail
  refine c2.mono ?_
  rintro e w2 ⟨R,y,rfl,Q2,F2,B2,HR⟩
  have S2:=S1.put hc F2.out Q2.out B2.out
  clear c2
  go_wp2
  go_ret
  refine⟨R,y,rfl,?_,?_⟩
  ·rw[HA.out];exact S2
  ·show _=_;rw[HA.out];exact HR.out
end
section
open Go.BigFrame
variable {en : Nat} {WZ : World}

theorem zqz(args:Array Value)(W:World):Sem.run Tryz.prog (callFunc 55 args) W=.ok (.enter 55 args) W:=by kernel_rfl
theorem zqy(args:Array Value)(W:World):Sem.run Tryz.prog (callFunc 50 args) W=.ok (.enter 50 args) W:=by kernel_rfl
theorem zoE(W:World)(tr rb:Nat)(ts:List Tok)(BC:Array Value)(I:World→Prop)(h:QS WZ en W tr rb ts BC I)(hc:KpQ tr rb I)(hsz:BC.size=15)(h11:BC[11]?=some (.slice none 0 0))(hl:ts.length≤400) :
  Calls Tryz.prog 49 #[.pointer (some ⟨rb,0,none⟩),.func (.func 55) #[.pointer (some ⟨rb,0,none⟩)] #[]] W fun e w'=>∃(R:Bool) (gs:List ByteArray) (gq:Option Addr) (gc:Nat),e=.returned (.bool R)∧Aside (QS WZ en w' tr rb (sevU nU (ts.length+1) [] ts).2 (BC.setIfInBounds 11 (.slice gq gs.length gc)) (fun V=>I V∧V.ownsRow (rb+1) 9 1 (.slice gq gs.length gc) gs.length (gs.map .string)))∧Hid ((sevU nU (ts.length+1) [] ts).1=if R=true then some gs else none):=by
 have hne:=h.qh.ne
 have hrl:=h.qh.lt
 have S0:GrSq WZ en W W tr rb BC ts []:=⟨h.qh,⟨none,0,by rw[show (.slice none ([]:List ByteArray).length 0:Value)=.slice none 0 0 from rfl,zgO h11];exact h.box,World.ownsRow_nil _ _ _ _⟩,Fr.refl _ _ _,by omega,hrl⟩
 have c:=zhM (en:=en) (fun V ts gs=>GrSq WZ en W V tr rb BC ts gs) nU 55 zqz tr rb (fun V ts gs h=>h.qh) (fun V w' ts ts' gs h hf hq=>h.go hf hq) zkg (fun V ts gs hS hl=>(zjN W V tr rb BC ts gs hS hl).mono fun e w' hh=>by
  obtain⟨R,x,he,hg,hr⟩:=hh
  refine⟨R,gs++[x],he,hg,?_⟩
  cases R
  ·exact .inr ⟨rfl,hr.out⟩
  ·exact .inl ⟨rfl,x,hr.out,rfl⟩) W ts S0 hl
 refine c.mono fun e w' hh=>?_
 obtain⟨R,gs,he,hg,hr⟩:=hh
 obtain⟨gq,gc,hb,ho⟩:=hg.out.box
 refine⟨R,gs,gq,gc,he,⟨hg.out.qh,hb,hc W w' hrl h.inv hg.out.fr,?_⟩,?_⟩
 ·refine⟨ho.1,?_⟩
  rcases ho.2 with hn|⟨g,cap,cur,e1,h1,rest⟩
  ·exact .inl hn
  ·exact .inr ⟨g,cap,cur,e1,by omega,rest⟩
 ·cases R
  ·rcases hr.out with ⟨h1,_⟩|⟨_,h2⟩
   ·exact absurd h1 (by decide)
   ·exact h2
  ·rcases hr.out with ⟨_,h2⟩|⟨h1,_⟩
   ·exact h2
   ·exact absurd h1 (by decide)
theorem zsX{tr rb:Nat}{e:TypeId}{size n:Nat}{v:Value}{xs:List Value}(hne:tr<rb):KpQ tr rb (fun V=>V.ownsRow (rb+1) e size v n xs):=fun W w' hl h hf=>zaA h (zni hf hne) (Nat.le_refl _)
set_option maxRecDepth 20000 in
theorem zqV(W:World)(tr rb:Nat)(ts:List Tok)(BC:Array Value)(I:World→Prop)(h:QS WZ en W tr rb ts BC I)(hc:KpQ tr rb I)(hsz:BC.size=15)(h11:BC[11]?=some (.slice none 0 0))(h12:BC[12]?=some (.int .i64 0))(h13:BC[13]?=some (.int .i64 0))(p14:Option Addr)(n14 c14:Nat)(h14:BC[14]?=some (.slice p14 n14 c14))(hn:n14≠0)(hn2:n14≤1000)(hl:ts.length≤400) :
  Calls Tryz.prog 25 #[.pointer (some ⟨rb,0,none⟩)] W fun e w'=>∃R:Bool,e=.returned (.bool R)∧Aside (QH WZ en w' tr rb (grU ts).2)∧Hid ((R=false∧(grU ts).1=none)∨(R=true∧∃gs gq gc z s,(grU ts).1=some (gs,z,s)∧QS WZ en w' tr rb (grU ts).2 (((BC.setIfInBounds 11 (.slice gq gs.length gc)).setIfInBounds 12 (.int .i64 z)).setIfInBounds 13 (.int .i64 s)) (fun V=>I V∧V.ownsRow (rb+1) 9 1 (.slice gq gs.length gc) gs.length (gs.map .string)))):=by
 have HS:Aside (QS WZ en W tr rb ts BC I):=h
 have hne:=h.qh.ne
 have hrl:=h.qh.lt
 have hc14:W.cell? ⟨rb,14,none⟩=some (.slice p14 n14 c14):=by rw[h.box.cell];exact h14
 have hnz:((n14:Int) == 0)=false:=by simp;omega
 obtain⟨R1,rs1,hj1⟩:=zaJ ziI ts
 have c1:=zdb ziI W tr rb ts h.qh R1 rs1 hj1
 have hs1:rs1 <:+ ts:=by have:=zdt ziI ts;rw[hj1] at this;exact this
 clear h h14
 cases R1
 ·have HA:Hid (grU ts=(none,rs1)):=by show _=_;rw[grU,zag hj1]
  go_enter Tryz.func25,Tryz.ntmps25
  go_wp2_with fail
  refine c1.mono ?_
  rintro e w1 ⟨rfl,Q1,F1⟩
  clear c1
  go_wp2
  go_ret
  refine⟨false,rfl,?_,.inl ⟨rfl,?_⟩⟩
  ·rw[HA.out];exact Q1
  ·rw[HA.out]
 obtain⟨R2,rs2,hj2⟩:=zaJ wBy rs1
 have hs2:rs2 <:+ rs1:=by have:=zdt wBy rs1;rw[hj2] at this;exact this
 have c2:=fun w1 (q:QH WZ en w1 tr rb rs1)=>zdb wBy w1 tr rb rs1 q R2 rs2 hj2
 cases R2
 ·have HA:Hid (grU ts=(none,rs2)):=by show _=_;rw[grU,zae hj1,zag hj2]
  go_enter Tryz.func25,Tryz.ntmps25
  go_wp2_with fail
  refine c1.mono ?_
  rintro e w1 ⟨rfl,Q1,F1⟩
  go_wp2_with fail
  refine (c2 w1 Q1.out).mono ?_
  rintro e w2 ⟨rfl,Q2,F2⟩
  clear c1 c2
  go_wp2
  go_ret
  refine⟨false,rfl,?_,.inl ⟨rfl,?_⟩⟩
  ·rw[HA.out];exact Q2
  ·rw[HA.out]
 have hl2:rs2.length≤400:=by have:=hs1.length_le;have:=hs2.length_le;omega
 have c3:=fun w2 (q:QS WZ en w2 tr rb rs2 BC I)=>zoE w2 tr rb rs2 BC I q hc hsz h11 hl2
 have HAg:Hid (grU ts=thU (sevU nU (rs2.length+1) [] rs2) fun g rs=>thU (jU zfW rs) fun _ rs=>thU (iU rs) fun z rs=>thU (slU z rs) fun s rs=>(some (g,z,s),rs)):=by show _=_;rw[grU,zae hj1,zae hj2]
 clear hj1 hj2
 go_enter Tryz.func25,Tryz.ntmps25
 go_wp2_with fail
 refine c1.mono ?_
 rintro e w1 ⟨rfl,Q1,F1⟩
 go_wp2_with fail
 refine (c2 w1 Q1.out).mono ?_
 rintro e w2 ⟨rfl,Q2,F2⟩
 have S2:=(HS.out.go hc F1.out Q1.out).go hc F2.out Q2.out
 clear c1 c2 Q1 F1 Q2 F2 HS
 go_wp2_with fail
 refine (c3 w2 S2).mono ?_
 rintro e w3 ⟨R3,gs,gq,gc,rfl,S3,HR3⟩
 clear c3 S2
 obtain⟨rs3,hrs3⟩:∃rs3,(sevU nU (rs2.length+1) [] rs2).2=rs3:=⟨_,rfl⟩
 have hsv:sevU nU (rs2.length+1) [] rs2=(if R3=true then some gs else none,rs3):=Prod.ext HR3.out hrs3
 rw[hrs3] at S3
 clear hrs3 HR3
 cases R3
 ·have HA:Hid (grU ts=(none,rs3)):=by show _=_;rw[HAg.out,zag hsv]
  go_wp2
  go_ret
  refine⟨false,rfl,?_,.inl ⟨rfl,?_⟩⟩
  ·rw[HA.out];exact S3.out.qh
  ·rw[HA.out]
 obtain⟨R4,rs4,hj4⟩:=zaJ zfW rs3
 have c4:=zdb zfW w3 tr rb rs3 S3.out.qh R4 rs4 hj4
 have hc3:=zqn hc (zsX (e:=9) (size:=1) (n:=gs.length) (v:=.slice gq gs.length gc) (xs:=gs.map .string) hne)
 cases R4
 ·have HA:Hid (grU ts=(none,rs4)):=by show _=_;rw[HAg.out,zae hsv,zag hj4]
  go_wp2_with fail
  refine c4.mono ?_
  rintro e w4 ⟨rfl,Q4,F4⟩
  clear c4
  go_wp2
  go_ret
  refine⟨false,rfl,?_,.inl ⟨rfl,?_⟩⟩
  ·rw[HA.out];exact Q4
  ·rw[HA.out]
 go_wp2_with fail
 refine c4.mono ?_
 rintro e w4 ⟨rfl,Q4,F4⟩
 have S4:=S3.out.go hc3 F4.out Q4.out
 have hrl4:=S4.qh.lt
 have c5:=zkl w4 tr rb rs4 S4.qh rb 12 _ 55 S4.box hne (by simp;omega) (fun _=>by decide)
 clear c4 Q4 F4 S3
 go_wp2_with fail
 refine c5.mono ?_
 rintro e w5 ⟨R5,z,rfl,Q5,F5,B5,HR5⟩
 have S5:=S4.put hc3 F5.out Q5.out B5.out
 clear c5 Q5 F5 B5 S4
 obtain⟨rs5,hrs5⟩:∃rs5,(iU rs4).2=rs5:=⟨_,rfl⟩
 have hiv:iU rs4=(if R5=true then some z else none,rs5):=Prod.ext HR5.out hrs5
 rw[hrs5] at S5
 clear hrs5 HR5
 cases R5
 ·have HA:Hid (grU ts=(none,rs5)):=by show _=_;rw[HAg.out,zae hsv,zae hj4,zag hiv]
  go_wp2
  go_ret
  refine⟨false,rfl,?_,.inl ⟨rfl,?_⟩⟩
  ·rw[HA.out];exact S5.qh
  ·rw[HA.out]
 have c6:=zrW w5 tr rb rs5 _ _ S5 hc3 (by simp;omega) z 0 (by rw[Array.getElem?_setIfInBounds,if_pos rfl,if_pos (by simp;omega)]) (by rw[Array.getElem?_setIfInBounds,if_neg (by decide),Array.getElem?_setIfInBounds,if_neg (by decide)];exact h13)
 clear S5
 go_wp2_with fail
 refine c6.mono ?_
 rintro e w6 ⟨R6,s,rfl,S6,HR6⟩
 obtain⟨rs6,hrs6⟩:∃rs6,(slU z rs5).2=rs6:=⟨_,rfl⟩
 have hsl:slU z rs5=(if R6=true then some s else none,rs6):=Prod.ext HR6.out hrs6
 rw[hrs6] at S6
 clear hrs6 HR6 c6
 have HA:Hid (grU ts=(if R6=true then some (gs,z,s) else none,rs6)):=by
  show _=_
  rw[HAg.out,zae hsv,zae hj4,zae hiv]
  cases R6
  ·rw[zag hsl];rfl
  ·rw[zae hsl];rfl
 go_wp2
 go_ret
 refine⟨R6,rfl,?_,?_⟩
 ·rw[HA.out];exact S6.out.qh
 ·rw[HA.out]
  cases R6
  ·exact .inl ⟨rfl,rfl⟩
  ·exact .inr ⟨rfl,gs,gq,gc,z,s,rfl,S6.out⟩
end
section
open Go.BigFrame
variable {en : Nat} {WZ : World}

theorem zmO(ts:List Tok):(asU ts).2 <:+ ts:=by
 obtain⟨R,rs,hj⟩:=zaJ wAs ts
 have hs:rs <:+ ts:=by have:=zdt wAs ts;rw[hj] at this;exact this
 cases R
 ·rw[asU,zag hj];exact hs
 ·rw[asU,zae hj];exact (zkg rs).trans hs
theorem zqf(ts:List Tok):(brU ts).2 <:+ ts:=by
 obtain⟨R,rs,hj⟩:=zaJ [40] ts
 have hs:rs <:+ ts:=by have:=zdt [40] ts;rw[hj] at this;exact this
 cases R
 ·rw[brU,zag hj];exact hs
 ·rw[brU,zae hj]
  cases h:(readE rs).1 with
  | none=>rw[zag (rs:=(readE rs).2) (Prod.ext h rfl)];exact (zbU rs).trans hs
  | some x =>
   rw[zae (x:=x) (rs:=(readE rs).2) (Prod.ext h rfl)]
   obtain⟨R2,rs2,hj2⟩:=zaJ [41] (readE rs).2
   have hs2:rs2 <:+ (readE rs).2:=by have:=zdt [41] (readE rs).2;rw[hj2] at this;exact this
   cases R2
   ·rw[zag hj2];exact hs2.trans ((zbU rs).trans hs)
   ·rw[zae hj2];exact hs2.trans ((zbU rs).trans hs)
theorem zga(w:List UInt8)(ts:List Tok):(argU w ts).2 <:+ ts:=by
 rw[argU]
 split
 ·exact List.suffix_rfl
 ·exact zqf ts
theorem zfZ(ts:List Tok):(aggU ts).2 <:+ ts:=by
 rw[aggU]
 cases h:nxT agB ts with
 | none=>exact List.suffix_rfl
 | some p =>
  obtain⟨t,rs⟩:=p
  have hs:=zgF h
  simp only
  cases h1:(argU t.2.1.data.toList rs).1 with
  | none=>rw[zag (rs:=(argU t.2.1.data.toList rs).2) (Prod.ext h1 rfl)];exact (zga _ rs).trans hs
  | some x =>
   rw[zae (x:=x) (rs:=(argU t.2.1.data.toList rs).2) (Prod.ext h1 rfl)]
   cases h2:(asU (argU t.2.1.data.toList rs).2).1 with
   | none=>rw[zag (rs:=(asU (argU t.2.1.data.toList rs).2).2) (Prod.ext h2 rfl)];exact (zmO _).trans ((zga _ rs).trans hs)
   | some n=>rw[zae (x:=n) (rs:=(asU (argU t.2.1.data.toList rs).2).2) (Prod.ext h2 rfl)];exact (zmO _).trans ((zga _ rs).trans hs)
theorem ztk(W:World)(tr rb:Nat)(ts:List Tok)(h:QH WZ en W tr rb ts) :
  Calls Tryz.prog 47 #[.pointer (some ⟨tr,0,none⟩),.func (.func 48) #[] #[]] W fun e w'=>e=.returned (.bool (nextB agB ts))∧Below W.heap.size W w':=by
 cases ts with
 | nil=>exact (zhC W tr _ h.rd).mono fun e w' hh=>⟨hh.1,by rw[hh.2];exact Below.refl _ _⟩
 | cons t ts=>exact zkj _ #[] zjw W tr t ts (agB t) h.rd (zjb t W h.aenv)
theorem zmf(W:World)(tr rb:Nat)(ts:List Tok)(BC:Array Value)(h:QS WZ en W tr rb ts BC (fun _=>True))(hsz:BC.size=15)(h14:BC[14]?=some (.slice none 0 0))(hl:ts.length≤400)(hb:nextB agB ts=true) :
  Calls Tryz.prog 22 #[.pointer (some ⟨rb,0,none⟩)] W fun e w'=>∃(R:Bool) (ls:List Ag) (aq:Option Addr) (ac:Nat),e=.returned (.bool R)∧Aside (QS WZ en w' tr rb (sevU aggU (ts.length+1) [] ts).2 (BC.setIfInBounds 14 (.slice aq ls.length ac)) (fun V=>zbs V (rb+1) (.slice aq ls.length ac) ls))∧Hid ((sevU aggU (ts.length+1) [] ts).1=if R=true then some ls else none):=by
 have hne:=h.qh.ne
 have hrl:=h.qh.lt
 have hp0:=h.qh.p0
 have cX:=ztk W tr rb ts h.qh
 rw[hb] at cX
 have cS:=fun w1 (q:QS WZ en w1 tr rb ts BC (fun _=>True))=>zhM (en:=en) (fun V ts ls=>AgS WZ en w1 V tr rb BC ts ls) aggU 50 zqy tr rb (fun V ts gs h=>h.qh) (fun V w' ts ts' gs h hf hq=>h.go hf hq) zfZ (fun V ts ls hS hl=>agg_q w1 V tr rb BC ts ls hS hl) w1 ts ⟨q.qh,⟨none,0,by rw[show (.slice none ([]:List Ag).length 0:Value)=.slice none 0 0 from rfl,zgO h14];exact q.box,ziR _ _⟩,Fr.refl _ _ _,by omega,q.qh.lt⟩ hl
 have HS:Aside (QS WZ en W tr rb ts BC (fun _=>True)):=h
 clear h hb
 go_enter Tryz.func22,Tryz.ntmps22
 go_wp2_with fail
 refine cX.mono ?_
 rintro e w1 ⟨rfl,b1⟩
 have s1:=b1.size
 have F1:Fr tr (fun _=>False) W w1:=Fr.of_below b1 (by omega)
 have S1:=HS.out.go (fun _ _ _ _ _=>trivial) F1 (HS.out.qh.fr F1 (HS.out.qh.rd.on b1) List.suffix_rfl (fun h=>h))
 have c2:=cS w1 S1
 clear cS cX HS S1 F1
 go_wp2_with fail
 refine c2.mono ?_
 rintro e w2 ⟨R,ls,rfl,hg,hr⟩
 clear c2
 obtain⟨aq,ac,hbx,ho⟩:=hg.out.box
 have SF:Aside (QS WZ en w2 tr rb (sevU aggU (ts.length+1) [] ts).2 (BC.setIfInBounds 14 (.slice aq ls.length ac)) (fun V=>zbs V (rb+1) (.slice aq ls.length ac) ls)):=by
  refine⟨hg.out.qh,hbx,?_⟩
  obtain⟨cs,h1,h2⟩:=ho
  refine⟨cs,⟨h1.1,?_⟩,fun j hj=>?_⟩
  ·rcases h1.2 with hn|⟨g,cap,cur,e1,hB,rest⟩
   ·exact .inl hn
   ·exact .inr ⟨g,cap,cur,e1,by omega,rest⟩
  ·obtain⟨ap,ac',e0,e1,e2,e3,e4,e5,e6,e7,e8,hx⟩:=h2 j hj
   exact⟨ap,ac',e0,e1,e2,e3,e4,e5,e6,e7,e8,ExIn.low (fun b _ hb=>⟨by have:=hb.1;omega,hb.2⟩) _ _ hx⟩
 have HR:Hid ((sevU aggU (ts.length+1) [] ts).1=if R=true then some ls else none):=by
  show _=_
  cases R
  ·rcases hr.out with ⟨h1,_⟩|⟨_,h2⟩
   ·exact absurd h1 (by decide)
   ·exact h2
  ·rcases hr.out with ⟨_,h2⟩|⟨h1,_⟩
   ·exact h2
   ·exact absurd h1 (by decide)
 clear hg hr hbx ho
 go_wp2
 go_ret
 exact⟨R,ls,aq,ac,rfl,SF,HR⟩
end
section
open Go.BigFrame
variable {en : Nat} {WZ : World}

theorem zgQ{α:Type}{part:List Tok→Option α×List Tok}(hs:∀ts,(part ts).2 <:+ ts):∀(k:Nat) (acc:List α) (ts:List Tok) (l:List α),(sevU part k acc ts).1=some l→acc.length<l.length∧l.length≤acc.length+ts.length+1
 | 0,acc,ts,l,h=>by rw[sevU] at h;exact absurd h (by simp)
 | k+1,acc,ts,l,h=>by
  cases hp:(part ts).1 with
  | none=>rw[zeH (rs:=(part ts).2) (Prod.ext hp rfl)] at h;exact absurd h (by simp)
  | some x =>
   have hle:=(hs ts).length_le
   cases hn:nxT (sgT [[44]]) (part ts).2 with
   | none =>
    rw[zeI (x:=x) (rs:=(part ts).2) (Prod.ext hp rfl) hn] at h
    have:acc++[x]=l:=by simpa using h
    subst this
    simp
   | some q =>
    obtain⟨t,rs⟩:=q
    rw[zeJ (x:=x) (rs:=(part ts).2) (Prod.ext hp rfl) hn] at h
    have h2:=zgQ hs k _ _ _ h
    have h3:rs.length+1=(part ts).2.length:=by rw[(zal hn).1];simp
    simp at h2
    omega
theorem zkK{α:Type}{part:List Tok→Option α×List Tok}(hs:∀ts,(part ts).2 <:+ ts):∀(k:Nat) (acc:List α) (ts:List Tok),(sevU part k acc ts).2 <:+ ts
 | 0,acc,ts=>by rw[sevU];exact List.suffix_rfl
 | k+1,acc,ts=>by
  cases hp:(part ts).1 with
  | none=>rw[zeH (rs:=(part ts).2) (Prod.ext hp rfl)];exact hs ts
  | some x =>
   cases hn:nxT (sgT [[44]]) (part ts).2 with
   | none=>rw[zeI (x:=x) (rs:=(part ts).2) (Prod.ext hp rfl) hn];exact hs ts
   | some q =>
    obtain⟨t,rs⟩:=q
    rw[zeJ (x:=x) (rs:=(part ts).2) (Prod.ext hp rfl) hn]
    exact (zkK hs k _ _).trans ((zgF hn).trans (hs ts))
abbrev qb0(tr:Nat):Array Value:=#[.pointer (some ⟨tr,0,none⟩),.string ⟨#[]⟩,.string ⟨#[]⟩,.string ⟨#[]⟩,.int .i64 0,.int .i64 0,.string ⟨#[]⟩,.slice none 0 0,.int .i64 0,.slice none 0 0,.slice none 0 0,.slice none 0 0,.int .i64 0,.int .i64 0,.slice none 0 0]
abbrev qbX(tr:Nat)(f:ByteArray)(x:Ex)(xp:Option Addr)(xc:Nat)(c n g:Value)(z s:Int)(a:Value):Array Value:=#[.pointer (some ⟨tr,0,none⟩),.string f,.string x.op,.string x.nm,.int .i64 x.vt,.int .i64 x.vn,.string x.vs,.slice xp x.args.length xc,.int .i64 x.pos,c,n,g,.int .i64 z,.int .i64 s,a]
theorem qb_0(tr:Nat):qb0 tr=qbX tr ⟨#[]⟩ ex0 none 0 (.slice none 0 0) (.slice none 0 0) (.slice none 0 0) 0 0 (.slice none 0 0):=rfl
section
variable (tr : Nat) (f f' : ByteArray) (x y : Ex) (xp yp : Option Addr) (xc yc : Nat) (c n g a v : Value) (z s k : Int)
theorem qb_14:(qbX tr f x xp xc c n g z s a).setIfInBounds 14 v=qbX tr f x xp xc c n g z s v:=by simp only[qbX,List.setIfInBounds_toArray,List.set_cons_zero,List.set_cons_succ]
theorem qb_11:(qbX tr f x xp xc c n g z s a).setIfInBounds 11 v=qbX tr f x xp xc c n v z s a:=by simp only[qbX,List.setIfInBounds_toArray,List.set_cons_zero,List.set_cons_succ]
theorem qb_12:(qbX tr f x xp xc c n g z s a).setIfInBounds 12 (.int .i64 k)=qbX tr f x xp xc c n g k s a:=by simp only[qbX,List.setIfInBounds_toArray,List.set_cons_zero,List.set_cons_succ]
theorem qb_13:(qbX tr f x xp xc c n g z s a).setIfInBounds 13 (.int .i64 k)=qbX tr f x xp xc c n g z k a:=by simp only[qbX,List.setIfInBounds_toArray,List.set_cons_zero,List.set_cons_succ]
theorem qb_1:(qbX tr f x xp xc c n g z s a).setIfInBounds 1 (.string f')=qbX tr f' x xp xc c n g z s a:=by simp only[qbX,List.setIfInBounds_toArray,List.set_cons_zero,List.set_cons_succ]
theorem qb_w:putB (qbX tr f x xp xc c n g z s a) 2 (exL y yp yc)=qbX tr f y yp yc c n g z s a:=by simp only[putB,qbX,List.setIfInBounds_toArray,List.set_cons_zero,List.set_cons_succ,Nat.reduceAdd]
end
abbrev qbC(tr:Nat)(q:Qy)(wp:Option Addr)(wc:Nat)(cp:Option Addr)(cc:Nat)(np:Option Addr)(nc:Nat)(gp:Option Addr)(gc:Nat)(ap:Option Addr)(ac:Nat):Array Value :=
 #[.pointer (some ⟨tr,0,none⟩),.string q.frm,.string q.whr.op,.string q.whr.nm,.int .i64 q.whr.vt,.int .i64 q.whr.vn,.string q.whr.vs,.slice wp q.whr.args.length wc,.int .i64 q.whr.pos,.slice cp q.cols.length cc,.slice np q.names.length nc,.slice gp q.group.length gc,.int .i64 q.size,.int .i64 q.slide,.slice ap q.aggs.length ac]
def QFin(W:World)(tr rb:Nat)(q:Qy):Prop:=∃wp wc cp cc np nc gp gc ap ac,Blk W rb (qbC tr q wp wc cp cc np nc gp gc ap ac) 55∧QyBe W (rb+1≤·) q wp wc cp cc np nc gp gc ap ac∧(cp=none→cc=0)∧q.cols.length≤401∧q.aggs.length≤401
theorem zsW{tr rb:Nat}{v:Value}{xs:List Ag}(hne:tr<rb):KpQ tr rb (fun V=>zbs V (rb+1) v xs):=fun W w' hl h hf=>h.keepB (zni hf hne) (Nat.le_refl _)
theorem zqU{ts:List Tok}{gs:List ByteArray}{z s:Int}(h:(grU ts).1=some (gs,z,s)):gs.length≤ts.length+1:=by
 rw[grU] at h
 obtain⟨R1,rs1,hj1⟩:=zaJ ziI ts
 have l1:rs1.length≤ts.length:=by have:=(zdt ziI ts).length_le;rw[hj1] at this;exact this
 cases R1
 ·rw[zag hj1] at h;exact absurd h (by simp)
 rw[zae hj1] at h
 obtain⟨R2,rs2,hj2⟩:=zaJ wBy rs1
 have l2:rs2.length≤rs1.length:=by have:=(zdt wBy rs1).length_le;rw[hj2] at this;exact this
 cases R2
 ·rw[zag hj2] at h;exact absurd h (by simp)
 rw[zae hj2] at h
 cases hs:(sevU nU (rs2.length+1) [] rs2).1 with
 | none=>rw[zag (rs:=(sevU nU (rs2.length+1) [] rs2).2) (Prod.ext hs rfl)] at h;exact absurd h (by simp)
 | some g =>
  have l3:=(zgQ zkg _ _ _ _ hs).2
  rw[zae (x:=g) (rs:=(sevU nU (rs2.length+1) [] rs2).2) (Prod.ext hs rfl)] at h
  obtain⟨R4,rs4,hj4⟩:=zaJ zfW (sevU nU (rs2.length+1) [] rs2).2
  cases R4
  ·rw[zag hj4] at h;exact absurd h (by simp)
  rw[zae hj4] at h
  cases hi:(iU rs4).1 with
  | none=>rw[zag (rs:=(iU rs4).2) (Prod.ext hi rfl)] at h;exact absurd h (by simp)
  | some k =>
   rw[zae (x:=k) (rs:=(iU rs4).2) (Prod.ext hi rfl)] at h
   cases hk:(slU k (iU rs4).2).1 with
   | none=>rw[zag (rs:=(slU k (iU rs4).2).2) (Prod.ext hk rfl)] at h;exact absurd h (by simp)
   | some m =>
    rw[zae (x:=m) (rs:=(slU k (iU rs4).2).2) (Prod.ext hk rfl)] at h
    have e:g=gs:=by
     have:=(Option.some.inj h)
     exact (Prod.mk.inj this).1
    subst e
    simp at l3
    omega
set_option maxRecDepth 20000 in
theorem zmq(W:World)(tr rb:Nat)(ts rs1:List Tok)(h:QS WZ en W tr rb ts (qb0 tr) (fun _=>True))(hl:ts.length≤400)(hj:jU zdV ts=(some (),rs1))(hnb:nextB agB rs1=true) :
  Calls Tryz.prog 8 #[.pointer (some ⟨rb,0,none⟩)] W fun e w'=>∃R:Bool,e=.returned (.bool R)∧Aside (QH WZ en w' tr rb (qTwoU rs1).2)∧Hid ((R=false∧(qTwoU rs1).1=none)∨(R=true∧∃q,(qTwoU rs1).1=some q∧QFin w' tr rb q)):=by
 have hne:=h.qh.ne
 have hrl:=h.qh.lt
 have c1:=zdb zdV W tr rb ts h.qh true rs1 hj
 have hl1:rs1.length≤400:=by have:=(zdt zdV ts).length_le;rw[hj] at this;simp only at this;omega
 have HS:Aside (QS WZ en W tr rb ts (qb0 tr) (fun _=>True)):=h
 have c2:=fun w1 (q:QS WZ en w1 tr rb rs1 (qb0 tr) (fun _=>True))=>zmf w1 tr rb rs1 (qb0 tr) q rfl rfl hl1 hnb
 clear h hj hnb
 go_enter Tryz.func8,Tryz.ntmps8
 go_wp2_with fail
 refine c1.mono ?_
 rintro e w1 ⟨rfl,Q1,F1⟩
 have c2':=c2 w1 (HS.out.go (fun _ _ _ _ _=>trivial) F1.out Q1.out)
 clear c1 c2 HS Q1 F1
 go_wp2_with fail
 refine c2'.mono ?_
 rintro e w2 ⟨R2,ls,aq,ac,rfl,S2,HR2⟩
 have hk2:=zsW (v:=.slice aq ls.length ac) (xs:=ls) hne
 clear c2'
 obtain⟨rs2,hrs2⟩:∃rs2,(sevU aggU (rs1.length+1) [] rs1).2=rs2:=⟨_,rfl⟩
 have hsv:sevU aggU (rs1.length+1) [] rs1=(if R2=true then some ls else none,rs2):=Prod.ext HR2.out hrs2
 have hl2:rs2.length≤400:=by rw[←hrs2];have:=(zkK zfZ (rs1.length+1) [] rs1).length_le;omega
 rw[hrs2,qb_0,qb_14] at S2
 clear hrs2 HR2
 cases R2
 ·have HA:Hid (qTwoU rs1=(none,rs2)):=by show _=_;rw[qTwoU,zag hsv]
  go_wp2
  go_ret
  refine⟨false,rfl,?_,.inl ⟨rfl,?_⟩⟩
  ·rw[HA.out];exact S2.out.qh
  ·rw[HA.out]
 have hln:=zgQ zfZ (rs1.length+1) [] rs1 ls (by rw[hsv];rfl)
 simp at hln
 obtain⟨R3,rs3,hj3⟩:=zaJ wFrom rs2
 have hl3:rs3.length≤400:=by have:=(zdt wFrom rs2).length_le;rw[hj3] at this;simp only at this;omega
 have c3:=zdb wFrom w2 tr rb rs2 S2.out.qh R3 rs3 hj3
 cases R3
 ·have HA:Hid (qTwoU rs1=(none,rs3)):=by show _=_;rw[qTwoU,zae hsv,frU,zag hj3];try rfl
  go_wp2_with fail
  refine c3.mono ?_
  rintro e w3 ⟨rfl,Q3,F3⟩
  clear c3
  go_wp2
  go_ret
  refine⟨false,rfl,?_,.inl ⟨rfl,?_⟩⟩
  ·rw[HA.out];exact Q3
  ·rw[HA.out]
 go_wp2_with fail
 refine c3.mono ?_
 rintro e w3 ⟨rfl,Q3,F3⟩
 have S3:=S2.out.go hk2 F3.out Q3.out
 have hrl3:=S3.qh.lt
 have c4:=zoU w3 tr rb rs3 S3.qh rb 1 _ 55 S3.box hne (show 1<15 by decide) (fun _=>Nat.le_refl _)
 clear c3 Q3 F3 S2
 go_wp2_with fail
 refine c4.mono ?_
 rintro e w4 ⟨R4,fr,rfl,Q4,F4,B4,HR4⟩
 have S4:=S3.put hk2 F4.out Q4.out B4.out
 clear c4 Q4 F4 B4 S3
 obtain⟨rs4,hrs4⟩:∃rs4,(nU rs3).2=rs4:=⟨_,rfl⟩
 have hnv:nU rs3=(if R4=true then some fr else none,rs4):=Prod.ext HR4.out hrs4
 have hl4:rs4.length≤400:=by rw[←hrs4];have:=(zkg rs3).length_le;omega
 rw[hrs4,qb_1] at S4
 clear hrs4 HR4
 cases R4
 ·have HA:Hid (qTwoU rs1=(none,rs4)):=by show _=_;rw[qTwoU,zae hsv,frU,zae hj3,zag hnv];try rfl
  go_wp2
  go_ret
  refine⟨false,rfl,?_,.inl ⟨rfl,?_⟩⟩
  ·rw[HA.out];exact S4.qh
  ·rw[HA.out]
 have c5:=zsD w4 tr rb rs4 _ _ S4 hk2 rfl (qb_w ..)
 clear S4
 go_wp2_with fail
 refine c5.mono ?_
 rintro e w5 ⟨R5,x,xp,xc,rfl,S5,HR5⟩
 clear c5
 obtain⟨rs5,hrs5⟩:∃rs5,(whU rs4).2=rs5:=⟨_,rfl⟩
 have hwv:whU rs4=(if R5=true then some x else none,rs5):=Prod.ext HR5.out hrs5
 have hl5:rs5.length≤400:=by rw[←hrs5];have:=(zsB rs4).length_le;omega
 rw[hrs5,qb_w] at S5
 clear hrs5 HR5
 cases R5
 ·have HA:Hid (qTwoU rs1=(none,rs5)):=by show _=_;rw[qTwoU,zae hsv,frU,zae hj3,zae hnv,zag hwv];try rfl
  go_wp2
  go_ret
  refine⟨false,rfl,?_,.inl ⟨rfl,?_⟩⟩
  ·rw[HA.out];exact S5.out.qh
  ·rw[HA.out]
 have HF:Hid (frU rs2=(some (fr,x),rs5)):=by show _=_;rw[frU,zae hj3,zae hnv,zae hwv];try rfl
 have htr:tr<rb+1:=by omega
 have hk5:=zqn hk2 (cl_ex (tr:=tr) (rb:=rb) (B:=rb+1) (v:=exV x xp xc) (x:=x) htr (Nat.lt_succ_self rb))
 have c6:=zqV w5 tr rb rs5 _ _ S5.out hk5 rfl rfl rfl rfl aq ls.length ac rfl (by omega) (by omega) hl5
 clear S5
 go_wp2_with fail
 refine c6.mono ?_
 rintro e w6 ⟨R6,rfl,Q6,HR6⟩
 clear c6
 cases R6
 ·have hgn:(grU rs5).1=none:=by
   rcases HR6.out with ⟨-,h⟩|⟨h,-⟩
   ·exact h
   ·exact absurd h (by decide)
  have HA:Hid (qTwoU rs1=(none,(grU rs5).2)):=by show _=_;rw[qTwoU,zae hsv,zae HF.out,zag (rs:=(grU rs5).2) (Prod.ext hgn rfl)]
  clear HR6
  go_wp2
  go_ret
  refine⟨false,rfl,?_,.inl ⟨rfl,?_⟩⟩
  ·rw[HA.out];exact Q6
  ·rw[HA.out]
 ·obtain⟨gs,gq,gc,z,s,hgs,S6⟩:∃gs gq gc z s,(grU rs5).1=some (gs,z,s)∧_:=by
   rcases HR6.out with ⟨h,-⟩|⟨-,h⟩
   ·exact absurd h (by decide)
   ·exact h
  have HA:Hid (qTwoU rs1=(some ⟨fr,x,[],[],gs,z,s,ls⟩,(grU rs5).2)):=by show _=_;rw[qTwoU,zae hsv,zae HF.out,zae (x:=(gs,z,s)) (rs:=(grU rs5).2) (Prod.ext hgs rfl)]
  rw[qb_11,qb_12,qb_13] at S6
  have FIN:Aside (QFin w6 tr rb ⟨fr,x,[],[],gs,z,s,ls⟩):=by
   refine⟨xp,xc,none,0,none,0,gq,gc,aq,ac,S6.box,⟨S6.inv.1.2,zba _ _,Nat.zero_le _,StsA.nil _,?_,?_⟩,fun _=>rfl,Nat.zero_le _,(show ls.length≤401 by omega)⟩
   ·have hgl:gs.length≤1048576:=by
     have:=zqU hgs
     omega
    exact znx rfl hgl S6.inv.2
   ·exact zbs.is S6.inv.1.1 (by simp only;omega)
  clear HR6 S6 hgs
  go_wp2
  go_ret
  refine⟨true,rfl,?_,.inr ⟨rfl,_,?_,FIN.out⟩⟩
  ·rw[HA.out];exact Q6
  ·rw[HA.out]
end
section
open Go.BigFrame
variable {en : Nat}

theorem zrl(m:Int)(W:World):Sem.run Tryz.prog (binOp .eql 45 .nilIface (.iface 35 (.int .i64 m))) W=.ok (.bool false) W:=by kernel_rfl
theorem zoW(m:Int)(W:World)(j k:Nat):Sem.run Tryz.prog (eqGuard .eql 45 (.tmp j) (.tmp k) .nilIface (.iface 35 (.int .i64 m))) W=.ok () W:=by kernel_rfl
set_option maxRecDepth 20000 in
theorem zme(m:Int)(w:World) :
  Calls Tryz.prog 12 #[.nilIface,.iface 35 (.int .i64 m)] w fun e w'=>e=.returned (.bool false)∧w'=w:=by
 have e1:=zrl m
 have e2:=zoW m
 go_enter Tryz.func12,Tryz.ntmps12
 go_wp2
 go_ret
 exact⟨rfl,rfl⟩
def ckB(x:Ex):Bool:=ckP x == 4
theorem zpg(x:Ex)(lo:Nat→Prop)(v:Value)(w:World)(henv:TEnv w)(hx:ExIn w lo v x)(hsz:(x.pre 1).length≤1048576) :
  Calls Tryz.prog 11 #[v] w fun e w'=>e=.returned (.bool (ckB x))∧Below w.heap.size w w':=by
 have b1:=fun o=>(Below.refl w.heap.size w).alloc (Nat.le_refl _) o
 have cC:=fun o=>zji x lo v (w.alloc o) (henv.on (b1 o)) (hx.on (b1 o)) hsz
 obtain⟨xp,xc,hxe,-⟩:=id hx.whole
 subst hxe
 rw[ckB]
 clear hx henv
 generalize ckP x=K at cC
 obtain⟨op,nm,vt,vn,vs,pos,l⟩:=x
 simp only[Ex.op,Ex.nm,Ex.vt,Ex.vn,Ex.vs,Ex.args,Ex.pos] at cC ⊢
 generalize l.length=NL at cC ⊢
 by_cases hK:K=0
 ·subst hK
  have cI:=fun W=>zme 4 W
  rw[errV,if_pos rfl] at cC
  go_enter Tryz.func11,Tryz.ntmps11
  go_wp2_with fail
  refine (cC _).mono ?_
  rintro e w1 ⟨rfl,b2⟩
  go_wp2_with fail
  refine (cI _).mono ?_
  rintro e w2 ⟨rfl,rfl⟩
  clear cC cI
  go_wp2
  go_ret
  exact⟨rfl,(b1 _).trans (b2.mono (by simp))⟩
 ·have cI:=fun W=>zbx K 4 W
  rw[errV,if_neg hK] at cC
  go_enter Tryz.func11,Tryz.ntmps11
  go_wp2_with fail
  refine (cC _).mono ?_
  rintro e w1 ⟨rfl,b2⟩
  go_wp2_with fail
  refine (cI _).mono ?_
  rintro e w2 ⟨rfl,rfl⟩
  clear cC cI
  go_wp2
  go_ret
  exact⟨rfl,(b1 _).trans (b2.mono (by simp))⟩
theorem zop(args:Array Value)(W:World):Sem.run Tryz.prog (callFunc 11 args) W=.ok (.enter 11 args) W:=by kernel_rfl
set_option maxRecDepth 20000 in
theorem zlV(lo:Nat→Prop)(p:Option Addr)(n c:Nat)(l:List Ex)(w:World)(henv:TEnv w)(hn:l.length=n)(h:zaq w lo (.slice p n c) l)(hz:∀x∈l,(x.pre 1).length≤1048576)(h100:n≤2000) :
  Calls Tryz.prog 32 #[.slice p n c,.func (.func 11) #[] #[]] w fun e w'=>(∃k:Int,e=.returned (.int .i64 k)∧Hid (decide (0≤k)=l.any ckB))∧Below w.heap.size w w':=by
 have HS:Aside (zaq w lo (.slice p n c) l):=h
 have HN:Hid (l.length=n):=hn
 have HE:Aside (TEnv w):=henv
 have HZ:=(show Aside _ from hz)
 obtain⟨R,hR⟩:∃R,l.any ckB=R:=⟨_,rfl⟩
 have HR:Hid (l.any ckB=R):=hR
 have hent:=zop
 rw[hR]
 clear h hn hR henv hz
 go_enter Tryz.func32,Tryz.ntmps32
 go_wp2
 go_loopg [5,8] n (fun gg _ s8 wr=>∃kk:Nat,kk≤n∧n-kk≤gg∧s8=.int .i64 kk∧Aside (Below w.heap.size w wr)∧Hid ((l.drop kk).any ckB=R))
 case atStart=>exact⟨0,Nat.zero_le _,by omega,rfl,(show Aside _ from Below.refl _ _),HR⟩
 case round =>
  obtain⟨kk,hkk,hg,rfl,BW,A⟩:=hrel
  clear HR
  by_cases hlt:kk<n
  ·have hltz:(kk:Int)<(n:Int):=by omega
   have h0z:(0:Int)≤(kk:Int):=by omega
   have hk2:kk<l.length:=by rw[HN.out];exact hlt
   obtain⟨ba,oa,yp,yc,rfl,hbl,-,hrg,hx⟩:=zez HS.out hk2
   have hrg2:=zdn hrg hbl BW.out
   have cP:=zpg l[kk] lo _ wr (HE.out.on BW.out) (hx.on BW.out) (HZ.out _ (List.getElem_mem hk2))
   have hd:l.drop kk=l[kk]::l.drop (kk+1):=List.drop_eq_getElem_cons hk2
   have HD:Hid ((ckB l[kk]||(l.drop (kk+1)).any ckB)=R):=by show _=_;rw[←A.out,hd,List.any_cons]
   clear hd A hx hrg
   generalize ckB l[kk]=CB at cP HD
   generalize l[kk]=x at cP hrg2
   obtain⟨op,nm,vt,vn,vs,pos,as'⟩:=x
   simp only[exV,Ex.op,Ex.nm,Ex.vt,Ex.vn,Ex.vs,Ex.args,Ex.pos] at cP hrg2
   generalize as'.length=NL at cP hrg2
   have hld:∀{ops:Array Oper} {rest:List Oper} {op':Oper} {a:Act} {Q:Exit→Act→World→Prop} (hgd:op'.guard=none) (x:Operand) (ho:op'.op=.load 31 x) (hx:a.eval x=.pointer (some ⟨ba,oa+kk*7,none⟩)),wpList Tryz.prog ops Q rest (a.put op'.dst (.agg #[.string op,.string nm,.int .i64 vt,.int .i64 vn,.string vs,.slice yp NL yc,.int .i64 pos])) wr→wpList Tryz.prog ops Q (op'::rest) a wr:=fun hgd x ho hx=>wpList_load_mid hgd 31 x ho ba (oa+kk*7) hx _ _ hrg2 Tryz.underlying31 rfl zbf
   clear hrg2
   go_wp2_with (refine hld rfl _ rfl rfl ?_)
   go_wp2_with fail
   refine cP.mono ?_
   rintro e w1 ⟨rfl,b1⟩
   have B1:Aside (Below w.heap.size w w1):=BW.out.trans (b1.mono BW.out.size)
   clear hld cP BW b1
   cases CB
   ·have HD2:Hid ((l.drop (kk+1)).any ckB=R):=by show _=_;rw[←HD.out];rfl
    clear HD
    go_wp2
    go_roundg (n-(kk+1))
    case measure=>omega
    case rel=>exact⟨kk+1,by omega,by omega,by go_num,B1,HD2⟩
   ·have hR:R=true:=by rw[←HD.out];rfl
    subst hR
    clear HD
    go_wp2
    go_ret
    exact⟨⟨kk,rfl,by show _=_;simp⟩,B1.out⟩
  ·have hltz:¬(kk:Int)<(n:Int):=by omega
   have hR:R=false:=by rw[←A.out,List.drop_eq_nil_of_le (by rw[HN.out];omega)];rfl
   subst hR
   clear A
   go_wp2
   go_ret
   exact⟨⟨-1,rfl,(show ((-1:Int)<0) by decide)⟩,BW.out⟩
theorem zgl(lo:Nat→Prop)(p:Option Addr)(n c:Nat)(l:List Ex)(w:World)(henv:TEnv w)(hn:l.length=n)(h:zaq w lo (.slice p n c) l)(hz:∀x∈l,(x.pre 1).length≤1048576)(h100:n≤2000) :
  Calls Tryz.prog 14 #[.slice p n c,.func (.func 11) #[] #[]] w fun e w'=>e=.returned (.bool (l.any ckB))∧Below w.heap.size w w':=by
 have cI:=zlV lo p n c l w henv hn h hz h100
 generalize l.any ckB=R at cI
 clear h hn henv hz
 go_enter Tryz.func14,Tryz.ntmps14
 go_wp2_with fail
 refine cI.mono ?_
 rintro e w' ⟨⟨k,rfl,HR⟩,b1⟩
 go_wp2
 go_ret
 exact⟨zaE HR.out,b1⟩
end
section
open Go.BigFrame
variable {en : Nat}

def ExCs(w:World)(lo:Nat→Prop)(cs:List Value)(l:List Ex):Prop:=cs.length=l.length*7∧∀j (h:j<l.length),∃yp yc,(∀d v,(exL l[j] yp yc)[d]?=some v→cs[j*7+d]?=some v)∧ExIn w lo (exV l[j] yp yc) l[j]
theorem ExCs.nil(w:World)(lo:Nat→Prop):ExCs w lo [] []:=⟨rfl,fun j h=>absurd h (Nat.not_lt_zero _)⟩
theorem ExCs.one{w:World}{lo:Nat→Prop}{x:Ex}{xp:Option Addr}{xc:Nat}(h:ExIn w lo (exV x xp xc) x):ExCs w lo (exL x xp xc) [x]:=⟨rfl,fun j hj=>by
 obtain rfl:j=0:=by simp at hj;omega
 exact⟨xp,xc,fun d v hv=>by simpa using hv,h⟩⟩
theorem ExCs.app{w:World}{lo:Nat→Prop}{c1 c2:List Value}{l1 l2:List Ex}(h1:ExCs w lo c1 l1)(h2:ExCs w lo c2 l2):ExCs w lo (c1++c2) (l1++l2):=by
 refine⟨by rw[List.length_append,List.length_append,h1.1,h2.1];omega,fun j hj=>?_⟩
 rw[List.length_append] at hj
 have e7:∀(x:Ex) (yp:Option Addr) (yc d:Nat) (v:Value),(exL x yp yc)[d]?=some v→d<7:=fun x yp yc d v hv=>by have:=(List.getElem?_eq_some_iff.1 hv).1;simpa using this
 by_cases hl:j<l1.length
 ·obtain⟨yp,yc,h3,h4⟩:=h1.2 j hl
  simp only[List.getElem_append_left hl]
  refine⟨yp,yc,fun d v hv=>?_,h4⟩
  have:=e7 _ _ _ _ _ hv
  rw[List.getElem?_append_left (by have:=h1.1;omega)]
  exact h3 d v hv
 ·obtain⟨yp,yc,h3,h4⟩:=h2.2 (j-l1.length) (by omega)
  simp only[List.getElem_append_right (by omega:l1.length≤j)]
  refine⟨yp,yc,fun d v hv=>?_,h4⟩
  have hq:=h3 d v hv
  rw[List.getElem?_append_right (by have:=h1.1;omega)]
  rw[show j*7+d-c1.length=(j-l1.length)*7+d by have:=h1.1;omega]
  exact hq
theorem zho{w:World}{lo:Nat→Prop}{b:Nat}:∀(l:List Ex) (off:Nat),ExsIn w lo b off l→∃news:List Value,ExCs w lo news l∧(∀j u,news[j]?=some u→w.cell? ⟨b,off+j,none⟩=some u)∧(∀u∈news,u.oneCell'=true)
 | [],off,h=>⟨[],ExCs.nil _ _,fun j u hu=>by simp at hu,fun u hu=>by cases hu⟩
 | x::xs,off,h=>by
  rw[ExsIn] at h
  obtain⟨⟨v0,v1,v2,v3,v4,v5,v6,c0,c1,c2,c3,c4,c5,c6,hx⟩,hr⟩:=h
  obtain⟨yp,yc,hw,-⟩:=hx.whole
  injection hw with hw
  simp only[Array.mk.injEq,List.cons.injEq,and_true] at hw
  obtain⟨rfl,rfl,rfl,rfl,rfl,rfl,rfl⟩:=hw
  obtain⟨news,h1,h2,h3⟩:=zho xs (off+7) hr
  refine⟨exL x yp yc++news,(ExCs.one hx).app h1,fun j u hu=>?_,fun u hu=>?_⟩
  ·by_cases hj:j<7
   ·rw[List.getElem?_append_left (by simpa using hj)] at hu
    have:j=0∨j=1∨j=2∨j=3∨j=4∨j=5∨j=6:=by omega
    rcases this with rfl|rfl|rfl|rfl|rfl|rfl|rfl
    all_goals (simp at hu;subst hu;assumption)
   ·rw[List.getElem?_append_right (by simp;omega)] at hu
    have:=h2 _ u hu
    rw[show off+7+(j-(exL x yp yc).length)=off+j by simp;omega] at this
    exact this
  ·rcases List.mem_append.1 hu with h|h
   ·exact znb _ _ _ u h
   ·exact h3 u h
theorem ExCs.is{w W:World}{lo:Nat→Prop}{B:Nat}{v:Value}{cs:List Value}{l:List Ex}(h:ExCs w lo cs l)(hb:Below w.heap.size w W)(ho:W.ownsRow B 31 7 v l.length cs):zaq W (fun b=>lo b∨B≤b) v l:=by
 rcases id ho.2 with ⟨rfl,e⟩|⟨g,cap,cur,rfl,hB,hg,hm,hx,hs,ht⟩
 ·exact⟨none,0,by rw[e],⟨by omega,by omega⟩,.inl e⟩
 ·refine⟨some ⟨g,0,none⟩,cap,rfl,⟨by omega,hm⟩,.inr ⟨g,0,rfl,(Array.getElem?_eq_some_iff.1 hg).1,.inr hB,zby _ _ _ _ _ fun j hj=>?_⟩⟩
  obtain⟨yp,yc,h1,h2⟩:=h.2 j hj
  have k:∀d u,(exL l[j] yp yc)[d]?=some u→W.cell? ⟨g,0+(j*7+d),none⟩=some u:=fun d u hu=>by
   have:=ho.cells (g:=g) rfl _ u (h1 d u hu)
   rw[Go.WideShapes.add_plain] at this
   exact this
  have k':∀d u,(exL l[j] yp yc)[d]?=some u→W.cell? ⟨g,0+j*7+d,none⟩=some u:=fun d u hu=>by rw[Nat.add_assoc];exact k d u hu
  exact⟨_,_,_,_,_,_,_,k' 0 _ rfl,k' 1 _ rfl,k' 2 _ rfl,k' 3 _ rfl,k' 4 _ rfl,k' 5 _ rfl,k' 6 _ rfl,ExIn.low (fun b _ hb=>.inl hb) _ _ (h2.on hb)⟩
theorem zry(w:World)(B:Nat)(x:Ex)(xp:Option Addr)(xc g:Nat)(hg:g=w.heap.size)(hB:B≤g):(w.alloc (.cells (exL x xp xc).toArray 31)).ownsRow B 31 7 (.slice (some ⟨g,0,none⟩) 1 1) 1 (exL x xp xc):=by
 subst hg
 exact⟨rfl,.inr ⟨w.heap.size,1,_,rfl,hB,zbb w _ _,Nat.le_refl _,by decide,rfl,rfl⟩⟩
end
end Go.Proofs.YtbdnccnfidjiaaaGreatDoor
