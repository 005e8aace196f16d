/-
  ColV, StA, WdA, WdC, ConS, ClO, CfI.
-/
import Derived.Test.YtbdnccnfidjiaaaGreatDoorGyAg
import Derived.Test.YtbdnccnfidjiaaaGreatDoorGyAc
import Derived.OwnWalk
import Derived.Laws.AppendOwnNone
import Derived.Laws.OwnMore
import Derived.WalkSmall
import Derived.BigQuiet
import Derived.Deep.QuietTactic
import Derived.Deep.LoopGhost
import Derived.Lib.OthersKept
import Derived.Test.YtbdnccnfidjiaaaGreatDoorGyAh
import Derived.Lib.AppendZerosOnto
namespace Go.Proofs.YtbdnccnfidjiaaaGreatDoor
open Go.RowKit
set_option linter.unusedVariables false
set_option linter.unusedSimpArgs false
set_option maxHeartbeats 8000000
def ColsV(w:World)(v:Value)(zs:List (ByteArray×Int)):Prop:=∃q c,v=.slice q zs.length c∧(zs.length=0∨∃b off,q=some ⟨b,off,none⟩∧zs.length≤c∧(∀z∈zs,z.1.size≤maxLen)∧zbn w b off zs)
theorem ColsV.on{w w':World}{v:Value}{zs:List (ByteArray×Int)}(h:ColsV w v zs)(hb:Below w.heap.size w w'):ColsV w' v zs:=by
 obtain⟨q,c,e,h⟩:=h
 refine⟨q,c,e,?_⟩
 rcases h with h|⟨b,off,e2,h1,h2,h3⟩
 ·exact .inl h
 ·exact .inr ⟨b,off,e2,h1,h2,h3.on hb⟩
theorem zkH(v:Value)(zs:List (ByteArray×Int))(w:World)(hw:TW w)(h:ColsV w v zs):Calls Tryz.prog 61 #[v] w fun e w'=>e=.returned (errV (schE zs))∧Below w.heap.size w w':=by
 obtain⟨q,c,rfl,h⟩:=h
 rcases h with h|⟨b,off,rfl,h1,h2,h3⟩
 ·rw[h,schE,if_pos h]
  exact (zdQ q c w).mono fun e w' hh=>⟨hh.1,by rw[hh.2];exact Below.refl _ _⟩
 ·exact zkI b off c zs w hw h1 h2 h3
theorem zel:(Tryz.prog.info? 9).map (fun i=>(i.zero,i.size,i.bytes))=some (some (.string ⟨#[]⟩),1,16):=by kernel_rfl
def StsA(w:World)(v:Value)(ts:List ByteArray):Prop:=∃p c,v=.slice p ts.length c∧(ts.length≤c∧ts.length≤1048576)∧(p=none→c=0)∧∀a,p=some a→ts.length=0∨∃g off,a=⟨g,off,none⟩∧g<w.heap.size∧∀j (h:j<ts.length),w.cell? ⟨g,off+j,none⟩=some (.string ts[j])
theorem StsA.on{w w':World}{v:Value}{ts:List ByteArray}(h:StsA w v ts)(hb:Below w.heap.size w w'):StsA w' v ts:=by
 obtain⟨p,c,e,h1,h2,h3⟩:=h
 refine⟨p,c,e,h1,h2,fun a ha=>?_⟩
 rcases h3 a ha with h0|⟨g,off,e2,h5,h6⟩
 ·exact .inl h0
 ·exact .inr ⟨g,off,e2,by have:=hb.size;omega,fun j hj=>by rw[hb.cell (p:=⟨g,off+j,none⟩) h5];exact h6 j hj⟩
theorem StsA.nil(w:World):StsA w (.slice none 0 0) []:=⟨none,0,rfl,⟨Nat.le_refl _,Nat.zero_le _⟩,fun _=>rfl,fun a h=>nomatch h⟩
theorem znx{w:World}{B:Nat}{v:Value}{n:Nat}{ts:List ByteArray}(hn:ts.length=n)(hl:n≤1048576)(h:w.ownsRow B 9 1 v n (ts.map .string)):StsA w v ts:=by
 subst hn
 rcases id h.2 with ⟨rfl,e⟩|⟨g,cap,cur,rfl,hb,hg,hm,hx,hs,ht⟩
 ·exact⟨none,0,by rw[e],⟨by omega,by omega⟩,fun _=>rfl,fun a ha=>nomatch ha⟩
 ·refine⟨some ⟨g,0,none⟩,cap,rfl,⟨by omega,hl⟩,(fun hp=>nomatch hp),fun a ha=>?_⟩
  injection ha with ha
  subst ha
  refine .inr ⟨g,0,rfl,(Array.getElem?_eq_some_iff.1 hg).1,fun j hj=>?_⟩
  have:=h.cells (g:=g) rfl j (.string ts[j]) (by rw[List.getElem?_map,List.getElem?_eq_getElem hj];rfl)
  rw[Go.WideShapes.add_plain] at this
  exact this
theorem zeM{w:World}{q:Option Addr}{n c m:Nat}{bs:List ByteArray}(h:StsA w (.slice q n c) bs)(hm:m<bs.length):∃g off,q=some ⟨g,off,none⟩∧g<w.heap.size∧∀j (h:j<bs.length),w.cell? ⟨g,off+j,none⟩=some (.string bs[j]):=by
 obtain⟨p',c',e,⟨h1,h64⟩,h2,h3⟩:=h
 injection e with e1 e2 e3
 subst e1 e3
 cases q with
 | none=>have:=h2 rfl;omega
 | some a =>
  rcases h3 a rfl with h0|⟨g,off,rfl,h5,h6⟩
  ·omega
  ·exact⟨g,off,rfl,h5,h6⟩
theorem zlx(a:Addr):a.add 0=a:=by cases a;simp[Addr.add]
theorem ziA{w:World}{p:Option Addr}{n c l:Nat}{ts:List ByteArray}(h:StsA w (.slice p n c) ts)(hn:ts.length=n)(hl:l≤n):∃p1 c1,(∀W,Sem.run Tryz.prog (Instr.slice 23 (.slice p n c) none (some (.int .i64 (l:Int))) none) W=.ok (.slice p1 l c1) W)∧StsA w (.slice p1 l c1) (ts.take l):=by
 subst hn
 obtain⟨p',c',e,⟨h1,h64⟩,h2,h3⟩:=h
 injection e with e1 e2 e3
 subst e1 e3
 have hr:∀W,Sem.run Tryz.prog (Instr.slice 23 (.slice p ts.length c) none (some (.int .i64 (l:Int))) none) W=.ok (sliced p 0 l c 1) W:=fun W=>by
  have g0:(0:Int)≤(l:Int):=by omega
  have g1:(l:Int)≤(c:Int):=by omega
  have g2:Sem.run Tryz.prog (Go.sizeOf (Tryz.prog.elem 23)) W=.ok 1 W:=by kernel_rfl
  rw[run_slice_h W 23 p ts.length c (by kernel_rfl) .i64 l g0 g1,g2]
  rfl
 have hlen:(ts.take l).length=l:=by rw[List.length_take];omega
 refine⟨p,c,fun W=>?_,p,c,by rw[hlen],⟨by omega,by omega⟩,h2,fun a ha=>?_⟩
 ·rw[hr W,sliced]
  cases p with
  | none=>simp
  | some a=>simp[zlx]
 ·rcases h3 a ha with h0|⟨g,off,e2,h5,h6⟩
  ·exact .inl (by omega)
  refine .inr ⟨g,off,e2,h5,fun j hj=>?_⟩
  rw[List.getElem_take]
  exact h6 j (by omega)
theorem zaX{w:World}{ops:Array Oper}{rest:List Oper}{o:Oper}{a:Act}{Q:Exit→Act→World→Prop}(hgd:o.guard=none)(s x:Operand)
  (ho:o.op=.call { callee:=.builtin .append,args:=#[s,x],argTypes:=#[23,23] })
  (base:Nat)(v:Value)(n:Nat)(xs:List ByteArray)(hs:a.eval s=v)(hown:w.ownsRow base 9 1 v n (xs.map .string))
  (u:Value)(ts:List ByteArray)(hx:a.eval x=u)(hst:StsA w u ts)(n':Nat)(cs':List Value)(hn':n+ts.length=n')(hcs:(xs++ts).map .string=cs')(hsm:n'≤1048576)(hbase:base≤w.heap.size)
  (h:∀v' w',w'.ownsRow base 9 1 v' n' cs'→Below base w w'→wpList Tryz.prog ops Q rest (a.put o.dst v') w'):wpList Tryz.prog ops Q (o::rest) a w:=by
 subst hn' hcs
 obtain⟨i0,hi,hz0,hz1,hzz⟩:=info_parts zel
 obtain⟨p,c,rfl,h1,h2,h3⟩:=hst
 cases p with
 | none =>
  have hc:=h2 rfl
  subst hc
  have hl:ts.length=0:=by omega
  have:ts=[]:=List.length_eq_zero_iff.1 hl
  subst this
  refine wpList_append_own_none hgd s x 23 ho base 9 i0 1 Tryz.underlying23 hi v n (xs.map .string) hs hown hx (h v w ?_ (Below.refl _ _))
  simpa using hown
 | some ad =>
  refine wpList_append_own w hgd s x 23 ho base 9 i0 (.string ⟨#[]⟩) 1 16 Tryz.underlying23 hi hz0 hz1 hzz rfl (by decide) v n (xs.map .string) hs hown ad ts.length c (ts.map .string) hx (by simp) (fun j y hy=>?_) (fun y hy=>?_) (by unfold maxLen;omega) (by omega) hbase (fun v' w' o1 o2 _=>?_)
  ·rw[List.getElem?_map] at hy
   obtain⟨t,ht,rfl⟩:=Option.map_eq_some_iff.1 hy
   obtain⟨hj,rfl⟩:=List.getElem?_eq_some_iff.1 ht
   rcases h3 ad rfl with h0|⟨g,off,rfl,h5,h6⟩
   ·omega
   ·rw[Go.WideShapes.add_plain]
    exact h6 j hj
  ·rw[List.mem_map] at hy
   obtain⟨t,_,rfl⟩:=hy
   rfl
  ·refine h v' w' ?_ ((Below.refl _ w).grown o2 hbase (fun j hj=>(hown.lt j hj).1))
   rw[List.map_append];exact o1
theorem zsf(w:World)(s:ByteArray)(g:Nat)(hg:g=w.heap.size):StsA (w.alloc (.cells #[.string s] 9)) (.slice (some ⟨g,0,none⟩) 1 1) [s]:=by
 subst hg
 refine⟨_,1,rfl,⟨Nat.le_refl _,by simp⟩,(fun hp=>nomatch hp),fun a ha=>?_⟩
 injection ha with ha
 subst ha
 refine .inr ⟨w.heap.size,0,rfl,by simp,fun j hj=>?_⟩
 obtain rfl:j=0:=by simp at hj;omega
 rw[World.cell?_alloc_at _ _ _ _ rfl];rfl
theorem zgV{w:World}{v:Value}{ts:List ByteArray}(h:StsA w v ts):∃q c,v=.slice q ts.length c:=by
 obtain⟨p,c,e,-⟩:=h
 exact⟨p,c,e⟩
theorem zht:(Tryz.prog.info? 3).map (fun i=>(i.zero,i.size,i.bytes))=some (some (.int .i64 0),1,8):=by kernel_rfl
def intC(ts:List Int):List Value:=ts.map fun t=>.int .i64 t
def IntA(w:World)(v:Value)(ts:List Int):Prop:=∃p c,v=.slice p ts.length c∧(ts.length≤c∧ts.length≤1048576)∧(p=none→c=0)∧∀a,p=some a→∃g off,a=⟨g,off,none⟩∧g<w.heap.size∧∀j (h:j<ts.length),w.cell? ⟨g,off+j,none⟩=some (.int .i64 ts[j])
theorem IntA.on{w w':World}{v:Value}{ts:List Int}(h:IntA w v ts)(hb:Below w.heap.size w w'):IntA w' v ts:=by
 obtain⟨p,c,e,h1,h2,h3⟩:=h
 refine⟨p,c,e,h1,h2,fun a ha=>?_⟩
 obtain⟨g,off,e2,h5,h6⟩:=h3 a ha
 exact⟨g,off,e2,by have:=hb.size;omega,fun j hj=>by rw[hb.cell (p:=⟨g,off+j,none⟩) h5];exact h6 j hj⟩
theorem IntA.nil(w:World):IntA w (.slice none 0 0) []:=⟨none,0,rfl,⟨Nat.le_refl _,Nat.zero_le _⟩,fun _=>rfl,fun a h=>nomatch h⟩
theorem zjY{w:World}{B:Nat}{v:Value}{n:Nat}{ts:List Int}(hn:ts.length=n)(hl:n≤1048576)(h:w.ownsRow B 3 1 v n (intC ts)):IntA w v ts:=by
 subst hn
 rcases id h.2 with ⟨rfl,e⟩|⟨g,cap,cur,rfl,hb,hg,hm,hx,hs,ht⟩
 ·exact⟨none,0,by rw[e],⟨by omega,by omega⟩,fun _=>rfl,fun a ha=>nomatch ha⟩
 ·refine⟨some ⟨g,0,none⟩,cap,rfl,⟨by omega,hl⟩,(fun hp=>nomatch hp),fun a ha=>?_⟩
  injection ha with ha
  subst ha
  refine⟨g,0,rfl,(Array.getElem?_eq_some_iff.1 hg).1,fun j hj=>?_⟩
  have:=h.cells (g:=g) rfl j (.int .i64 ts[j]) (by rw[intC,List.getElem?_map,List.getElem?_eq_getElem hj];rfl)
  rw[Go.WideShapes.add_plain] at this
  exact this
def inM(x:Int):Prop:=-9223372036854775808≤x∧x≤9223372036854775807
def ChkC:Prop:=∀(size slide:Int) (w:World),inM size→inM slide→Calls Tryz.prog 95 #[.int .i64 size,.int .i64 slide] w fun e w'=>e=.returned (errV (wdE size slide))∧Below w.heap.size w w'
def StC:Prop:=∀(at_ size slide:Int) (w:World),inM at_→inM size→inM slide→Calls Tryz.prog 105 #[.int .i64 at_,.int .i64 size,.int .i64 slide] w fun e w'=>(∃u,e=.returned (.tuple #[u,errV (stE at_ size slide)])∧IntA w' u (if stE at_ size slide=0 then stP at_ size slide else []))∧Below w.heap.size w w'
theorem zpa:¬(1:Int)=0:=by decide
theorem zhT{size slide:Int}(h:wdB size slide):wdE size slide=0:=by rw[wdE,if_pos h]
theorem zlr{size slide:Int}(h:¬wdB size slide):wdE size slide=1:=by rw[wdE,if_neg h]
theorem zsd{at_ size slide:Int}(h:wdB size slide)(h2:0≤at_∧at_≤1000000):stE at_ size slide=0:=by rw[stE,if_pos ⟨h,h2⟩]
theorem zpv{at_ size slide:Int}(h:¬(wdB size slide∧0≤at_∧at_≤1000000)):stE at_ size slide=1:=by rw[stE,if_neg h]
theorem zjP(w:World) :
  Calls Tryz.prog 161 #[.slice none 0 0,.int .i64 0] w fun e w'=>e=.returned (.slice none 0 0)∧w'=w:=by
 go_enter Tryz.func161,Tryz.ntmps161
 go_wp2
 go_ret
 exact⟨rfl,rfl⟩
theorem zjO(n:Nat)(w:World)(h0:0<n)(hn:n≤1048576) :
  Calls Tryz.prog 161 #[.slice none 0 0,.int .i64 n] w fun e w'=>(∃v,e=.returned v∧Aside (w'.ownsRow w.heap.size 9 1 v 0 []))∧Below w.heap.size w w':=by
 obtain⟨i0,hi,hz0,hz1,hzz⟩:=info_parts zel
 have hold:(Builtin.firstCells i0.size 0 (.slice none 0 0)).run Tryz.prog w.drew=.ok #[] w.drew:=run_firstCells_none w.drew i0.size 0 0 0
 have hrz:=fun ty=>Lib.run_append_grow_zeros w 23 3 ty 9 i0 (.string ⟨#[]⟩) .i64 .i64 Tryz.underlying23 Tryz.underlying3 hi hz0 none 0 0 [] hold n (by omega) (by omega) (by omega) (by omega) (by rw[hzz];omega) (by rw[Nat.zero_add];exact growslice_fits h0 (by rw[hzz];omega))
 rw[Nat.zero_add] at hrz
 have hG0:=grownCap_ge w n 0 9
 have hGm:=grownCap_le_maxLen w n 0 9 (by unfold maxLen;omega)
 generalize grownCap w n 0 9=G at hrz hG0 hGm
 have hG2:=hGm
 unfold maxLen at hG2
 have hOw:=World.ownsRow_made (base:=w.heap.size) (e:=9) (size:=1) w.drew (#[]++Builtin.zeroCells (Value.string ⟨#[]⟩).cells n++Builtin.zeroCells (Value.string ⟨#[]⟩).cells (G-n)) G (Nat.le_refl _) hGm (by simp[size_zeroCells,Value.cells];omega)
 have hBe:Below w.heap.size w (w.drew.alloc (.cells (#[]++Builtin.zeroCells (Value.string ⟨#[]⟩).cells n++Builtin.zeroCells (Value.string ⟨#[]⟩).cells (G-n)) 9)):=((Below.refl _ w).drew).alloc (Nat.le_refl _) _
 generalize #[]++Builtin.zeroCells (Value.string ⟨#[]⟩).cells n++Builtin.zeroCells (Value.string ⟨#[]⟩).cells (G-n)=CC at hrz hOw hBe
 have z1:¬((n:Int)<0):=by omega
 have z2:(0:Int)<(n:Int):=by omega
 have HO:Aside ((w.drew.alloc (.cells CC 9)).ownsRow w.heap.size 9 1 (.slice (some ⟨w.heap.size,0,none⟩) 0 G) 0 []):=hOw
 clear hold hi hz0 hz1 hzz hOw
 go_enter Tryz.func161,Tryz.ntmps161
 go_wp2_with (at_builtin;refine Lib.wpList_append_run _ rfl _ _ _ _ rfl _ _ rfl rfl _ _ (hrz _) ?_)
 go_ret
 exact⟨⟨_,rfl,HO⟩,hBe⟩
theorem zlT(n:Nat)(w:World)(hn:n≤1048576) :
  Calls Tryz.prog 161 #[.slice none 0 0,.int .i64 n] w fun e w'=>(∃v,e=.returned v∧Aside (w'.ownsRow w.heap.size 9 1 v 0 []))∧Below w.heap.size w w':=by
 rcases Nat.eq_zero_or_pos n with rfl|h0
 ·refine (zjP w).mono ?_
  rintro e w' ⟨rfl,rfl⟩
  exact⟨⟨_,rfl,(show Aside _ from World.ownsRow_nil _ _ _ _)⟩,Below.refl _ _⟩
 ·exact zjO n w h0 hn
def zhV(w:World)(sb so:Nat)(ps:List (List ByteArray)):Prop:=sb<w.heap.size∧∀j (h:j<ps.length),∃v,w.cell? ⟨sb,so+j,none⟩=some v∧StsA w v ps[j]
theorem zhV.on{w w':World}{sb so:Nat}{ps:List (List ByteArray)}(h:zhV w sb so ps)(hb:Below w.heap.size w w'):zhV w' sb so ps :=
 ⟨by have:=hb.size;have:=h.1;omega,fun j hj=>by
  obtain⟨v,h1,h2⟩:=h.2 j hj
  exact⟨v,by rw[hb.cell (p:=⟨sb,so+j,none⟩) h.1];exact h1,h2.on hb⟩⟩
def lenS(ps:List (List ByteArray))(k:Nat):Nat:=(ps.take k).flatten.length
def stT(ps:List (List ByteArray))(k:Nat):List Value:=(ps.take k).flatten.map .string
theorem zhy{ps:List (List ByteArray)}{k:Nat}(h:k<ps.length):lenS ps (k+1)=lenS ps k+ps[k].length:=by
 unfold lenS
 rw[List.take_succ_eq_append_getElem h,List.flatten_append,List.length_append]
 simp
theorem znk(ps:List (List ByteArray))(k:Nat):lenS ps k≤ps.flatten.length:=by
 unfold lenS
 conv=>rhs;rw[←List.take_append_drop k ps,List.flatten_append,List.length_append]
 omega
set_option maxRecDepth 20000 in
theorem zib(sb so sc n:Nat)(ps:List (List ByteArray))(w:World)(hn:ps.length=n)(h:zhV w sb so ps)(hl:ps.flatten.length≤1048576)(hn2:n≤1048576) :
  Calls Tryz.prog 125 #[.slice (some ⟨sb,so,none⟩) n sc] w fun e w'=>(∃v,e=.returned v∧Aside (w'.ownsRow w.heap.size 9 1 v ps.flatten.length (stT ps n)))∧Below w.heap.size w w':=by
 have HP:Aside (zhV w sb so ps):=h
 have HN:Hid (ps.length=n):=hn
 have HL:Hid (ps.flatten.length≤1048576):=hl
 have hsb:=h.1
 obtain⟨FL,hFL⟩:∃FL,ps.flatten.length=FL:=⟨_,rfl⟩
 have cG:=zlT FL w (by omega)
 have HFL:Hid (ps.flatten.length=FL):=hFL
 rw[hFL]
 clear h hn hl hFL
 have hnz:(n:Int)≤1048576:=by omega
 go_enter Tryz.func125,Tryz.ntmps125
 go_wp2
 go_loopg [3,5,11] n (fun gg s3 _ s11 wr=>∃kk:Nat,kk≤n∧n-kk≤gg∧s11=.int .i64 (kk:Int)∧s3=.int .i64 (lenS ps kk:Int)∧wr=w)
 case atStart=>exact⟨0,Nat.zero_le _,by omega,rfl,rfl,rfl⟩
 case round =>
  obtain⟨kk,hkk,hgk,rfl,rfl,hwq⟩:=hrel
  obtain rfl:w=_:=hwq.symm
  by_cases hlt:kk<n
  ·have hltz:(kk:Int)<(n:Int):=by omega
   have h0z:(0:Int)≤(kk:Int):=by omega
   have hkp:kk<ps.length:=by rw[HN.out];exact hlt
   obtain⟨v,hcv,hsv⟩:=HP.out.2 kk hkp
   obtain⟨p,c,rfl⟩:=zgV hsv
   have hsu:=zhy hkp
   have hle:=znk ps (kk+1)
   have hl2:=HL.out
   have HSU:Hid (lenS ps (kk+1)=lenS ps kk+ps[kk].length):=hsu
   have hz1:(lenS ps kk:Int)+(ps[kk].length:Int)≤1048576:=by omega
   have hz2:¬(lenS ps kk:Int)+(ps[kk].length:Int)<0:=by omega
   clear hsv
   generalize ps[kk].length=pl at hcv hz1 hz2 HSU
   clear hsu hle hl2
   go_wp2
   go_roundg (n-(kk+1))
   case measure=>omega
   case rel=>exact⟨kk+1,by omega,by omega,by go_num,by rw[HSU.out];go_num,rfl⟩
  ·have hltz:¬(kk:Int)<(n:Int):=by omega
   obtain rfl:kk=n:=by omega
   have hll:lenS ps kk=FL:=by
    unfold lenS
    rw[List.take_of_length_le (by rw[HN.out];exact Nat.le_refl _)]
    exact HFL.out
   rw[hll]
   clear hll
   go_wp2_with fail
   refine cG.mono ?_
   rintro e w1 ⟨⟨v,rfl,OW⟩,b1⟩
   have hs1:=b1.size
   clear cG
   go_wp2
   go_loopg [6,8,27] kk (fun gg s6 _ s27 wr=>∃(jj:Nat) (u:Value),jj≤kk∧kk-jj≤gg∧s27=.int .i64 (jj:Int)∧s6=u∧Aside (wr.ownsRow w.heap.size 9 1 u (lenS ps jj) (stT ps jj))∧Aside (Below w.heap.size w wr))
   case atStart=>exact⟨0,v,Nat.zero_le _,by omega,rfl,rfl,(show Aside _ from OW.out),(show Aside _ from b1)⟩
   case round =>
    obtain⟨jj,u,hjj,hgj,rfl,hu,OJ,BJ⟩:=hrel
    obtain rfl:u=_:=hu.symm
    have hbs:=BJ.out.size
    by_cases hlt:jj<kk
    ·have hltz2:(jj:Int)<(kk:Int):=by omega
     have h0z:(0:Int)≤(jj:Int):=by omega
     have hkp:jj<ps.length:=by rw[HN.out];exact hlt
     obtain⟨pv,hcv,hiv⟩:=(HP.out.on BJ.out).2 jj hkp
     have hsbr:sb<wr.heap.size:=by omega
     have hsm:lenS ps (jj+1)≤1048576:=by have:=znk ps (jj+1);have:=HL.out;omega
     have HT:Hid ((ps.take jj).flatten++ps[jj]=(ps.take (jj+1)).flatten):=by
      show _=_
      rw[List.take_succ_eq_append_getElem hkp,List.flatten_append]
      simp
     have HS:Hid (lenS ps (jj+1)=lenS ps jj+ps[jj].length):=zhy hkp
     obtain⟨p,c,rfl⟩:=zgV hiv
     have HIV:Aside (StsA wr (.slice p ps[jj].length c) ps[jj]):=hiv
     generalize ps[jj]=pj at hcv HT HS HIV
     clear hiv
     go_wp2_with (at_builtin;refine zaX rfl _ _ rfl w.heap.size u _ (ps.take jj).flatten rfl OJ.out _ pj rfl HIV.out (lenS ps (jj+1)) (stT ps (jj+1)) HS.out.symm (by rw[HT.out];rfl) hsm hbs ?_)
     intro v' w2 ho hb
     have O2:Aside (w2.ownsRow w.heap.size 9 1 v' (lenS ps (jj+1)) (stT ps (jj+1))):=ho
     have B2:Aside (Below w.heap.size w w2):=BJ.out.trans hb
     clear ho hb OJ BJ HIV
     go_wp2
     go_roundg (kk-(jj+1))
     case measure=>omega
     case rel=>exact⟨jj+1,v',by omega,by omega,by go_num,rfl,O2,B2⟩
    ·have hltz2:¬(jj:Int)<(kk:Int):=by omega
     obtain rfl:jj=kk:=by omega
     have O2:Aside (wr.ownsRow w.heap.size 9 1 u FL (stT ps jj)):=by
      show World.ownsRow _ _ _ _ _ _ _
      have:=OJ.out
      unfold lenS at this
      rw[List.take_of_length_le (by rw[HN.out];exact Nat.le_refl _),HFL.out] at this
      exact this
     have B2:=BJ.out
     clear OJ BJ
     go_wp2
     go_ret
     exact⟨⟨u,rfl,O2⟩,B2⟩
theorem zsa(ps:List (List ByteArray)):stT ps ps.length=ps.flatten.map .string:=by rw[stT,List.take_length]
def colC(zs:List (ByteArray×Int)):List Value:=zs.flatMap fun z=>[.string z.1,.int .i64 z.2]
theorem zhj(zs:List (ByteArray×Int))(z:ByteArray×Int):colC (zs++[z])=colC zs++[.string z.1,.int .i64 z.2]:=by simp[colC]
theorem zmY:∀(zs:List (ByteArray×Int)) (j:Nat) (h:j<zs.length),(colC zs)[j*2]?=some (.string zs[j].1)∧(colC zs)[j*2+1]?=some (.int .i64 zs[j].2)
 | [],j,h=>absurd h (Nat.not_lt_zero _)
 | z::zs,0,h=>⟨rfl,rfl⟩
 | z::zs,j+1,h=>by
  have:=zmY zs j (by simpa using h)
  rw[show (j+1)*2=j*2+2 by omega]
  simp only[colC,List.flatMap_cons,List.cons_append,List.nil_append,List.getElem?_cons_succ,List.getElem_cons_succ] at this ⊢
  exact this
theorem zma:(Tryz.prog.info? 25).map (fun i=>(i.zero,i.size,i.bytes))=some (some (.agg #[.string ⟨#[]⟩,.int .i64 0]),2,24):=by kernel_rfl
theorem zjo{W:World}{B:Nat}{v:Value}{n:Nat}{zs:List (ByteArray×Int)}(hn:zs.length=n)(hz:∀z∈zs,z.1.size≤maxLen)(h:W.ownsRow B 25 2 v n (colC zs)):ColsV W v zs:=by
 subst hn
 rcases id h.2 with ⟨rfl,e⟩|⟨g,cap,cur,rfl,hb,hg,hm,hx,hs,ht⟩
 ·exact⟨none,0,by rw[e],.inl e⟩
 ·refine⟨_,cap,rfl,.inr ⟨g,0,rfl,by omega,hz,(Array.getElem?_eq_some_iff.1 hg).1,fun j hj=>?_⟩⟩
  obtain⟨c1,c2⟩:=zmY zs j hj
  have h1:=h.cells (g:=g) rfl _ _ c1
  have h2:=h.cells (g:=g) rfl _ _ c2
  rw[Go.WideShapes.add_plain] at h1 h2
  exact⟨h1,h2⟩
theorem zcz{w:World}{ops:Array Oper}{rest:List Oper}{o:Oper}{a:Act}{Q:Exit→Act→World→Prop}(hgd:o.guard=none)(s x:Operand)
  (ho:o.op=.call { callee:=.builtin .append,args:=#[s,x],argTypes:=#[26,26] })
  (base:Nat)(v:Value)(n:Nat)(zs:List (ByteArray×Int))(hs:a.eval s=v)(hown:w.ownsRow base 25 2 v n (colC zs))
  (g c:Nat)(nm:ByteArray)(t:Int)(hx:a.eval x=.slice (some ⟨g,0,none⟩) 1 c)(hc0:w.cell? ⟨g,0,none⟩=some (.string nm))(hc1:w.cell? ⟨g,1,none⟩=some (.int .i64 t))
  (cs':List Value)(hcs:colC (zs++[(nm,t)])=cs')(hsm:n≤1000)(hbase:base≤w.heap.size)
  (h:∀v' w',w'.ownsRow base 25 2 v' (n+1) cs'→Below base w w'→wpList Tryz.prog ops Q rest (a.put o.dst v') w'):wpList Tryz.prog ops Q (o::rest) a w:=by
 subst hcs
 obtain⟨i0,hi,hz0,hz1,hzz⟩:=info_parts zma
 refine wpList_append_own w hgd s x 26 ho base 25 i0 _ 2 24 Tryz.underlying26 hi hz0 hz1 hzz rfl (by decide) v n (colC zs) hs hown ⟨g,0,none⟩ 1 c [.string nm,.int .i64 t] hx rfl (fun j y hy=>?_) (fun y hy=>?_) (by unfold maxLen;omega) (by omega) hbase (fun v' w' o1 o2 _=>?_)
 ·rw[Go.WideShapes.add_plain]
  have hj:j<2:=by have:=(List.getElem?_eq_some_iff.1 hy).1;simpa using this
  have:j=0∨j=1:=by omega
  rcases this with rfl|rfl
  ·have e:Value.string nm=y:=by simpa using hy
   subst e;exact hc0
  ·have e:Value.int .i64 t=y:=by simpa using hy
   subst e;exact hc1
 ·have:y=.string nm∨y=.int .i64 t:=by simpa using hy
  rcases this with rfl|rfl<;>rfl
 ·refine h v' w' ?_ ((Below.refl _ w).grown o2 hbase (fun j hj=>(hown.lt j hj).1))
  rw[zhj];exact o1
section
open Go.BigFrame
set_option maxRecDepth 20000 in
theorem zjR(fn:FuncId)(hent:∀(args:Array Value) (W:World),Sem.run Tryz.prog (callFunc fn args) W=.ok (.enter fn args) W)(caps:Array Value)(u:Value)(ts:List Int)(P:Int→Bool)(w:World)(hu:IntA w u ts)
  (hc:∀t∈ts,∀W,Below w.heap.size w W→Calls Tryz.prog fn (#[.int .i64 t]++caps) W fun e w'=>e=.returned (.bool (P t))∧Below W.heap.size W w') :
  Calls Tryz.prog 171 #[u,.func (.func fn) #[] caps] w fun e w'=>(∃i,e=.returned (.int .i64 i)∧((0≤i∧ts.any P=true)∨(i=-1∧ts.any P=false)))∧Below w.heap.size w w':=by
 obtain⟨p,c,rfl,⟨hl1,hl2⟩,hnil,hcell⟩:=hu
 obtain⟨N,hN⟩:∃N,ts.length=N:=⟨_,rfl⟩
 have HN:Hid (ts.length=N):=hN
 have HC:Aside _:=hc
 have HCE:Aside _:=hcell
 rw[hN] at hl1 hl2 ⊢
 have hnz:(N:Int)≤1048576:=by omega
 clear hc hcell hN
 go_enter Tryz.func171,Tryz.ntmps171
 go_wp2
 go_loopg [5,8] N (fun gg _ s8 wr=>∃kk:Nat,kk≤N∧N-kk≤gg∧s8=.int .i64 (kk:Int)∧Hid ((ts.take kk).any P=false)∧Aside (Below w.heap.size w wr))
 case atStart=>exact⟨0,Nat.zero_le _,by omega,rfl,(show Hid _ from rfl),(show Aside _ from Below.refl _ _)⟩
 case round =>
  obtain⟨kk,hkk,hg,rfl,HA,BW⟩:=hrel
  by_cases hlt:kk<N
  ·have hltz:(kk:Int)<(N:Int):=by omega
   have h0z:(0:Int)≤(kk:Int):=by omega
   have hlt2:kk<ts.length:=by rw[HN.out];exact hlt
   have hcap:c≠0:=by omega
   cases p with
   | none=>exact absurd (hnil rfl) hcap
   | some a =>
   obtain⟨g,off,rfl,hgl,hce⟩:=HCE.out a rfl
   have hck:=hce kk hlt2
   rw[←BW.out.cell (p:=⟨g,off+kk,none⟩) hgl] at hck
   have cC:=HC.out ts[kk] (List.getElem_mem hlt2) wr BW.out
   have HS:Hid ((ts.take (kk+1)).any P=((ts.take kk).any P||P ts[kk])):=by
    show _=_
    rw[List.take_succ_eq_append_getElem hlt2,List.any_append];simp
   have HD:Hid (P ts[kk]=true→ts.any P=true):=fun h=>List.any_eq_true.2 ⟨ts[kk],List.getElem_mem hlt2,h⟩
   clear hce
   generalize ts[kk]=y at *
   generalize P y=Q at *
   cases Q
   ·go_wp2_with fail
    refine cC.mono ?_
    rintro e w1 ⟨rfl,b1⟩
    have HE2:Hid ((ts.take (kk+1)).any P=false):=by show _=_;rw[HS.out,HA.out];rfl
    have BW2:Aside (Below w.heap.size w w1):=BW.out.trans (b1.mono BW.out.size)
    clear cC HS HD HA BW b1 hck
    go_wp2
    go_roundg (N-(kk+1))
    case measure=>omega
    case rel=>exact⟨kk+1,by omega,by omega,by go_num,HE2,BW2⟩
   ·go_wp2_with fail
    refine cC.mono ?_
    rintro e w1 ⟨rfl,b1⟩
    have BW2:Aside (Below w.heap.size w w1):=BW.out.trans (b1.mono BW.out.size)
    have hT:ts.any P=true:=HD.out (by first|rfl|trivial)
    have HT:Hid (ts.any P=true):=hT
    clear cC HS HD HA BW b1 hck hT
    go_wp2
    go_ret
    exact⟨⟨_,rfl,.inl ⟨h0z,HT.out⟩⟩,BW2.out⟩
  ·have hltz:¬(kk:Int)<(N:Int):=by omega
   have HT:Hid (ts.any P=false):=by
    show _=_
    have h:=HA.out
    rwa [List.take_of_length_le (by rw[HN.out];omega)] at h
   clear HA
   go_wp2
   go_ret
   exact⟨⟨_,rfl,.inr ⟨rfl,by have h:=HT.out;first|exact h|(simpa using h)⟩⟩,BW.out⟩
set_option maxRecDepth 20000 in
theorem zfi(fn:FuncId)(hent:∀(args:Array Value) (W:World),Sem.run Tryz.prog (callFunc fn args) W=.ok (.enter fn args) W)(caps:Array Value)(u:Value)(ts:List Int)(P:Int→Bool)(w:World)(hu:IntA w u ts)
  (hc:∀t∈ts,∀W,Below w.heap.size w W→Calls Tryz.prog fn (#[.int .i64 t]++caps) W fun e w'=>e=.returned (.bool (P t))∧Below W.heap.size W w') :
  Calls Tryz.prog 142 #[u,.func (.func fn) #[] caps] w fun e w'=>e=.returned (.bool (ts.any P))∧Below w.heap.size w w':=by
 have cI:=zjR fn hent caps u ts P w hu hc
 generalize ts.any P=R at cI ⊢
 clear hu hc
 go_enter Tryz.func142,Tryz.ntmps142
 go_wp2_with fail
 refine cI.mono ?_
 rintro e w1 ⟨⟨i,rfl,hi⟩,b1⟩
 clear cI
 rcases hi with ⟨h0,rfl⟩|⟨rfl,rfl⟩
 ·go_wp2
  go_ret
  exact⟨rfl,b1⟩
 ·go_wp2
  go_ret
  exact⟨rfl,b1⟩
end
end Go.Proofs.YtbdnccnfidjiaaaGreatDoor
