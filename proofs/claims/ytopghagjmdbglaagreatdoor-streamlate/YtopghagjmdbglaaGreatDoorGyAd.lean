/-
  LexToks, TreeR1, ButM, TreeR2, TreeR3, VarOf, TreeEnv, TreeR4.
-/
import Derived.Test.YtopghagjmdbglaaGreatDoorGyAc
import Derived.Test.YtopghagjmdbglaaGreatDoorGyAb
import Derived.WalkKit
import Derived.Below
import Derived.RowKitTokens
import Derived.Lib.OthersKept
import Derived.Deep.DeepCutAuto
import Derived.WalkSmall
import Derived.BigQuiet
import Derived.Deep.RegionWith
import Derived.Test.YtopghagjmdbglaaGreatDoorProg
import Derived.Deep.Heap
import Derived.Deep.QuietTactic
import Derived.OpenShut
import Derived.ChangeSame
import Derived.MakeChecks
import Derived.RowKit
import Derived.Test.YtopghagjmdbglaaGreatDoorCards
import Derived.Test.YtopghagjmdbglaaGreatDoorTie
import Derived.ProofKit
import Derived.SizedLaws
import Derived.Stop.LaidErr
import Derived.Stop.Joined
import Derived.Lib.SmallJoins
import Derived.Deep.DeepHandedRow
namespace Go.Proofs.YtopghagjmdbglaaGreatDoor
open Go.RowKit
set_option linter.unusedVariables false
set_option linter.unusedSimpArgs false
set_option maxHeartbeats 8000000
set_option maxRecDepth 20000
def zaN(ts:List Tok):List Value:=ts.flatMap fun t=>[.int .i64 t.1,.string t.2.1,.int .i64 (t.2.2:Int)]
def zgH(w:World)(b off:Nat)(ts:List Tok):Prop :=
 b<w.heap.size∧∀j (h:j<ts.length),w.cell? ⟨b,off+j*3,none⟩=some (.int .i64 ts[j].1)∧w.cell? ⟨b,off+j*3+1,none⟩=some (.string ts[j].2.1)∧w.cell? ⟨b,off+j*3+2,none⟩=some (.int .i64 (ts[j].2.2:Int))
theorem zgH.on{w w':World}{b off:Nat}{ts:List Tok}(h:zgH w b off ts)(hb:Below w.heap.size w w'):zgH w' b off ts :=
 ⟨by have:=hb.size;have:=h.1;omega,fun j hj=>by
  rw[hb.cell (p:=⟨b,off+j*3,none⟩) h.1,hb.cell (p:=⟨b,off+j*3+1,none⟩) h.1,hb.cell (p:=⟨b,off+j*3+2,none⟩) h.1];exact h.2 j hj⟩
def zlr(w:World)(v:Value)(ts:List Tok):Prop :=
 ∃p c,v=.slice p ts.length c∧ts.length≤maxLen∧(ts.length=0∨∃b off,p=some ⟨b,off,none⟩∧zgH w b off ts)
theorem zen:∀(ts:List Tok) (j:Nat) (h:j<ts.length),(zaN ts)[j*3]?=some (.int .i64 ts[j].1)∧(zaN ts)[j*3+1]?=some (.string ts[j].2.1)∧(zaN ts)[j*3+2]?=some (.int .i64 (ts[j].2.2:Int))
 | [],j,h=>absurd h (by simp)
 | t::ts,0,_=>by simp[zaN]
 | t::ts,j+1,h=>by
  have ih:=zen ts j (by simpa using h)
  have e:zaN (t::ts)=.int .i64 t.1::.string t.2.1::.int .i64 (t.2.2:Int)::zaN ts:=rfl
  rw[e,show (j+1)*3=j*3+1+1+1 by omega]
  simp only[List.getElem?_cons_succ]
  simpa using ih
theorem zpC{W:World}{base:Nat}{v:Value}{ts:List Tok}(h:W.ownsRow base 83 3 v ts.length (zaN ts)):zlr W v ts:=by
 rcases h.2 with ⟨e,h0⟩|⟨g,cap,cur,e,_,hgg,hcap,hmx,_,_⟩
 ·exact⟨none,0,by rw[e,h0],by omega,.inl h0⟩
 ·refine⟨_,cap,e,by omega,.inr ⟨g,0,rfl,(Array.getElem?_eq_some_iff.1 hgg).1,fun j hj=>?_⟩⟩
  obtain⟨e0,e1,e2⟩:=zen ts j hj
  have h0:=h.cells (g:=g) (by rw[e];rfl) _ _ e0
  have h1:=h.cells (g:=g) (by rw[e];rfl) _ _ e1
  have h2:=h.cells (g:=g) (by rw[e];rfl) _ _ e2
  rw[Go.WideShapes.add_plain] at h0 h1 h2
  exact⟨h0,h1,h2⟩
theorem zfQ(w:World):zlr w (.slice none 0 0) []:=⟨none,0,rfl,Nat.zero_le _,.inl rfl⟩
theorem zlL{W:World}{b:Nat}{e:TypeId}{size:Nat}{v:Value}{n:Nat}{xs:List Value}(h:W.ownsRow (b+1) e size v n xs)(o:Nat)(x:Value):(W.setCell ⟨b,o,none⟩ x).ownsRow (b+1) e size v n xs:=by
 refine⟨h.1,?_⟩
 rcases h.2 with hn|⟨g,cap,cur,rfl,h1,hgg,rest⟩
 ·exact .inl hn
 ·refine .inr ⟨g,cap,cur,rfl,h1,?_,rest⟩
  rw[Below.heap_setCell _ _ _ _ (fun e=>by simp at e;omega)]
  exact hgg
theorem zre:(Tryz.prog.info? 83).map (fun i=>(i.zero,i.size,i.bytes))=some (some (.agg #[.int .i64 0,.string ⟨#[]⟩,.int .i64 0]),3,32):=by kernel_rfl
theorem zsr{B:Nat}{l:List Tok}{k:Int}{x:ByteArray}{a:Nat}{w wr w1:World}{v v':Value}{o:Obj}(hown:wr.ownsRow B 83 3 v l.length (zaN l))(hnx:Below B w wr)(hB:B≤wr.heap.size)
  (hown':w1.ownsRow B 83 3 v' (l.length+1) (zaN l++[.int .i64 k,.string x,.int .i64 (a:Int)]))(hgrow:(wr.alloc o).grownBy w1 v.ownBlock) :
  w1.ownsRow B 83 3 v' (l++[(k,x,a)]).length (zaN (l++[(k,x,a)]))∧Below B w w1 :=
 ⟨by rw[List.length_append];simpa [zaN] using hown',(hnx.alloc hB o).grown hgrow (by simp;omega) (fun j hj=>(hown.lt j hj).1)⟩
section
open Go.BigFrame
def zcM(w:World)(b:Nat)(gs:List (List UInt8)):Prop:=b<w.heap.size∧∀j (h:j<gs.length),w.cell? ⟨b,j,none⟩=some (.string ⟨gs[j].toArray⟩)
theorem zcM.on{w w':World}{b:Nat}{gs:List (List UInt8)}(h:zcM w b gs)(hb:Below w.heap.size w w'):zcM w' b gs :=
 ⟨by have:=hb.size;have:=h.1;omega,fun j hj=>by rw[hb.cell (p:=⟨b,j,none⟩) h.1];exact h.2 j hj⟩
theorem zsa{gs:List (List UInt8)}{l:List UInt8}{k:Nat}(h:k<gs.length)(e:gs[k]=l):(gs.any fun g=>g == l)=true:=by
 rw[List.any_eq_true]
 exact⟨gs[k],List.getElem_mem h,by simpa using e⟩
theorem zpi{gs:List (List UInt8)}{l:List UInt8}(h:∀j (hj:j<gs.length),gs[j]≠l):(gs.any fun g=>g == l)=false:=by
 rw[List.any_eq_false]
 intro g hg
 obtain⟨j,hj,rfl⟩:=List.getElem_of_mem hg
 simpa using h j hj
theorem zod(x:ByteArray)(b c:Nat)(gs:List (List UInt8))(w:World)(hn:gs.length≤100)(hc:zcM w b gs) :
  Calls Tryz.prog 120 #[.slice (some ⟨b,0,none⟩) gs.length c,.string x] w fun e w'=>∃n:Int,e=.returned (.int .i64 n)∧Hid (decide (0≤n)=gs.any fun g=>g == x.data.toList)∧w'=w:=by
 go_enter Tryz.func120,Tryz.ntmps120
 go_wp2
 go_loopg [5,8] gs.length (fun gg _ s8 wr=>∃kk:Nat,kk≤gs.length∧gs.length-kk≤gg∧s8=.int .i64 kk∧wr=w∧Aside (∀j (hj:j<gs.length),j<kk→gs[j]≠x.data.toList))
 case atStart=>exact⟨0,Nat.zero_le _,by omega,rfl,rfl,(show Aside _ from fun j _ hj=>absurd hj (Nat.not_lt_zero _))⟩
 case round =>
  obtain⟨kk,hkk,hg,rfl,rfl,A⟩:=hrel
  by_cases hlt:kk<gs.length
  ·have hltz:(kk:Int)<(gs.length:Int):=by omega
   have hcell:=hc.2 kk hlt
   have hbl:=hc.1
   generalize hy:gs[kk]=y at hcell
   have HY:Hid (gs[kk]=y):=hy
   clear hy
   by_cases he:x.data.toList=y
   ·obtain rfl:x=⟨y.toArray⟩:=zcr he
    go_wp2
    go_ret
    refine⟨kk,rfl,?_,rfl⟩
    show _=_
    rw[zsa hlt HY.out]
    simp
   ·have hq:(x.toList == y)=false:=by rw[Lib.toList_data];simpa using he
    go_wp2
    go_roundg (gs.length-(kk+1))
    case measure=>omega
    case rel =>
     refine⟨kk+1,by omega,by omega,by go_num,rfl,(show Aside _ from fun j hj hjk=>?_)⟩
     by_cases e:j=kk
     ·subst e
      rw[HY.out];exact fun e=>he e.symm
     ·exact A.out j hj (by omega)
  ·have hltz:¬(kk:Int)<(gs.length:Int):=by omega
   go_wp2
   go_ret
   refine⟨-1,rfl,?_,rfl⟩
   show _=_
   rw[zpi (fun j hj=>A.out j hj (by omega))]
   rfl
theorem zhq(x:ByteArray)(b c:Nat)(gs:List (List UInt8))(w:World)(hn:gs.length≤100)(hc:zcM w b gs) :
  Calls Tryz.prog 89 #[.slice (some ⟨b,0,none⟩) gs.length c,.string x] w fun e w'=>e=.returned (.bool (gs.any fun g=>g == x.data.toList))∧w'=w:=by
 have cI:=zod x b c gs w hn hc
 generalize (gs.any fun g=>g == x.data.toList)=R at cI
 go_enter Tryz.func89,Tryz.ntmps89
 go_wp2_with fail
 refine cI.mono ?_
 rintro e w' ⟨n,rfl,HR,rfl⟩
 go_wp2
 go_ret
 exact⟨zaJ HR.out,rfl⟩
def zec(w:World)(p:Nat)(gs:List (List UInt8)):Prop:=∃b c,w.cell? ⟨p,0,none⟩=some (.slice (some ⟨b,0,none⟩) gs.length c)∧p<w.heap.size∧zcM w b gs∧gs.length≤100
theorem zec.on{w w':World}{p:Nat}{gs:List (List UInt8)}(h:zec w p gs)(hb:Below w.heap.size w w'):zec w' p gs:=by
 obtain⟨b,c,h1,h2,h3,h4⟩:=h
 exact⟨b,c,by rw[hb.cell (p:=⟨p,0,none⟩) h2];exact h1,by have:=hb.size;omega,h3.on hb,h4⟩
abbrev signV(p:Nat):Value:=.func (.func 88) #[] #[.pointer (some ⟨p,0,none⟩)]
def tokV(t:Tok):Value:=.agg #[.int .i64 t.1,.string t.2.1,.int .i64 (t.2.2:Int)]
theorem zfK(t:Tok)(p:Nat)(gs:List (List UInt8))(w:World)(hs:zec w p gs) :
  Calls Tryz.prog 88 #[tokV t,.pointer (some ⟨p,0,none⟩)] w fun e w'=>e=.returned (.bool (sgT gs t))∧Below w.heap.size w w':=by
 obtain⟨b,c,h1,h2,h3,h4⟩:=hs
 obtain⟨tk,tx,ta⟩:=t
 have cC:=fun W (hb:Below w.heap.size w W)=>zhq tx b c gs W h4 (h3.on hb)
 rw[sgT,tokV]
 simp only
 generalize (gs.any fun g=>g == tx.data.toList)=R at cC
 clear h3
 go_enter Tryz.func88,Tryz.ntmps88
 go_wp2_with (go_at_call 89;refine (cC _ ((Below.refl _ _).alloc (Nat.le_refl _) _)).mono ?_;rintro e w' ⟨rfl,rfl⟩)
 go_ret
 exact⟨rfl,(Below.refl _ _).alloc (Nat.le_refl _) _⟩
end
structure But(r:Nat)(w w':World):Prop where
 below:Below r w w'
 size:w.heap.size≤w'.heap.size
 kept:∀k,k<w.heap.size→k≠r→w'.heap[k]?=w.heap[k]?
theorem But.refl(r:Nat)(w:World):But r w w:=⟨Below.refl _ _,Nat.le_refl _,fun _ _ _=>rfl⟩
theorem But.trans{r:Nat}{w w1 w2:World}(h:But r w w1)(k:But r w1 w2):But r w w2 :=
 ⟨h.below.trans k.below,Nat.le_trans h.size k.size,fun b hb hr=>by rw[k.kept b (by have:=h.size;omega) hr,h.kept b hb hr]⟩
theorem But.set{r:Nat}{w w1:World}(h:But r w w1)(o:Nat)(v:Value):But r w (w1.setCell ⟨r,o,none⟩ v) :=
 ⟨h.below.setCell (p:=⟨r,o,none⟩) (Nat.le_refl _) v,by have:=h.size;simpa [World.setCell] using this,fun k hk hr=>by rw[Below.heap_setCell _ _ _ _ (fun e=>hr e)];exact h.kept k hk hr⟩
theorem But.cell{r:Nat}{w w1:World}(h:But r w w1){b:Nat}(o:Nat)(hb:b<w.heap.size)(hr:b≠r):w1.cell? ⟨b,o,none⟩=w.cell? ⟨b,o,none⟩:=by
 simp only[World.cell?,h.kept b hb hr]
theorem But.of_below'{r:Nat}{w w':World}(h:Below w.heap.size w w')(hr:r≤w.heap.size):But r w w':=⟨h.mono hr,h.size,fun k hk _=>h.block k hk⟩
theorem But.setNew{r:Nat}{w w1:World}(h:But r w w1)(z o:Nat)(hz:w.heap.size≤z)(hr:r≤z)(v:Value):But r w (w1.setCell ⟨z,o,none⟩ v) :=
 ⟨h.below.setCell (p:=⟨z,o,none⟩) hr v,by have:=h.size;simpa [World.setCell] using this,fun k hk hkr=>by rw[Below.heap_setCell _ _ _ _ (fun e=>by simp at e;omega)];exact h.kept k hk hkr⟩
theorem But.alloc{r:Nat}{w w1:World}(h:But r w w1)(hr:r≤w1.heap.size)(o:Obj):But r w (w1.alloc o) :=
 ⟨h.below.alloc hr o,by have:=h.size;simp;omega,fun k hk hkr=>by
  rw[((Below.refl w1.heap.size w1).alloc (Nat.le_refl _) o).block k (by have:=h.size;omega)];exact h.kept k hk hkr⟩
section
open Go.BigFrame
variable {en : Nat}

structure RdAt(en:Nat)(w:World)(r:Nat)(ts:List Tok):Prop where
 cell:∃p c,w.cell? ⟨r,0,none⟩=some (.slice p ts.length c)∧ts.length≤c∧(ts.length=0∨∃b off,p=some ⟨b,off,none⟩∧b<r∧zgH w b off ts)
 fz:w.frozen? ⟨r,0,none⟩=false
 lt:r<w.heap.size
 fin:w.cell? ⟨r,1,none⟩=some (.int .i64 (en:Int))
theorem RdAt.on{w w':World}{r:Nat}{ts:List Tok}(h:RdAt en w r ts)(hb:Below w.heap.size w w'):RdAt en w' r ts:=by
 obtain⟨⟨p,c,h1,h2,h3⟩,hf,hl,he⟩:=h
 refine⟨⟨p,c,by rw[hb.cell (p:=⟨r,0,none⟩) hl];exact h1,h2,?_⟩,by rw[hb.frozen (p:=⟨r,0,none⟩) hl];exact hf,by have:=hb.size;omega,by rw[hb.cell (p:=⟨r,1,none⟩) hl];exact he⟩
 rcases h3 with h0|⟨b,off,e1,e2,h4⟩
 ·exact .inl h0
 ·exact .inr ⟨b,off,e1,e2,h4.on hb⟩
theorem RdAt.onB{w w':World}{r:Nat}{ts:List Tok}(h:RdAt en w r ts)(hb:Below (r+1) w w')(hs:w.heap.size≤w'.heap.size):RdAt en w' r ts:=by
 obtain⟨⟨p,c,h1,h2,h3⟩,hf,hl,he⟩:=h
 refine⟨⟨p,c,by rw[hb.cell (p:=⟨r,0,none⟩) (Nat.lt_succ_self r)];exact h1,h2,?_⟩,by rw[hb.frozen (p:=⟨r,0,none⟩) (Nat.lt_succ_self r)];exact hf,by omega,by rw[hb.cell (p:=⟨r,1,none⟩) (Nat.lt_succ_self r)];exact he⟩
 rcases h3 with h0|⟨b,off,e1,e2,h4⟩
 ·exact .inl h0
 ·refine .inr ⟨b,off,e1,e2,by have:=h4.1;omega,fun j hj=>?_⟩
  rw[hb.cell (p:=⟨b,off+j*3,none⟩) (by simp;omega),hb.cell (p:=⟨b,off+j*3+1,none⟩) (by simp;omega),hb.cell (p:=⟨b,off+j*3+2,none⟩) (by simp;omega)]
  exact h4.2 j hj
theorem RdAt.step{w W:World}{r:Nat}{t:Tok}{ts:List Tok}{p p':Option Addr}{c c':Nat}(h:RdAt en w r (t::ts))(hp:w.cell? ⟨r,0,none⟩=some (.slice p (t::ts).length c))(hp':p'=if c=1 then p else p.map (·.add (1*3)))(hc':c'=c-1)
  (hb:But r w W)(hW:W.cell? ⟨r,0,none⟩=some (.slice p' ts.length c'))(hf:W.frozen? ⟨r,0,none⟩=false)(hW1:W.cell? ⟨r,1,none⟩=w.cell? ⟨r,1,none⟩):RdAt en W r ts:=by
 obtain⟨⟨q,d,h1,h2,h3⟩,_,hl,he⟩:=h
 rw[h1] at hp
 obtain⟨rfl,hd⟩:q=p∧d=c:=by
  injection hp with hp
  injection hp with e1 e2 e3
  exact⟨e1,e3⟩
 subst hd
 simp only[List.length_cons] at h2
 refine⟨⟨p',c',hW,by omega,?_⟩,hf,by have:=hb.size;omega,by rw[hW1];exact he⟩
 rcases Nat.eq_zero_or_pos ts.length with h0|h0
 ·exact .inl h0
 ·right
  rcases h3 with h3|⟨b,off,rfl,hbr,h4⟩
  ·simp at h3
  ·refine⟨b,off+3,?_,hbr,by have:=h4.1;have:=hb.size;omega,fun j hj=>?_⟩
   ·rw[hp',if_neg (by omega)];rfl
   ·have:=h4.2 (j+1) (by simpa using hj)
    simp only[show off+(j+1)*3=off+3+j*3 from by omega,List.getElem_cons_succ] at this
    rw[hb.cell _ h4.1 (by omega),hb.cell _ h4.1 (by omega),hb.cell _ h4.1 (by omega)]
    exact this
def noTok:Value:=.agg #[.int .i64 0,.string ⟨#[]⟩,.int .i64 0]
theorem zdt(w:World)(r:Nat)(h:RdAt en w r []) :
  Calls Tryz.prog 13 #[.pointer (some ⟨r,0,none⟩)] w fun e w'=>e=.returned (.bool true)∧w'=w:=by
 obtain⟨⟨p,c,h1,h2,h3⟩,hf,hl,he⟩:=h
 simp only[List.length_nil] at h1
 go_enter Tryz.func13,Tryz.ntmps13
 go_wp2
 go_ret
 exact⟨rfl,rfl⟩
theorem zdV(w:World)(r:Nat)(t:Tok)(ts:List Tok)(h:RdAt en w r (t::ts)) :
  Calls Tryz.prog 13 #[.pointer (some ⟨r,0,none⟩)] w fun e w'=>e=.returned (.bool false)∧w'=w:=by
 obtain⟨⟨p,c,h1,h2,h3⟩,hf,hl,he⟩:=h
 have hnb:(((t::ts).length:Int) == 0)=false:=by simp;omega
 generalize (t::ts).length=L at h1 hnb
 clear h2 h3
 go_enter Tryz.func13,Tryz.ntmps13
 go_wp2
 go_ret
 exact⟨rfl,rfl⟩
theorem ziG(w:World)(r:Nat)(so:Value)(h:RdAt en w r []) :
  Calls Tryz.prog 52 #[.pointer (some ⟨r,0,none⟩),so] w fun e w'=>e=.returned (.bool false)∧w'=w:=by
 have cE:=zdt w r h
 clear h
 go_enter Tryz.func52,Tryz.ntmps52
 go_wp2_with fail
 refine cE.mono ?_
 rintro e w1 ⟨rfl,rfl⟩
 go_wp2
 go_ret
 exact⟨rfl,rfl⟩
theorem zki(f:FuncId)(caps:Array Value)(hent:∀(args:Array Value) (W:World),Sem.run Tryz.prog (callFunc f args) W=.ok (.enter f args) W)(w:World)(r:Nat)(t:Tok)(ts:List Tok)(B:Bool)(h:RdAt en w r (t::ts))
  (hf:Calls Tryz.prog f (#[tokV t]++caps) w fun e w'=>e=.returned (.bool B)∧Below w.heap.size w w') :
  Calls Tryz.prog 52 #[.pointer (some ⟨r,0,none⟩),.func (.func f) #[] caps] w fun e w'=>e=.returned (.bool B)∧Below w.heap.size w w':=by
 have cE:=zdV w r t ts h
 obtain⟨⟨p,c,h1,h2,h3⟩,hfz,hl,he⟩:=h
 rcases h3 with h3|⟨b,off,rfl,hbr,h4⟩
 ·simp at h3
 obtain⟨d0,d1,d2⟩:=h4.2 0 (by simp)
 have hbl:=h4.1
 have hlen:((t::ts).length:Int)=(ts.length:Int)+1:=by simp
 have hlz:(0:Int)<((t::ts).length:Int):=by omega
 obtain⟨tk,tx,ta⟩:=t
 rw[tokV] at hf
 simp only[List.getElem_cons_zero,Nat.zero_mul,Nat.add_zero] at d0 d1 d2 hf
 generalize ((tk,tx,ta)::ts).length=L at h1 h2 hlz cE
 clear h4 hlen he
 go_enter Tryz.func52,Tryz.ntmps52
 go_wp2_with fail
 refine cE.mono ?_
 rintro e w1 ⟨rfl,rfl⟩
 go_wp2_with fail
 refine hf.mono ?_
 rintro e w2 ⟨rfl,b2⟩
 go_wp2
 go_ret
 exact⟨rfl,b2⟩
theorem zmO(w:World)(r:Nat)(so:Value)(h:RdAt en w r []) :
  Calls Tryz.prog 50 #[.pointer (some ⟨r,0,none⟩),so] w fun e w'=>e=.returned (.tuple #[noTok,.bool false])∧RdAt en w' r []∧But r w w':=by
 have hb:=(Below.refl w.heap.size w).alloc (Nat.le_refl _) (.cells #[.int .i64 0,.string ⟨#[]⟩,.int .i64 0] 83)
 have cN:=ziG _ r so (h.on hb)
 have hl:=h.lt
 have HH:Aside (RdAt en w r []):=h
 clear h
 go_enter Tryz.func50,Tryz.ntmps50
 go_wp2_with fail
 refine cN.mono ?_
 rintro e w1 ⟨rfl,rfl⟩
 go_wp2
 refine bodyPost_ret (v:=.tuple #[noTok,.bool false]) (by simp[results,Tryz.results50,go_sem,noTok]) rfl ?_
 exact⟨rfl,HH.out.on hb,But.of_below' hb (by omega)⟩
theorem zlK(f:FuncId)(caps:Array Value)(hent:∀(args:Array Value) (W:World),Sem.run Tryz.prog (callFunc f args) W=.ok (.enter f args) W)(w:World)(r:Nat)(t:Tok)(ts:List Tok)(B:Bool)(h:RdAt en w r (t::ts))
  (hf:∀W,Below w.heap.size w W→Calls Tryz.prog f (#[tokV t]++caps) W fun e w'=>e=.returned (.bool B)∧Below W.heap.size W w') :
  Calls Tryz.prog 50 #[.pointer (some ⟨r,0,none⟩),.func (.func f) #[] caps] w fun e w'=>e=.returned (.tuple #[if B=true then tokV t else noTok,.bool B])∧RdAt en w' r (if B=true then ts else t::ts)∧But r w w':=by
 have h0:=h
 have hb:=(Below.refl w.heap.size w).alloc (Nat.le_refl _) (.cells #[.int .i64 0,.string ⟨#[]⟩,.int .i64 0] 83)
 have cN:=zki f caps hent _ r t ts B (h.on hb) (hf _ hb)
 obtain⟨⟨p,c,h1,h2,h3⟩,hfz,hl,hen⟩:=h0
 rcases h3 with h3|⟨b,off,rfl,hbr,h4⟩
 ·simp at h3
 obtain⟨d0,d1,d2⟩:=h4.2 0 (by simp)
 have hbl:=h4.1
 have hbr:b≠r:=by omega
 have hlen:((t::ts).length:Int)=(ts.length:Int)+1:=by simp
 have hnn:¬(((t::ts).length:Int)=0):=by omega
 have hnb:(((t::ts).length:Int) == 0)=false:=by simpa using hnn
 obtain⟨tk,tx,ta⟩:=t
 simp only[List.getElem_cons_zero,Nat.zero_mul,Nat.add_zero] at d0 d1 d2
 clear hf hen
 go_enter Tryz.func50,Tryz.ntmps50
 go_wp2_with fail
 refine cN.mono ?_
 rintro e w1 ⟨rfl,b1⟩
 have q0:=fun o=>b1.cell (p:=⟨w.heap.size,o,none⟩) (by simp)
 have qf:=fun o=>b1.frozen (p:=⟨w.heap.size,o,none⟩) (by simp)
 have ql:w.heap.size<w1.heap.size:=by have:=b1.size;simp at this;omega
 have g0:=q0 0
 have g1:=q0 1
 have g2:=q0 2
 have gf0:=qf 0
 have gf1:=qf 1
 have gf2:=qf 2
 rw[World.cell?_alloc_at _ _ _ _ rfl] at g0 g1 g2
 simp at g0 g1 g2 gf0 gf1 gf2
 have b2:Below w.heap.size w w1:=hb.trans (b1.mono (by simp))
 have h5:=h.on b2
 rw[←b2.cell (p:=⟨r,0,none⟩) hl] at h1
 rw[←b2.frozen (p:=⟨r,0,none⟩) hl] at hfz
 rw[←b2.cell (p:=⟨b,off,none⟩) hbl] at d0
 rw[←b2.cell (p:=⟨b,off+1,none⟩) hbl] at d1
 rw[←b2.cell (p:=⟨b,off+2,none⟩) hbl] at d2
 have hl1:r<w1.heap.size:=by omega
 have hbl1:b<w1.heap.size:=by omega
 have HE1:Hid (w1.cell? ⟨r,1,none⟩=w.cell? ⟨r,1,none⟩):=b2.cell (p:=⟨r,1,none⟩) hl
 clear q0 qf h4 hb b1 cN
 have HH:Aside (RdAt en w r ((tk,tx,ta)::ts)):=h
 have HC:Aside (w.cell? ⟨r,0,none⟩=some (.slice (some ⟨b,off,none⟩) ((tk,tx,ta)::ts).length c)):=by
  show _=_
  rw[←b2.cell (p:=⟨r,0,none⟩) hl];exact h1
 clear h h5
 have hne:r≠w.heap.size:=by omega
 have BB:=But.of_below' b2 (r:=r) (by omega)
 cases B
 ·go_wp2
  refine bodyPost_ret (v:=.tuple #[noTok,.bool false]) (by simp[results,Tryz.results50,go_sem,noTok,g0,g1,g2]) rfl ?_
  exact⟨rfl,HH.out.on (((b2.setCell (p:=⟨w.heap.size,0,none⟩) (Nat.le_refl _) _).setCell (p:=⟨w.heap.size,1,none⟩) (Nat.le_refl _) _).setCell (p:=⟨w.heap.size,2,none⟩) (Nat.le_refl _) _),((BB.setNew _ 0 (Nat.le_refl _) (by omega) _).setNew _ 1 (Nat.le_refl _) (by omega) _).setNew _ 2 (Nat.le_refl _) (by omega) _⟩
 ·go_wp2
  all_goals
   refine bodyPost_ret (v:=.tuple #[tokV (tk,tx,ta),.bool true]) (by simp[results,Tryz.results50,go_sem,tokV,g0,g1,g2,ql]) rfl ?_
   have B1:=fun u=>((((BB.set 0 u).setNew w.heap.size 0 (Nat.le_refl _) (by omega) (.int .i64 tk)).setNew w.heap.size 1 (Nat.le_refl _) (by omega) (.string tx)).setNew w.heap.size 2 (Nat.le_refl _) (by omega) (.int .i64 (ta:Int))).alloc (by simp[World.setCell];omega) (.cells #[.int .i64 tk,.string tx,.int .i64 (ta:Int)] 83)
  ·refine⟨rfl,HH.out.step HC.out (p':=some ⟨b,off,none⟩) (c':=0) (by rw[if_pos ‹c=1›]) (by omega) (B1 _) ?_ ?_ ?_,B1 _⟩
   ·rw[World.cell?_alloc_past _ _ _ (by simp[World.setCell];omega),World.cell?_setCell_other _ _ _ _ (by simp),World.cell?_setCell_other _ _ _ _ (by simp),World.cell?_setCell_other _ _ _ _ (by simp),World.cell?_setCell_same w1 ⟨r,0,none⟩ _ h1]
   ·rw[World.frozen?_alloc_past _ _ _ (by simp[World.setCell];omega)]
    simpa using hfz
   ·rw[World.cell?_alloc_past _ _ _ (by simp[World.setCell];omega),World.cell?_setCell_other _ _ _ _ (by simp),World.cell?_setCell_other _ _ _ _ (by simp),World.cell?_setCell_other _ _ _ _ (by simp),World.cell?_setCell_other _ _ _ _ (by simp)]
    exact HE1.out
  ·refine⟨rfl,HH.out.step HC.out (p':=some ⟨b,off+3,none⟩) (c':=c-1) (by rw[if_neg ‹¬c=1›];rfl) (by omega) (B1 _) ?_ ?_ ?_,B1 _⟩
   ·rw[World.cell?_alloc_past _ _ _ (by simp[World.setCell];omega),World.cell?_setCell_other _ _ _ _ (by simp),World.cell?_setCell_other _ _ _ _ (by simp),World.cell?_setCell_other _ _ _ _ (by simp),World.cell?_setCell_same w1 ⟨r,0,none⟩ _ h1]
   ·rw[World.frozen?_alloc_past _ _ _ (by simp[World.setCell];omega)]
    simpa using hfz
   ·rw[World.cell?_alloc_past _ _ _ (by simp[World.setCell];omega),World.cell?_setCell_other _ _ _ _ (by simp),World.cell?_setCell_other _ _ _ _ (by simp),World.cell?_setCell_other _ _ _ _ (by simp),World.cell?_setCell_other _ _ _ _ (by simp)]
    exact HE1.out
theorem zcf(P:Tok→Bool)(f:FuncId)(caps:Array Value)(hent:∀(args:Array Value) (W:World),Sem.run Tryz.prog (callFunc f args) W=.ok (.enter f args) W)(w:World)(r:Nat)(ts:List Tok)(h:RdAt en w r ts)
  (hf:∀t∈ts,∀W,Below w.heap.size w W→Calls Tryz.prog f (#[tokV t]++caps) W fun e w'=>e=.returned (.bool (P t))∧Below W.heap.size W w')(hn:nxT P ts=none) :
  Calls Tryz.prog 50 #[.pointer (some ⟨r,0,none⟩),.func (.func f) #[] caps] w fun e w'=>e=.returned (.tuple #[noTok,.bool false])∧RdAt en w' r ts∧But r w w':=by
 cases ts with
 | nil=>exact zmO w r _ h
 | cons t ts =>
  have hp:P t=false:=by
   rw[nxT] at hn
   split at hn
   ·exact absurd hn (by simp)
   ·rename_i h1;simpa using h1
  have:=zlK f caps hent w r t ts (P t) h (fun W hb=>hf t (by simp) W hb)
  rw[hp] at this
  exact this
theorem zda(P:Tok→Bool)(f:FuncId)(caps:Array Value)(hent:∀(args:Array Value) (W:World),Sem.run Tryz.prog (callFunc f args) W=.ok (.enter f args) W)(w:World)(r:Nat)(t:Tok)(ts rs:List Tok)(h:RdAt en w r ts)
  (hf:∀t∈ts,∀W,Below w.heap.size w W→Calls Tryz.prog f (#[tokV t]++caps) W fun e w'=>e=.returned (.bool (P t))∧Below W.heap.size W w')(hn:nxT P ts=some (t,rs)) :
  Calls Tryz.prog 50 #[.pointer (some ⟨r,0,none⟩),.func (.func f) #[] caps] w fun e w'=>e=.returned (.tuple #[tokV t,.bool true])∧RdAt en w' r rs∧But r w w':=by
 obtain⟨rfl,hp⟩:=zag hn
 have:=zlK f caps hent w r t rs (P t) h (fun W hb=>hf t (by simp) W hb)
 rw[hp] at this
 exact this
theorem zjT(args:Array Value)(W:World):Sem.run Tryz.prog (callFunc 88 args) W=.ok (.enter 88 args) W:=by kernel_rfl
theorem zap(gs:List (List UInt8))(p:Nat)(w:World)(r:Nat)(ts:List Tok)(h:RdAt en w r ts)(hs:zec w p gs)(hn:nxT (sgT gs) ts=none) :
  Calls Tryz.prog 50 #[.pointer (some ⟨r,0,none⟩),signV p] w fun e w'=>e=.returned (.tuple #[noTok,.bool false])∧RdAt en w' r ts∧But r w w' :=
 zcf (sgT gs) _ _ zjT w r ts h (fun t _ W hb=>zfK t p gs W (hs.on hb)) hn
theorem zao(gs:List (List UInt8))(p:Nat)(w:World)(r:Nat)(t:Tok)(ts rs:List Tok)(h:RdAt en w r ts)(hs:zec w p gs)(hn:nxT (sgT gs) ts=some (t,rs)) :
  Calls Tryz.prog 50 #[.pointer (some ⟨r,0,none⟩),signV p] w fun e w'=>e=.returned (.tuple #[tokV t,.bool true])∧RdAt en w' r rs∧But r w w' :=
 zda (sgT gs) _ _ zjT w r t ts rs h (fun t _ W hb=>zfK t p gs W (hs.on hb)) hn
end
section
open Go.BigFrame
def Fit(ts:List Tok):Prop:=∀t∈ts,t.2.1.size≤400
theorem Fit.suf{ts rs:List Tok}(h:Fit ts)(hs:rs <:+ ts):Fit rs:=fun t ht=>h t (hs.mem ht)
def opsL:List (List UInt8×Int):=[([118,97,108],0),([99,111,108],0),([111,114],2),([97,110,100],2),([110,111,116],1),([61],2),([60,62],2),([60],2),([60,61],2),([62],2),([62,61],2),([43],2),([45],2),([42],2),([47],2),([37],2),([110,101,103],1),([108,101,110],1),([105,102],3)]
def opsC:Array Value:=#[.string ⟨#[118,97,108]⟩,.int .i64 0,.string ⟨#[99,111,108]⟩,.int .i64 0,.string ⟨#[111,114]⟩,.int .i64 2,.string ⟨#[97,110,100]⟩,.int .i64 2,.string ⟨#[110,111,116]⟩,.int .i64 1,.string ⟨#[61]⟩,.int .i64 2,.string ⟨#[60,62]⟩,.int .i64 2,.string ⟨#[60]⟩,.int .i64 2,.string ⟨#[60,61]⟩,.int .i64 2,.string ⟨#[62]⟩,.int .i64 2,.string ⟨#[62,61]⟩,.int .i64 2,.string ⟨#[43]⟩,.int .i64 2,.string ⟨#[45]⟩,.int .i64 2,.string ⟨#[42]⟩,.int .i64 2,.string ⟨#[47]⟩,.int .i64 2,.string ⟨#[37]⟩,.int .i64 2,.string ⟨#[110,101,103]⟩,.int .i64 1,.string ⟨#[108,101,110]⟩,.int .i64 1,.string ⟨#[105,102]⟩,.int .i64 3]
def zkM:Array Value:=#[.string ⟨#[111,114]⟩,.string ⟨#[97,110,100]⟩,.string ⟨#[110,111,116]⟩,.string ⟨#[116,114,117,101]⟩,.string ⟨#[102,97,108,115,101]⟩,.string ⟨#[108,101,110]⟩,.string ⟨#[105,102]⟩,.string ⟨#[115,101,108,101,99,116]⟩,.string ⟨#[97,115]⟩,.string ⟨#[102,114,111,109]⟩,.string ⟨#[119,104,101,114,101]⟩,.string ⟨#[103,114,111,117,112]⟩,.string ⟨#[98,121]⟩,.string ⟨#[119,105,110,100,111,119]⟩,.string ⟨#[115,108,105,100,101]⟩,.string ⟨#[99,111,117,110,116]⟩,.string ⟨#[115,117,109]⟩,.string ⟨#[108,101,97,115,116]⟩,.string ⟨#[109,111,115,116]⟩]
structure TEnv(w:World):Prop where
 env:Env w
 big:12≤w.heap.size
 ops:∃t fr,w.heap[0]?=some (.cells opsC t fr)
 wds:∃t fr,w.heap[3]?=some (.cells zkM t fr)
theorem Env.onB{w w':World}{n:Nat}(h:Env w)(hb:Below n w w')(hn:12≤n)(hs:w.heap.size≤w'.heap.size):Env w':=by
 have hbig:=h.big
 refine⟨?_,?_,?_,?_⟩
 ·exact var?_below hb g_tab (by omega) h.tab
 ·obtain⟨tp,p,hv⟩:=h.syn;exact⟨tp,p,var?_below hb g_syn (by omega) hv⟩
 ·obtain⟨tp,p,hv⟩:=h.ran;exact⟨tp,p,var?_below hb g_ran (by omega) hv⟩
 ·omega
theorem TEnv.onB{w w':World}{n:Nat}(h:TEnv w)(hb:Below n w w')(hn:12≤n)(hs:w.heap.size≤w'.heap.size):TEnv w':=by
 refine⟨h.env.onB hb hn hs,by have:=h.big;omega,?_,?_⟩
 ·obtain⟨t,fr,h1⟩:=h.ops
  exact⟨t,fr,by rw[hb.block _ (by omega)];exact h1⟩
 ·obtain⟨t,fr,h1⟩:=h.wds
  exact⟨t,fr,by rw[hb.block _ (by omega)];exact h1⟩
theorem TEnv.on{w w':World}(h:TEnv w)(hb:Below w.heap.size w w'):TEnv w':=h.onB hb h.big hb.size
theorem TEnv.but{w w':World}{r:Nat}(h:TEnv w)(hb:But r w w')(hr:12≤r):TEnv w':=h.onB hb.below hr hb.size
theorem ExIn.but{w w':World}{r:Nat}{lo:Nat→Prop}{x:Ex}{v:Value}(h:ExIn w lo v x)(hb:But r w w')(hr:∀b,lo b→b≠r):ExIn w' lo v x :=
 ExIn.keep hb.size (fun b o h1 h2=>hb.cell o h2 (hr b h1)) x v h
theorem zcM.but{w w':World}{r b:Nat}{gs:List (List UInt8)}(h:zcM w b gs)(hb:But r w w')(hr:b≠r):zcM w' b gs :=
 ⟨by have:=hb.size;have:=h.1;omega,fun j hj=>by rw[hb.cell _ h.1 hr];exact h.2 j hj⟩
def zbm(w:World)(r p:Nat)(gs:List (List UInt8)):Prop:=∃b c,w.cell? ⟨p,0,none⟩=some (.slice (some ⟨b,0,none⟩) gs.length c)∧p<w.heap.size∧zcM w b gs∧gs.length≤100∧p≠r∧b≠r
theorem zbm.sign{w:World}{r p:Nat}{gs:List (List UInt8)}(h:zbm w r p gs):zec w p gs:=by
 obtain⟨b,c,h1,h2,h3,h4,_,_⟩:=h
 exact⟨b,c,h1,h2,h3,h4⟩
theorem zbm.but{w w':World}{r p:Nat}{gs:List (List UInt8)}(h:zbm w r p gs)(hb:But r w w'):zbm w' r p gs:=by
 obtain⟨b,c,h1,h2,h3,h4,h5,h6⟩:=h
 exact⟨b,c,by rw[hb.cell _ h2 h5];exact h1,by have:=hb.size;omega,h3.but hb h6,h4,h5,h6⟩
theorem But.on{r:Nat}{w w1 w2:World}(h:But r w w1)(k:Below w1.heap.size w1 w2)(hr:r<w.heap.size):But r w w2 :=
 h.trans (But.of_below' k (by have:=h.size;omega))
theorem zfA{r:Nat}{w w1:World}(h:But r w w1){b:Nat}(o:Nat)(hb:b<w.heap.size)(hr:b≠r):w1.frozen? ⟨b,o,none⟩=w.frozen? ⟨b,o,none⟩:=by
 simp only[World.frozen?,h.kept b hb hr]
theorem ExIn.agg{w:World}{lo:Nat→Prop}{v:Value}{x:Ex}(h:ExIn w lo v x):∃op nm vt vn vs p n c pos,v=.agg #[.string op,.string nm,.int .i64 vt,.int .i64 vn,.string vs,.slice p n c,.int .i64 pos]:=by
 cases x with
 | node op nm vt vn vs pos args =>
  rw[ExIn] at h
  obtain⟨p,c,rfl,_⟩:=h
  exact⟨_,_,_,_,_,_,_,_,_,rfl⟩
theorem zvz{w W:World}{lo:Nat→Prop}{B:Nat}{a0 a1 a2 a3 a4 a5 a6 b0 b1 b2 b3 b4 b5 b6:Value}{x y:Ex}{op nm vs:ByteArray}{vt vn pos:Int}(h1:ExIn w lo (.agg #[a0,a1,a2,a3,a4,a5,a6]) x)(h2:ExIn w lo (.agg #[b0,b1,b2,b3,b4,b5,b6]) y)(hb:Below w.heap.size w W)(hB:B<W.heap.size)(hlo:lo B)
  (hc:∀i,W.cell? ⟨B,i,none⟩=(#[a0,a1,a2,a3,a4,a5,a6,b0,b1,b2,b3,b4,b5,b6]:Array Value)[i]?)(ho:op.size≤maxLen)(hn:nm.size≤maxLen)(hv:vs.size≤maxLen) :
  ExIn W lo (.agg #[.string op,.string nm,.int .i64 vt,.int .i64 vn,.string vs,.slice (some ⟨B,0,none⟩) 2 2,.int .i64 pos]) (.node op nm vt vn vs pos [x,y]):=by
 rw[ExIn]
 refine⟨_,_,rfl,⟨by simp[maxLen],by simp⟩,ho,hn,hv,.inr ⟨B,0,rfl,hB,hlo,?_⟩⟩
 rw[ExsIn,ExsIn,ExsIn]
 refine⟨⟨a0,a1,a2,a3,a4,a5,a6,?_,?_,?_,?_,?_,?_,?_,h1.on hb⟩,⟨b0,b1,b2,b3,b4,b5,b6,?_,?_,?_,?_,?_,?_,?_,h2.on hb⟩,trivial⟩
 all_goals (rw[hc];rfl)
theorem zvu{w W:World}{lo:Nat→Prop}{B:Nat}{a0 a1 a2 a3 a4 a5 a6:Value}{x:Ex}{op nm vs:ByteArray}{vt vn pos:Int}(h1:ExIn w lo (.agg #[a0,a1,a2,a3,a4,a5,a6]) x)(hb:Below w.heap.size w W)(hB:B<W.heap.size)(hlo:lo B)
  (hc:∀i,W.cell? ⟨B,i,none⟩=(#[a0,a1,a2,a3,a4,a5,a6]:Array Value)[i]?)(ho:op.size≤maxLen)(hn:nm.size≤maxLen)(hv:vs.size≤maxLen) :
  ExIn W lo (.agg #[.string op,.string nm,.int .i64 vt,.int .i64 vn,.string vs,.slice (some ⟨B,0,none⟩) 1 1,.int .i64 pos]) (.node op nm vt vn vs pos [x]):=by
 rw[ExIn]
 refine⟨_,_,rfl,⟨by simp[maxLen],by simp⟩,ho,hn,hv,.inr ⟨B,0,rfl,hB,hlo,?_⟩⟩
 rw[ExsIn,ExsIn]
 refine⟨⟨a0,a1,a2,a3,a4,a5,a6,?_,?_,?_,?_,?_,?_,?_,h1.on hb⟩,trivial⟩
 all_goals (rw[hc];rfl)
theorem zid{W:World}{lo:Nat→Prop}{p:Option Addr}{c:Nat}{op nm vs:ByteArray}{vt vn pos:Int}(ho:op.size≤maxLen)(hn:nm.size≤maxLen)(hv:vs.size≤maxLen) :
  ExIn W lo (.agg #[.string op,.string nm,.int .i64 vt,.int .i64 vn,.string vs,.slice p 0 c,.int .i64 pos]) (.node op nm vt vn vs pos []):=by
 rw[ExIn]
 exact⟨_,_,rfl,⟨by simp,by simp⟩,ho,hn,hv,.inl rfl⟩
theorem zez(w:World)(lo:Nat→Prop)(t:Tok)(v1 v2:Value)(x y:Ex)(h1:ExIn w lo v1 x)(h2:ExIn w lo v2 y)(hlo:∀b,w.heap.size≤b→lo b)(ht:t.2.1.size≤maxLen) :
  Calls Tryz.prog 155 #[v1,tokV t,v2] w fun e w'=>(∃v,e=.returned v∧ExIn w' lo v (betT x t y))∧Below w.heap.size w w':=by
 obtain⟨o1,n1,t1,k1,s1,p1,m1,c1,a1,rfl⟩:=h1.agg
 obtain⟨o2,n2,t2,k2,s2,p2,m2,c2,a2,rfl⟩:=h2.agg
 have H1:Aside (ExIn w lo (.agg #[.string o1,.string n1,.int .i64 t1,.int .i64 k1,.string s1,.slice p1 m1 c1,.int .i64 a1]) x):=h1
 have H2:Aside (ExIn w lo (.agg #[.string o2,.string n2,.int .i64 t2,.int .i64 k2,.string s2,.slice p2 m2 c2,.int .i64 a2]) y):=h2
 clear h1 h2
 obtain⟨tk,tx,ta⟩:=t
 rw[tokV]
 go_enter Tryz.func155,Tryz.ntmps155
 go_wp2
 have hb:Below w.heap.size w _:=(((((Below.refl w.heap.size w).alloc (Nat.le_refl _) (.cells #[.string o1,.string n1,.int .i64 t1,.int .i64 k1,.string s1,.slice p1 m1 c1,.int .i64 a1] 30)).alloc (by simp) (.cells #[.int .i64 tk,.string tx,.int .i64 (ta:Int)] 83)).alloc (by simp;omega) (.cells #[.string o2,.string n2,.int .i64 t2,.int .i64 k2,.string s2,.slice p2 m2 c2,.int .i64 a2] 30)).alloc (by simp;omega) (.cells #[.string tx,.string ⟨#[]⟩,.int .i64 0,.int .i64 0,.string ⟨#[]⟩,.slice (some ⟨w.heap.size+1+1+1+1,0,none⟩) 2 2,.int .i64 (ta:Int)] 30)).alloc (by simp;omega) (.cells #[.string o1,.string n1,.int .i64 t1,.int .i64 k1,.string s1,.slice p1 m1 c1,.int .i64 a1,.string o2,.string n2,.int .i64 t2,.int .i64 k2,.string s2,.slice p2 m2 c2,.int .i64 a2] 30)
 refine bodyPost_ret (v:=.agg #[.string tx,.string ⟨#[]⟩,.int .i64 0,.int .i64 0,.string ⟨#[]⟩,.slice (some ⟨w.heap.size+1+1+1+1,0,none⟩) 2 2,.int .i64 (ta:Int)]) (by simp[results,Tryz.results155,go_sem]) rfl ⟨⟨_,rfl,?_⟩,hb⟩
 exact zvz H1.out H2.out hb (by simp) (hlo _ (by omega)) (fun i=>World.cell?_alloc_at _ _ _ _ (by simp)) ht (by decide) (by decide)
end
def cellAt(P:Program):Nat→TypeId→DataW Unit→Nat→Option Value
 | 0,_,_,_=>none
 | f+1,t,d,i =>
  match P.underlying t,d with
  | some (.int k),.lit (.int _ n)=>if i=0 then some (.int k n) else none
  | some .string,.lit (.string l)=>if i=0 then some (.string ⟨l.toArray⟩) else none
  | some (.array n e),.agg l=>if i / P.cellsOf e<n∧i % P.cellsOf e<P.cellsOf e then (l[i / P.cellsOf e]?).bind fun d'=>cellAt P f e d' (i % P.cellsOf e) else none
  | some (.struct fs),.agg l =>
   (fs[(fs.toList.findIdx fun g=>decide (i<g.offset+P.cellsOf g.type))]?).bind fun g =>
    if g.offset≤i∧i<g.offset+P.cellsOf g.type then (l[(fs.toList.findIdx fun g=>decide (i<g.offset+P.cellsOf g.type))]?).bind fun d'=>cellAt P f g.type d' (i-g.offset) else none
  | _,_=>none
theorem zml{cs:List Value}{o k i:Nat}{v:Value}(hk:i<k)(h:((cs.drop o).take k)[i]?=some v):cs[o+i]?=some v:=by
 rw[List.getElem?_take,if_pos hk,List.getElem?_drop] at h
 exact h
theorem zcC{P:Program}{W:World}{enc:TypeId×Value→Unit}{base:Nat}{spare:Nat→Bool}{held:Bool}:∀(f:Nat) (t:TypeId) (d:DataW Unit) (i:Nat) (v:Value) (fuel:Nat) (cs:List Value) (ps:List MemPlace),
  DataW.trod enc P W base spare held fuel t cs=some (d,ps)→cellAt P f t d i=some v→cs[i]?=some v
 | 0,_,_,_,_,_,_,_,_,h=>by simp[cellAt] at h
 | f+1,t,d,i,v,fuel,cs,ps,ht,h=>by
  unfold cellAt at h
  split at h
  ·rename_i k _ n hu
   split at h
   ·rename_i hi
    subst hi
    cases fuel with
    | zero=>simp[DataW.trod] at ht
    | succ m =>
     unfold DataW.trod at ht
     rw[hu] at ht
     split at ht<;>simp_all
   ·simp at h
  ·rename_i l hu
   split at h
   ·rename_i hi
    subst hi
    obtain⟨s,rfl,hx,_⟩:=DataW.trod_string hu ht
    simp at hx h ⊢
    rw[←h,hx.1]
   ·simp at h
  ·rename_i n e l hu
   split at h
   ·rename_i hi
    obtain⟨xs,m,_,hx,_,hl,hel⟩:=DataW.trod_array hu ht
    simp only[Prod.mk.injEq,DataW.agg.injEq] at hx
    obtain⟨rfl,rfl⟩:=hx
    rw[Option.bind_eq_some_iff] at h
    obtain⟨d',hd,h⟩:=h
    have hlt:i / P.cellsOf e<xs.length:=by omega
    rw[List.getElem?_map,List.getElem?_eq_getElem hlt] at hd
    have h2:=hel _ hi.1
    rw[List.getElem?_eq_getElem hlt] at h2
    simp only[Option.map_some,Option.some.injEq] at hd
    subst hd
    have h3:=zcC f e _ _ v _ _ _ h2 h
    have h4:=zml hi.2 h3
    rwa [Nat.mul_comm,Nat.div_add_mod] at h4
   ·simp at h
  ·rename_i fs l hu
   rw[Option.bind_eq_some_iff] at h
   obtain⟨g,hg,h⟩:=h
   split at h
   ·rename_i hi
    obtain⟨xs,m,_,hx,_,hl,hel⟩:=DataW.trod_struct hu ht
    simp only[Prod.mk.injEq,DataW.agg.injEq] at hx
    obtain⟨rfl,rfl⟩:=hx
    rw[Option.bind_eq_some_iff] at h
    obtain⟨d',hd,h⟩:=h
    have h2:=hel _ g hg
    rw[List.getElem?_map,Option.map_eq_some_iff] at hd
    obtain⟨y,hy,rfl⟩:=hd
    rw[hy] at h2
    have h3:=zcC f g.type _ _ v _ _ _ h2 h
    have h4:=zml (by omega) h3
    rwa [show g.offset+(i-g.offset)=i by omega] at h4
   ·simp at h
  ·simp at h
theorem zsE{P:Program}{W:World}{n:String}{cs:Array Value}{g:Nat}(h:W.var? P n=some cs)(hg:P.globalNamed n=some g):∃t fr,W.heap[g]?=some (.cells cs t fr):=by
 unfold World.var? at h
 simp only[hg,Option.bind_some] at h
 split at h
 ·rename_i c t fr he
  obtain rfl:=Option.some.inj h
  exact⟨t,fr,he⟩
 ·simp at h
theorem zmR{P:Program}{W:World}{nm:String}{d:DataW Unit}{rest:List (String×DataW Unit)}{g:Nat}{t e:TypeId}{n:Nat}(C:Array Value)
  (h:laidMet P ((nm,d)::rest) W)(hg:P.globalNamed nm=some g)(ht:(P.globals[g]?).map (·.type)=some t)(hu:P.underlying t=some (.array n e))(hc:P.cellsOf t=C.size)
  (hC:(List.range C.size).map (cellAt P 8 t d)=C.toList.map some):∃tt fr,W.heap[g]?=some (.cells C tt fr):=by
 obtain⟨ps,⟨g',t',cs,fuel,p,q,hg',ht',hvar,hd,_,_⟩,_⟩:=h
 obtain rfl:=Option.some.inj (hg.symm.trans hg')
 obtain rfl:=Option.some.inj (ht.symm.trans ht')
 obtain⟨_,_,_,_,hl,_,_⟩:=DataW.trod_array hu hd
 have hcs:cs=C:=by
  apply Array.ext'
  apply List.ext_getElem?
  intro i
  by_cases hi:i<C.size
  ·have h1:((List.range C.size).map (cellAt P 8 t d))[i]?=(C.toList.map some)[i]?:=by rw[hC]
   rw[List.getElem?_map,List.getElem?_range hi,List.getElem?_map,Array.getElem?_toList,Array.getElem?_eq_getElem hi] at h1
   simp only[Option.map_some,Option.some.injEq] at h1
   rw[zcC 8 t d i _ _ _ _ hd h1,Array.getElem?_toList,Array.getElem?_eq_getElem hi]
  ·rw[List.getElem?_eq_none (by omega),List.getElem?_eq_none (by simpa using hi)]
 subst hcs
 exact zsE hvar hg
section
open Go.ChangeShapes Go.WideShapes Go.ChangeAt Go.Joins
open Go.ChangeMaps (open_string shut_string)

namespace treeEnv
theorem own:ownKnob Tryz.prog.godebug=none:=by kernel_rfl
theorem tSyn:(Tryz.prog.globals[5]?).map (·.type)=some 42:=by kernel_rfl
theorem tRan:(Tryz.prog.globals[6]?).map (·.type)=some 42:=by kernel_rfl
theorem tTab:(Tryz.prog.globals[9]?).map (·.type)=some 346:=by kernel_rfl
theorem g_sg : Tryz.prog.globalNamed "sluicebook/lex.signs" = some 1 := by kernel_rfl
theorem t_sg:(Tryz.prog.globals[1]?).map (·.type)=some 188:=by kernel_rfl
theorem zow:Tryz.prog.cellsOf 306=1:=by kernel_rfl
theorem zpG:Tryz.prog.cellsOf 9=1:=by kernel_rfl
theorem ztU:Tryz.prog.cellsOf 188=14:=by kernel_rfl
theorem zuC:Tryz.prog.cellsOf 267=1:=by kernel_rfl
theorem zuK:Tryz.prog.cellsOf 346=20:=by kernel_rfl
theorem star : "*" ++ "errors.errorString" = "*errors.errorString" := by decide
theorem rowES (u : TypeId) (h : Tryz.prog.typeName? 3 u = some "*errors.errorString") : u = 304 :=
 typeName_ptr_named (nm := "errors.errorString") (by rw [star]; kernel_rfl) (by kernel_rfl) (by decide) u (by rw [star]; exact h)
theorem zaX{W:World}{m:Nat}{x:Value}{l:List UInt8}{ps:List MemPlace}(h:DataW.trod (fun _=>()) Tryz.prog W 0 (fun _=>true) false m 9 [x]=some (.lit (.string l),ps)):x=.string ⟨l.toArray⟩:=by
 obtain⟨s,e1,r1,_⟩:=DataW.trod_string Tryz.underlying9 h
 simp at e1 r1
 subst e1
 obtain⟨rfl,_⟩:=r1
 simp
set_option maxRecDepth 100000 in
theorem sg_of {W : World} {rest : List (String × DataW Unit)} (h : laidMet Tryz.prog (("sluicebook/lex.signs", Rows.laid_sluicebook_lex_signs) :: rest) W) : SG W := by
 obtain⟨ps,⟨g',t',cs,fuel,p,q,hg',ht',hvar,hd,_,_⟩,_⟩:=h
 obtain rfl:=Option.some.inj (g_sg.symm.trans hg')
 obtain rfl:=Option.some.inj (t_sg.symm.trans ht')
 obtain⟨xs,m,_,hx,hl,hlen,hel⟩:=DataW.trod_array Tryz.underlying188 hd
 rw[ztU] at hl
 rw[zpG] at hel
 have hcs:∃c0 c1 c2 c3 c4 c5 c6 c7 c8 c9 c10 c11 c12 c13,cs=#[c0,c1,c2,c3,c4,c5,c6,c7,c8,c9,c10,c11,c12,c13]:=by
  obtain⟨l⟩:=cs
  match l,hl with
  | [c0,c1,c2,c3,c4,c5,c6,c7,c8,c9,c10,c11,c12,c13],_=>exact⟨_,_,_,_,_,_,_,_,_,_,_,_,_,_,rfl⟩
 obtain⟨c0,c1,c2,c3,c4,c5,c6,c7,c8,c9,c10,c11,c12,c13,rfl⟩:=hcs
 match xs,hlen with
 | [x0,x1,x2,x3,x4,x5,x6,x7,x8,x9,x10,x11,x12,x13],_ =>
  obtain⟨d0,q0⟩:=x0
  obtain⟨d1,q1⟩:=x1
  obtain⟨d2,q2⟩:=x2
  obtain⟨d3,q3⟩:=x3
  obtain⟨d4,q4⟩:=x4
  obtain⟨d5,q5⟩:=x5
  obtain⟨d6,q6⟩:=x6
  obtain⟨d7,q7⟩:=x7
  obtain⟨d8,q8⟩:=x8
  obtain⟨d9,q9⟩:=x9
  obtain⟨d10,q10⟩:=x10
  obtain⟨d11,q11⟩:=x11
  obtain⟨d12,q12⟩:=x12
  obtain⟨d13,q13⟩:=x13
  have hx2:=congrArg Prod.fst hx
  simp[Rows.laid_sluicebook_lex_signs] at hx2
  obtain⟨r0,r1,r2,r3,r4,r5,r6,r7,r8,r9,r10,r11,r12,r13⟩:=hx2
  subst r0 r1 r2 r3 r4 r5 r6 r7 r8 r9 r10 r11 r12 r13
  have e0:=zaX (by simpa using hel 0 (by decide))
  have e1:=zaX (by simpa using hel 1 (by decide))
  have e2:=zaX (by simpa using hel 2 (by decide))
  have e3:=zaX (by simpa using hel 3 (by decide))
  have e4:=zaX (by simpa using hel 4 (by decide))
  have e5:=zaX (by simpa using hel 5 (by decide))
  have e6:=zaX (by simpa using hel 6 (by decide))
  have e7:=zaX (by simpa using hel 7 (by decide))
  have e8:=zaX (by simpa using hel 8 (by decide))
  have e9:=zaX (by simpa using hel 9 (by decide))
  have e10:=zaX (by simpa using hel 10 (by decide))
  have e11:=zaX (by simpa using hel 11 (by decide))
  have e12:=zaX (by simpa using hel 12 (by decide))
  have e13:=zaX (by simpa using hel 13 (by decide))
  subst e0 e1 e2 e3 e4 e5 e6 e7 e8 e9 e10 e11 e12 e13
  have hc:=fun i=>World.var?_cell g_sg hvar i
  exact⟨by simpa using hc 0,by simpa using hc 1,by simpa using hc 2,by simpa using hc 3,by simpa using hc 4,by simpa using hc 5,by simpa using hc 6,by simpa using hc 7,by simpa using hc 8,by simpa using hc 9,by simpa using hc 10,by simpa using hc 11,by simpa using hc 12,by simpa using hc 13,zqo (o:=0) (by simpa using hc 0)⟩
theorem g_ops : Tryz.prog.globalNamed "sluicebook/tree.operations" = some 0 := by kernel_rfl
theorem t_ops:(Tryz.prog.globals[0]?).map (·.type)=some 162:=by kernel_rfl
theorem g_wds : Tryz.prog.globalNamed "sluicebook/tree.words" = some 3 := by kernel_rfl
theorem t_wds:(Tryz.prog.globals[3]?).map (·.type)=some 196:=by kernel_rfl
set_option maxRecDepth 100000 in
theorem zvi {W : World} {rest : List (String × DataW Unit)} (h : laidMet Tryz.prog (("sluicebook/tree.operations", Rows.laid_sluicebook_tree_operations) :: rest) W) : ∃ t fr, W.heap[0]? = some (.cells opsC t fr) :=
 zmR opsC h g_ops t_ops Tryz.underlying162 (by kernel_rfl) (by kernel_rfl)
set_option maxRecDepth 100000 in
theorem zvk {W : World} {rest : List (String × DataW Unit)} (h : laidMet Tryz.prog (("sluicebook/tree.words", Rows.laid_sluicebook_tree_words) :: rest) W) : ∃ t fr, W.heap[3]? = some (.cells zkM t fr) :=
 zmR zkM h g_wds t_wds Tryz.underlying196 (by kernel_rfl) (by kernel_rfl)
def flat:Nat→DataW Unit→List Value
 | 0,_=>[]
 | _+1,.lit (.int k n)=>[.int k n]
 | _+1,.lit (.string l)=>[.string ⟨l.toArray⟩]
 | f+1,.agg l=>l.flatMap (flat f)
 | _+1,_=>[]
def layAt(w:World)(g:Nat)(cs:List Value):World :=
 { w with heap:=w.heap.modify g fun
   | .cells _ t frozen=>.cells cs.toArray t frozen
   | o=>o }
def lay(w:World)(b:Nat):World :=
 layAt (layAt (layAt (layAt (layAt (layAt (layAt (layAt w 3 (flat 3 Rows.laid_sluicebook_tree_words)) 0 (flat 3 Rows.laid_sluicebook_tree_operations)) 10 (flat 3 Rows.laid_math_bits_deBruijn32tab)) 11 (flat 3 Rows.laid_math_bits_deBruijn64tab))
  9 (flat 3 Rows.laid_internal_strconv_uint64pow10))
  6 [.iface 304 (.pointer (some ⟨b,0,none⟩))]) 5 [.iface 304 (.pointer (some ⟨b+1,0,none⟩))])
  1 (flat 3 Rows.laid_sluicebook_lex_signs)
end treeEnv
end
section
open Go.BigFrame
variable {en : Nat}

def Reads(f:FuncId)(sub:List Tok→Option Ex×List Tok)(ts:List Tok):Prop:=∀(w:World) (r:Nat) ⦃en:Nat⦄,RdAt en w r ts→TEnv w→12≤r →
 Calls Tryz.prog f #[.pointer (some ⟨r,0,none⟩)] w fun e w'=>∃v ok x,e=.returned (.tuple #[v,.bool ok])∧Aside (ExIn w' (w.heap.size≤·) v x)∧Aside (RdAt en w' r (sub ts).2)∧Aside (But r w w')∧Hid ((sub ts).1=if ok=true then some x else none)
structure Box7(w:World)(b:Nat)(a0 a1 a2 a3 a4 a5 a6:Value):Prop where
 c0:w.cell? ⟨b,0,none⟩=some a0
 c1:w.cell? ⟨b,1,none⟩=some a1
 c2:w.cell? ⟨b,2,none⟩=some a2
 c3:w.cell? ⟨b,3,none⟩=some a3
 c4:w.cell? ⟨b,4,none⟩=some a4
 c5:w.cell? ⟨b,5,none⟩=some a5
 c6:w.cell? ⟨b,6,none⟩=some a6
 fz:∀o,w.frozen? ⟨b,o,none⟩=false
 lt:b<w.heap.size
theorem Box7.but{w w':World}{r b:Nat}{a0 a1 a2 a3 a4 a5 a6:Value}(h:Box7 w b a0 a1 a2 a3 a4 a5 a6)(hb:But r w w')(hr:b≠r):Box7 w' b a0 a1 a2 a3 a4 a5 a6:=by
 obtain⟨c0,c1,c2,c3,c4,c5,c6,fz,lt⟩:=h
 refine⟨?_,?_,?_,?_,?_,?_,?_,fun o=>by rw[zfA hb o lt hr];exact fz o,by have:=hb.size;omega⟩
 all_goals (rw[hb.cell _ lt hr];assumption)
theorem Box7.on{w w':World}{b:Nat}{a0 a1 a2 a3 a4 a5 a6:Value}(h:Box7 w b a0 a1 a2 a3 a4 a5 a6)(hb:Below w.heap.size w w'):Box7 w' b a0 a1 a2 a3 a4 a5 a6:=by
 obtain⟨c0,c1,c2,c3,c4,c5,c6,fz,lt⟩:=h
 have hc:=fun o=>hb.cell (p:=⟨b,o,none⟩) lt
 have hf:=fun o=>hb.frozen (p:=⟨b,o,none⟩) lt
 refine⟨?_,?_,?_,?_,?_,?_,?_,fun o=>by rw[hf];exact fz o,by have:=hb.size;omega⟩
 all_goals (rw[hc];assumption)
theorem zaq(w:World)(a0 a1 a2 a3 a4 a5 a6:Value)(t:TypeId):Box7 (w.alloc (.cells #[a0,a1,a2,a3,a4,a5,a6] t)) w.heap.size a0 a1 a2 a3 a4 a5 a6:=by
 refine⟨?_,?_,?_,?_,?_,?_,?_,fun o=>World.frozen?_alloc_at _ _ _ _ rfl,by simp⟩
 all_goals (rw[World.cell?_alloc_at _ _ _ _ rfl];rfl)
theorem zso(w:World)(n:Nat)(hn:n=w.heap.size)(a0 a1 a2 a3 a4 a5 a6:Value)(t:TypeId):Box7 (w.alloc (.cells #[a0,a1,a2,a3,a4,a5,a6] t)) n a0 a1 a2 a3 a4 a5 a6:=by
 subst hn
 exact zaq w a0 a1 a2 a3 a4 a5 a6 t
theorem Box7.set{w:World}{b:Nat}{a0 a1 a2 a3 a4 a5 a6:Value}(h:Box7 w b a0 a1 a2 a3 a4 a5 a6)(v0 v1 v2 v3 v4 v5 v6:Value):Box7 (((((((w.setCell ⟨b,0,none⟩ v0).setCell ⟨b,1,none⟩ v1).setCell ⟨b,2,none⟩ v2).setCell ⟨b,3,none⟩ v3).setCell ⟨b,4,none⟩ v4).setCell ⟨b,5,none⟩ v5).setCell ⟨b,6,none⟩ v6) b v0 v1 v2 v3 v4 v5 v6:=by
 obtain⟨c0,c1,c2,c3,c4,c5,c6,fz,lt⟩:=h
 refine⟨?_,?_,?_,?_,?_,?_,?_,fun o=>by simpa using fz o,by simpa [World.setCell] using lt⟩
 all_goals simp[World.cell?_setCell_other,World.cell?_setCell_same,c0,c1,c2,c3,c4,c5,c6]
theorem Box7.far{w:World}{b z:Nat}{a0 a1 a2 a3 a4 a5 a6:Value}(h:Box7 w b a0 a1 a2 a3 a4 a5 a6)(hz:b≠z)(v0 v1 v2 v3 v4 v5 v6:Value):Box7 (((((((w.setCell ⟨z,0,none⟩ v0).setCell ⟨z,1,none⟩ v1).setCell ⟨z,2,none⟩ v2).setCell ⟨z,3,none⟩ v3).setCell ⟨z,4,none⟩ v4).setCell ⟨z,5,none⟩ v5).setCell ⟨z,6,none⟩ v6) b a0 a1 a2 a3 a4 a5 a6:=by
 obtain⟨c0,c1,c2,c3,c4,c5,c6,fz,lt⟩:=h
 refine⟨?_,?_,?_,?_,?_,?_,?_,fun o=>by simpa using fz o,by simpa [World.setCell] using lt⟩
 all_goals simp[World.cell?_setCell_other,c0,c1,c2,c3,c4,c5,c6]
theorem But.set7{r:Nat}{w w1:World}(h:But r w w1){z:Nat}(hz:w.heap.size≤z)(hr:r≤z)(v0 v1 v2 v3 v4 v5 v6:Value):But r w (((((((w1.setCell ⟨z,0,none⟩ v0).setCell ⟨z,1,none⟩ v1).setCell ⟨z,2,none⟩ v2).setCell ⟨z,3,none⟩ v3).setCell ⟨z,4,none⟩ v4).setCell ⟨z,5,none⟩ v5).setCell ⟨z,6,none⟩ v6) :=
 ((((((h.setNew z 0 hz hr v0).setNew z 1 hz hr v1).setNew z 2 hz hr v2).setNew z 3 hz hr v3).setNew z 4 hz hr v4).setNew z 5 hz hr v5).setNew z 6 hz hr v6
theorem ExIn.set7{w:World}{lo:Nat→Prop}{v:Value}{x:Ex}(h:ExIn w lo v x){z:Nat}(hz:∀b,lo b→b≠z)(v0 v1 v2 v3 v4 v5 v6:Value):ExIn (((((((w.setCell ⟨z,0,none⟩ v0).setCell ⟨z,1,none⟩ v1).setCell ⟨z,2,none⟩ v2).setCell ⟨z,3,none⟩ v3).setCell ⟨z,4,none⟩ v4).setCell ⟨z,5,none⟩ v5).setCell ⟨z,6,none⟩ v6) lo v x :=
 ExIn.keep (by simp[World.setCell]) (fun b o h1 h2=>by have:=hz b h1;simp[World.cell?_setCell_other]) x v h
theorem RdAt.set7{w:World}{r:Nat}{ts:List Tok}(h:RdAt en w r ts){z:Nat}(hz:r<z)(v0 v1 v2 v3 v4 v5 v6:Value):RdAt en (((((((w.setCell ⟨z,0,none⟩ v0).setCell ⟨z,1,none⟩ v1).setCell ⟨z,2,none⟩ v2).setCell ⟨z,3,none⟩ v3).setCell ⟨z,4,none⟩ v4).setCell ⟨z,5,none⟩ v5).setCell ⟨z,6,none⟩ v6) r ts :=
 h.onB (((((((( Below.refl (r+1) w).setCell (p:=⟨z,0,none⟩) hz v0).setCell (p:=⟨z,1,none⟩) hz v1).setCell (p:=⟨z,2,none⟩) hz v2).setCell (p:=⟨z,3,none⟩) hz v3).setCell (p:=⟨z,4,none⟩) hz v4).setCell (p:=⟨z,5,none⟩) hz v5).setCell (p:=⟨z,6,none⟩) hz v6) (by simp[World.setCell])
theorem al(W:World)(o:Obj):Below W.heap.size W (W.alloc o):=(Below.refl W.heap.size W).alloc (Nat.le_refl _) o
def Off(n e:Nat)(b:Nat):Prop:=n<b∧b≠e
def zjn(sub:List Tok→Option Ex×List Tok)(gs:List (List UInt8))(ts:List Tok)(gg:Nat)(ok:Bool)(x:Ex)(ts':List Tok):Prop :=
 ts' <:+ ts∧(ok=true→ts'.length<gg∧uSev sub gs ts=uLoop sub gs gg x ts')∧(ok=false→uSev sub gs ts=(none,ts'))
theorem zgM{sub:List Tok→Option Ex×List Tok}{gs:List (List UInt8)}{ts:List Tok}{ok:Bool}{x:Ex}(hsuf:Suf sub)(h:(sub ts).1=if ok=true then some x else none):zjn sub gs ts ((sub ts).2.length+1) ok x (sub ts).2:=by
 refine⟨hsuf ts,?_,?_⟩
 ·rintro rfl
  rw[if_pos rfl] at h
  refine⟨by omega,?_⟩
  rw[uSev]
  cases h3:sub ts with
  | mk o r=>rw[h3] at h;simp only at h;subst h;rfl
 ·rintro rfl
  rw[if_neg (by decide)] at h
  rw[uSev]
  cases h3:sub ts with
  | mk o r=>rw[h3] at h;simp only at h;subst h;rfl
theorem zkX{sub:List Tok→Option Ex×List Tok}{gs:List (List UInt8)}{ts ts':List Tok}{gg:Nat}{x:Ex}(h:zjn sub gs ts gg true x ts')(hn:nxT (sgT gs) ts'=none):uSev sub gs ts=(some x,ts'):=by
 obtain⟨_,h2,_⟩:=h
 obtain⟨h3,h4⟩:=h2 rfl
 obtain⟨g,rfl⟩:∃g,gg=g+1:=⟨gg-1,by omega⟩
 rw[h4,uLoop,hn]
theorem zjD{sub:List Tok→Option Ex×List Tok}{gs:List (List UInt8)}{ts ts' rs:List Tok}{gg:Nat}{x y:Ex}{t:Tok}{ok:Bool}(hsuf:Suf sub)(h:zjn sub gs ts gg true x ts')(hn:nxT (sgT gs) ts'=some (t,rs))(hy:(sub rs).1=if ok=true then some y else none):zjn sub gs ts (gg-1) ok (betT x t y) (sub rs).2:=by
 obtain⟨h1,h2,_⟩:=h
 obtain⟨h3,h4⟩:=h2 rfl
 obtain⟨g,rfl⟩:∃g,gg=g+1:=⟨gg-1,by omega⟩
 obtain⟨rfl,_⟩:=zag hn
 have h5:=hsuf rs
 have h6:=h5.length_le
 refine⟨(h5.trans (List.suffix_cons t rs)).trans h1,?_,?_⟩
 ·rintro rfl
  rw[if_pos rfl] at hy
  simp only[List.length_cons] at h3
  refine⟨by omega,?_⟩
  rw[h4,uLoop,hn]
  cases h7:sub rs with
  | mk o r=>rw[h7] at hy;simp only at hy;subst hy;simp only[Nat.add_sub_cancel];rw[h7]
 ·rintro rfl
  rw[if_neg (by decide)] at hy
  rw[h4,uLoop,hn]
  cases h7:sub rs with
  | mk o r=>rw[h7] at hy;simp only at hy;subst hy;simp only;rw[h7]
abbrev partV(f:FuncId)(r:Nat):Value:=.func (.func f) #[.pointer (some ⟨r,0,none⟩)] #[]
theorem zbD(f:FuncId)(hent:∀(args:Array Value) (W:World),Sem.run Tryz.prog (callFunc f args) W=.ok (.enter f args) W)(sub:List Tok→Option Ex×List Tok)(gs:List (List UInt8))(ts:List Tok)(hsuf:Suf sub)(hg:Fit ts)
  (hsub:∀ts',ts' <:+ ts→Reads f sub ts')(w:World)(r p:Nat)(h:RdAt en w r ts)(hs:zbm w r p gs)(henv:TEnv w)(hr:12≤r) :
  Calls Tryz.prog 123 #[.pointer (some ⟨r,0,none⟩),partV f r,signV p] w fun e w'=>∃v ok x,e=.returned (.tuple #[v,.bool ok])∧Aside (ExIn w' (w.heap.size≤·) v x)∧Aside (RdAt en w' r (uSev sub gs ts).2)∧Aside (But r w w')∧Hid ((uSev sub gs ts).1=if ok=true then some x else none):=by
 have HR:Aside (RdAt en w r ts):=h
 have HS:Aside (zbm w r p gs):=hs
 have HE:Aside (TEnv w):=henv
 have HG:Aside (Fit ts):=hg
 have HC:Aside (∀ts',ts' <:+ ts→Reads f sub ts'):=hsub
 have hl:=h.lt
 clear h hs henv hg hsub
 go_enter Tryz.func123,Tryz.ntmps123
 have b0:=(Below.refl w.heap.size w).alloc (Nat.le_refl _) (.cells #[.string ⟨#[]⟩,.string ⟨#[]⟩,.int .i64 0,.int .i64 0,.string ⟨#[]⟩,.slice none 0 0,.int .i64 0] 30)
 have X0:=zaq w (.string ⟨#[]⟩) (.string ⟨#[]⟩) (.int .i64 0) (.int .i64 0) (.string ⟨#[]⟩) (.slice none 0 0) (.int .i64 0) 30
 go_wp2_with fail
 refine (HC.out ts List.suffix_rfl _ r (HR.out.on b0) (HE.out.on b0) hr).mono ?_
 rintro e w1 ⟨v,ok,x,rfl,hx,hrd,hbt,hres⟩
 obtain⟨o1,n1,t1,k1,s1,p1,m1,c1,a1,rfl⟩:=hx.out.agg
 have X1:=X0.but hbt.out (by omega)
 clear X0
 have X2:=zaq w1 (.string o1) (.string n1) (.int .i64 t1) (.int .i64 k1) (.string s1) (.slice p1 m1 c1) (.int .i64 a1) 30
 have bb:=(Below.refl w1.heap.size w1).alloc (Nat.le_refl _) (.cells #[.string o1,.string n1,.int .i64 t1,.int .i64 k1,.string s1,.slice p1 m1 c1,.int .i64 a1] 30)
 have hz0:w.heap.size+1≤w1.heap.size:=by have:=hbt.out.size;simpa using this
 have B1:But r w w1:=(But.of_below' b0 (by omega)).trans hbt.out
 go_wp2
 go_loopg [9,10,11,12] ((sub ts).2.length+1) (fun gg s9 _ _ _ wr=>∃(ok':Bool) (x':Ex) (ts':List Tok) (o n:ByteArray) (t k:Int) (s:ByteArray) (q:Option Addr) (m c:Nat) (a:Int),s9=.bool ok'∧Aside (Box7 wr w1.heap.size (.string o) (.string n) (.int .i64 t) (.int .i64 k) (.string s) (.slice q m c) (.int .i64 a))∧Aside (Box7 wr w.heap.size (.string ⟨#[]⟩) (.string ⟨#[]⟩) (.int .i64 0) (.int .i64 0) (.string ⟨#[]⟩) (.slice none 0 0) (.int .i64 0))∧Aside (ExIn wr (Off w.heap.size w1.heap.size) (.agg #[.string o,.string n,.int .i64 t,.int .i64 k,.string s,.slice q m c,.int .i64 a]) x')∧Aside (RdAt en wr r ts')∧Aside (But r w wr)∧Hid (zjn sub gs ts gg ok' x' ts'))
 case atStart=>exact⟨ok,x,(sub ts).2,o1,n1,t1,k1,s1,p1,m1,c1,a1,rfl,(show Aside _ from X2),(show Aside _ from X1.on bb),(show Aside _ from (ExIn.low (fun b hb1 hb2=>⟨by simp at hb2;omega,by omega⟩) _ _ hx.out).on bb),(show Aside _ from hrd.out.on bb),(show Aside _ from B1.on bb hl),(show Hid _ from zgM hsuf hres.out)⟩
 case round =>
  obtain⟨ok',x',ts',o,n,t,k,s,q,m,c,a,rfl,BE,BZ,HX,RD,BW,SR⟩:=hrel
  clear X1 X2 bb hbt hrd hx hres
  obtain⟨c0,c1,c2,c3,c4,c5,c6,cf,cl⟩:=BE.out
  obtain⟨d0,d1,d2,d3,d4,d5,d6,df,dl⟩:=BZ.out
  have df0:=df 0
  have df1:=df 1
  have df2:=df 2
  have df3:=df 3
  have df4:=df 4
  have df5:=df 5
  have df6:=df 6
  clear df
  cases ok'
  ·have hres:=SR.out.2.2 rfl
   go_wp2
   refine bodyPost_ret (v:=.tuple #[.agg #[.string o,.string n,.int .i64 t,.int .i64 k,.string s,.slice q m c,.int .i64 a],.bool false]) (by simp[results,Tryz.results123,go_sem,d0,d1,d2,d3,d4,d5,d6]) rfl ⟨_,false,x',rfl,?_,?_,?_,?_⟩
   ·exact ExIn.low (fun b _ hb=>Nat.le_of_lt hb.1) _ _ (HX.out.set7 (fun b hb=>by have:=hb.1;omega) _ _ _ _ _ _ _)
   ·rw[hres];exact RD.out.set7 (by omega) _ _ _ _ _ _ _
   ·exact BW.out.set7 (Nat.le_refl _) (by omega) _ _ _ _ _ _ _
   ·show _=_
    rw[hres];rfl
  ·cases hn:nxT (sgT gs) ts' with
   | none =>
    have cT:=zap gs p wr r ts' RD.out (HS.out.but BW.out).sign hn
    have hres:=zkX SR.out hn
    rw[noTok] at cT
    clear hn c0 c1 c2 c3 c4 c5 c6 cf cl d0 d1 d2 d3 d4 d5 d6 df0 df1 df2 df3 df4 df5 df6 dl
    go_wp2_with fail
    refine cT.mono ?_
    rintro e w2 ⟨rfl,rd2,b2⟩
    obtain⟨c0,c1,c2,c3,c4,c5,c6,cf,cl⟩:=BE.out.but b2 (by omega)
    obtain⟨d0,d1,d2,d3,d4,d5,d6,df,dl⟩:=BZ.out.but b2 (by omega)
    have df0:=df 0
    have df1:=df 1
    have df2:=df 2
    have df3:=df 3
    have df4:=df 4
    have df5:=df 5
    have df6:=df 6
    clear df
    go_wp2
    refine bodyPost_ret (v:=.tuple #[.agg #[.string o,.string n,.int .i64 t,.int .i64 k,.string s,.slice q m c,.int .i64 a],.bool true]) (by simp[results,Tryz.results123,go_sem,d0,d1,d2,d3,d4,d5,d6,dl]) rfl ⟨_,true,x',rfl,?_,?_,?_,?_⟩
    ·exact ExIn.low (fun b _ hb=>Nat.le_of_lt hb.1) _ _ (((HX.out.but b2 (fun b hb=>by have:=hb.1;omega)).set7 (fun b hb=>by have:=hb.1;omega) _ _ _ _ _ _ _).on (al _ _))
    ·rw[hres];exact (rd2.set7 (by omega) _ _ _ _ _ _ _).on (al _ _)
    ·exact ((BW.out.trans b2).set7 (Nat.le_refl _) (by omega) _ _ _ _ _ _ _).on (al _ _) hl
    ·show _=_
     rw[hres];rfl
   | some y =>
    obtain⟨tt,rs⟩:=y
    have cT:=zao gs p wr r tt ts' rs RD.out (HS.out.but BW.out).sign hn
    have hsf:rs <:+ ts:=by
     obtain⟨rfl,_⟩:=zag hn
     exact (List.suffix_cons tt rs).trans SR.out.1
    have hts:tt.2.1.size≤400:=by
     obtain⟨rfl,_⟩:=zag hn
     exact HG.out _ (SR.out.1.mem List.mem_cons_self)
    have HN:Hid (nxT (sgT gs) ts'=some (tt,rs)):=hn
    have cP:=HC.out rs hsf
    have cBt:=fun W v2 y (h1:ExIn W (Off w.heap.size w1.heap.size) (.agg #[.string o,.string n,.int .i64 t,.int .i64 k,.string s,.slice q m c,.int .i64 a]) x') (h2:ExIn W (Off w.heap.size w1.heap.size) v2 y) (hW:w1.heap.size<W.heap.size)=>zez W _ tt _ v2 x' y h1 h2 (fun b hb=>⟨by omega,by omega⟩) (by unfold maxLen;omega)
    rw[tokV] at cT cBt
    obtain⟨tk,tx,ta⟩:=tt
    simp only at cT cBt hts
    clear hn c0 c1 c2 c3 c4 c5 c6 cf cl d0 d1 d2 d3 d4 d5 d6 df0 df1 df2 df3 df4 df5 df6 dl
    go_wp2_with fail
    refine cT.mono ?_
    rintro e w2 ⟨rfl,rd2,b2⟩
    have hz2:=b2.size
    have hEl:=BE.out.lt
    have bb:=((Below.refl w2.heap.size w2).alloc (Nat.le_refl _) (.cells #[.int .i64 tk,.string tx,.int .i64 (ta:Int)] 83)).alloc (by simp) (.cells #[.string ⟨#[]⟩,.string ⟨#[]⟩,.int .i64 0,.int .i64 0,.string ⟨#[]⟩,.slice none 0 0,.int .i64 0] 30)
    go_wp2_with fail
    refine (cP _ r (rd2.on bb) ((HE.out.but ((BW.out.trans b2).on bb hl) hr)) hr).mono ?_
    rintro e w3 ⟨v,ok,y,rfl,hx,hrd,hbt,hres⟩
    obtain⟨o9,n9,t9,k9,s9,p9,m9,c9,a9,rfl⟩:=hx.out.agg
    have hz3:w2.heap.size+2≤w3.heap.size:=by have:=hbt.out.size;simpa using this
    have E3:=((BE.out.but b2 (by omega)).on bb).but hbt.out (by omega)
    have Z3:=((BZ.out.but b2 (by omega)).on bb).but hbt.out (by omega)
    have R3:=(zso (w2.alloc (.cells #[.int .i64 tk,.string tx,.int .i64 (ta:Int)] 83)) (w2.heap.size+1) (by simp) (.string ⟨#[]⟩) (.string ⟨#[]⟩) (.int .i64 0) (.int .i64 0) (.string ⟨#[]⟩) (.slice none 0 0) (.int .i64 0) 30).but hbt.out (by omega)
    have T3:∀i,w3.cell? ⟨w2.heap.size,i,none⟩=(#[.int .i64 tk,.string tx,.int .i64 (ta:Int)]:Array Value)[i]?:=fun i=>by
     rw[hbt.out.cell _ (by simp;omega) (by omega),World.cell?_alloc_past _ _ _ (by simp),World.cell?_alloc_at _ _ _ _ rfl]
    have X3:=((ExIn.low (lo':=fun b=>Off w.heap.size w1.heap.size b∧b<w2.heap.size) (fun b h1 h2=>⟨h2,h1⟩) _ _ (HX.out.but b2 (fun b hb=>by have:=hb.1;omega))).on bb).but hbt.out (fun b hb=>by have:=hb.1.1;omega)
    have g0:=T3 0
    have g1:=T3 1
    have g2:=T3 2
    simp at g0 g1 g2
    have HY:=ExIn.low (lo':=Off w.heap.size w1.heap.size) (fun b _ hb=>⟨by simp at hb;omega,by simp at hb;omega⟩) _ _ (hx.out.set7 (z:=w2.heap.size+1) (fun b hb=>by simp at hb;omega) (.string o9) (.string n9) (.int .i64 t9) (.int .i64 k9) (.string s9) (.slice p9 m9 c9) (.int .i64 a9))
    have HX3:=ExIn.low (lo':=Off w.heap.size w1.heap.size) (fun b _ hb=>hb.1) _ _ (X3.set7 (z:=w2.heap.size+1) (fun b hb=>by have:=hb.2;omega) (.string o9) (.string n9) (.int .i64 t9) (.int .i64 k9) (.string s9) (.slice p9 m9 c9) (.int .i64 a9))
    have E4:=E3.far (z:=w2.heap.size+1) (by omega) (.string o9) (.string n9) (.int .i64 t9) (.int .i64 k9) (.string s9) (.slice p9 m9 c9) (.int .i64 a9)
    have Z4:=Z3.far (z:=w2.heap.size+1) (by omega) (.string o9) (.string n9) (.int .i64 t9) (.int .i64 k9) (.string s9) (.slice p9 m9 c9) (.int .i64 a9)
    have RD4:=hrd.out.set7 (z:=w2.heap.size+1) (by omega) (.string o9) (.string n9) (.int .i64 t9) (.int .i64 k9) (.string s9) (.slice p9 m9 c9) (.int .i64 a9)
    have B4:=(((BW.out.trans b2).on bb hl).trans hbt.out).set7 (z:=w2.heap.size+1) (by omega) (by omega) (.string o9) (.string n9) (.int .i64 t9) (.int .i64 k9) (.string s9) (.slice p9 m9 c9) (.int .i64 a9)
    have SR2:Hid (zjn sub gs ts (gk-1) ok (betT x' (tk,tx,ta) y) (sub rs).2):=zjD hsuf SR.out HN.out hres.out
    have hgk:0<gk:=by have:=(SR.out.2.1 rfl).1;omega
    have C4:=cBt _ _ y HX3 HY (by simp[World.setCell];omega)
    obtain⟨c0,c1,c2,c3,c4,c5,c6,cf,cl⟩:=E3
    obtain⟨r0,r1,r2,r3,r4,r5,r6,rf,rl⟩:=R3
    have rf0:=rf 0
    have rf1:=rf 1
    have rf2:=rf 2
    have rf3:=rf 3
    have rf4:=rf 4
    have rf5:=rf 5
    have rf6:=rf 6
    clear rf cf cP cT cBt T3 X3 HX3 HY Z3 hrd hbt bb hx hres b2 rd2 BW HX RD BZ BE HN SR
    go_wp2_with fail
    refine C4.mono ?_
    rintro e w4 ⟨⟨v,rfl,hv⟩,b4⟩
    obtain⟨u0,u1,u2,u3,u4,u5,u6,u7,u8,rfl⟩:=hv.agg
    have E5:=E4.on b4
    have Z5:=Z4.on b4
    have RD5:=RD4.on b4
    have B5:=B4.on b4 hl
    clear E4 Z4 RD4 B4 C4 b4 c0 c1 c2 c3 c4 c5 c6 cl r0 r1 r2 r3 r4 r5 r6 rf0 rf1 rf2 rf3 rf4 rf5 rf6 rl g0 g1 g2
    have E6:=E5.set (.string u0) (.string u1) (.int .i64 u2) (.int .i64 u3) (.string u4) (.slice u5 u6 u7) (.int .i64 u8)
    have Z6:=Z5.far (z:=w1.heap.size) (by omega) (.string u0) (.string u1) (.int .i64 u2) (.int .i64 u3) (.string u4) (.slice u5 u6 u7) (.int .i64 u8)
    have RD6:=RD5.set7 (z:=w1.heap.size) (by omega) (.string u0) (.string u1) (.int .i64 u2) (.int .i64 u3) (.string u4) (.slice u5 u6 u7) (.int .i64 u8)
    have B6:=B5.set7 (z:=w1.heap.size) (by omega) (by omega) (.string u0) (.string u1) (.int .i64 u2) (.int .i64 u3) (.string u4) (.slice u5 u6 u7) (.int .i64 u8)
    have X6:=hv.set7 (z:=w1.heap.size) (fun b hb=>hb.2) (.string u0) (.string u1) (.int .i64 u2) (.int .i64 u3) (.string u4) (.slice u5 u6 u7) (.int .i64 u8)
    obtain⟨c0,c1,c2,c3,c4,c5,c6,cf,cl⟩:=E5
    have rf0:=cf 0
    have rf1:=cf 1
    have rf2:=cf 2
    have rf3:=cf 3
    have rf4:=cf 4
    have rf5:=cf 5
    have rf6:=cf 6
    clear cf hv Z5 RD5 B5
    go_wp2
    go_roundg (gk-1)
    case measure=>omega
    case rel=>exact⟨ok,_,_,_,_,_,_,_,_,_,_,_,rfl,(show Aside _ from E6),(show Aside _ from Z6),(show Aside _ from X6),(show Aside _ from RD6),(show Aside _ from B6),SR2⟩
end
end Go.Proofs.YtopghagjmdbglaaGreatDoor
