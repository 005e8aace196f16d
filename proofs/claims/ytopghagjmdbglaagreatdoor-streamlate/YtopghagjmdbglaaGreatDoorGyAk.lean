/-
  QyM, QuC1, QyEnv, IntsOpen, WdA, BlkB, BsS, KpR, InG.
-/
import Derived.Test.YtopghagjmdbglaaGreatDoorGyAj
import Derived.Test.YtopghagjmdbglaaGreatDoorGyAg
import Derived.Test.YtopghagjmdbglaaGreatDoorGyAi
import Derived.Deep.MidRow
import Derived.Test.YtopghagjmdbglaaGreatDoorGyAh
import Derived.Deep.QuietTactic
import Derived.Test.YtopghagjmdbglaaGreatDoorGyAd
import Derived.LaidHandle
import Derived.LaidSub
import Derived.Lib.SmallJoins
import Derived.ProofKit
import Derived.OpenShut
import Derived.Deep.SlicePairs
import Derived.Test.YtopghagjmdbglaaGreatDoorGyAa
import Derived.OwnWalk
import Derived.Laws.AppendOwnNone
import Derived.Laws.OwnMore
import Derived.WalkSmall
import Derived.BigQuiet
import Derived.Deep.LoopGhost
import Derived.Lib.OthersKept
import Derived.OneCell
import Derived.Laws.CopyOwn
import Derived.Laws.Tables
import Derived.Test.YtopghagjmdbglaaGreatDoorGyAf
import Derived.Lib.AppendZeros
import Derived.Lib.Overlaps
import Derived.Shelf.Spec.SlicesInsert
import Derived.Lib.AppendZerosOnto
import Derived.Deep.RegionLaw
import Derived.Deep.DeepCutAuto
namespace Go.Proofs.YtopghagjmdbglaaGreatDoor
open Go.RowKit
set_option linter.unusedVariables false
set_option linter.unusedSimpArgs false
set_option maxHeartbeats 8000000
set_option maxRecDepth 20000
abbrev exV(x:Ex)(p:Option Addr)(c:Nat):Value:=.agg #[.string x.op,.string x.nm,.int .i64 x.vt,.int .i64 x.vn,.string x.vs,.slice p x.args.length c,.int .i64 x.pos]
def AgsIn(w:World)(lo:Nat→Prop)(b off:Nat)(l:List Ag):Prop:=∀j (h:j<l.length),∃ap ac,w.cell? ⟨b,off+j*9,none⟩=some (.string l[j].what)∧w.cell? ⟨b,off+j*9+1,none⟩=some (.string l[j].arg.op)∧w.cell? ⟨b,off+j*9+2,none⟩=some (.string l[j].arg.nm)∧w.cell? ⟨b,off+j*9+3,none⟩=some (.int .i64 l[j].arg.vt)∧w.cell? ⟨b,off+j*9+4,none⟩=some (.int .i64 l[j].arg.vn)∧w.cell? ⟨b,off+j*9+5,none⟩=some (.string l[j].arg.vs)∧w.cell? ⟨b,off+j*9+6,none⟩=some (.slice ap l[j].arg.args.length ac)∧w.cell? ⟨b,off+j*9+7,none⟩=some (.int .i64 l[j].arg.pos)∧w.cell? ⟨b,off+j*9+8,none⟩=some (.string l[j].name)∧ExIn w lo (exV l[j].arg ap ac) l[j].arg
def AgsIs(w:World)(lo:Nat→Prop)(p:Option Addr)(l:List Ag):Prop:=l.length≤1048576∧(l.length=0∨∃b off,p=some ⟨b,off,none⟩∧b<w.heap.size∧lo b∧AgsIn w lo b off l)
abbrev qyC(q:Qy)(wp:Option Addr)(wc:Nat)(cp:Option Addr)(cc:Nat)(np:Option Addr)(nc:Nat)(gp:Option Addr)(gc:Nat)(ap:Option Addr)(ac:Nat):Array Value :=
 #[.string q.frm,.string q.whr.op,.string q.whr.nm,.int .i64 q.whr.vt,.int .i64 q.whr.vn,.string q.whr.vs,.slice wp q.whr.args.length wc,.int .i64 q.whr.pos,.slice cp q.cols.length cc,.slice np q.names.length nc,.slice gp q.group.length gc,.int .i64 q.size,.int .i64 q.slide,.slice ap q.aggs.length ac]
structure QyBe(w:World)(lo:Nat→Prop)(q:Qy)(wp:Option Addr)(wc:Nat)(cp:Option Addr)(cc:Nat)(np:Option Addr)(nc:Nat)(gp:Option Addr)(gc:Nat)(ap:Option Addr)(ac:Nat):Prop where
 whr:ExIn w lo (exV q.whr wp wc) q.whr
 cols:zat w lo (.slice cp q.cols.length cc) q.cols
 clen:q.cols.length≤1048576
 names:StsA w (.slice np q.names.length nc) q.names
 group:StsA w (.slice gp q.group.length gc) q.group
 aggs:AgsIs w lo ap q.aggs
def QyIn(w:World)(lo:Nat→Prop)(v:Value)(q:Qy):Prop:=∃wp wc cp cc np nc gp gc ap ac,v=.agg (qyC q wp wc cp cc np nc gp gc ap ac)∧QyBe w lo q wp wc cp cc np nc gp gc ap ac
theorem AgsIn.on{w w':World}{lo:Nat→Prop}{b off:Nat}{l:List Ag}(h:AgsIn w lo b off l)(hlt:b<w.heap.size)(hb:Below w.heap.size w w'):AgsIn w' lo b off l:=fun j hj=>by
 obtain⟨ap,ac,c0,c1,c2,c3,c4,c5,c6,c7,c8,hx⟩:=h j hj
 have k:∀o,w'.cell? ⟨b,o,none⟩=w.cell? ⟨b,o,none⟩:=fun o=>hb.cell (p:=⟨b,o,none⟩) hlt
 exact⟨ap,ac,by rw[k];exact c0,by rw[k];exact c1,by rw[k];exact c2,by rw[k];exact c3,by rw[k];exact c4,by rw[k];exact c5,by rw[k];exact c6,by rw[k];exact c7,by rw[k];exact c8,hx.on hb⟩
theorem AgsIs.on{w w':World}{lo:Nat→Prop}{p:Option Addr}{l:List Ag}(h:AgsIs w lo p l)(hb:Below w.heap.size w w'):AgsIs w' lo p l:=by
 obtain⟨h1,h2⟩:=h
 refine⟨h1,?_⟩
 rcases h2 with h2|⟨b,off,e,hl,hlo,h3⟩
 ·exact .inl h2
 ·exact .inr ⟨b,off,e,by have:=hb.size;omega,hlo,h3.on hl hb⟩
theorem zat.onB{w w':World}{lo:Nat→Prop}{v:Value}{l:List Ex}(h:zat w lo v l)(hb:Below w.heap.size w w'):zat w' lo v l:=h.keep hb.size (fun b o _ hl=>hb.cell (p:=⟨b,o,none⟩) hl)
theorem QyBe.on{w w':World}{lo:Nat→Prop}{q:Qy}{wp:Option Addr}{wc:Nat}{cp:Option Addr}{cc:Nat}{np:Option Addr}{nc:Nat}{gp:Option Addr}{gc:Nat}{ap:Option Addr}{ac:Nat}(h:QyBe w lo q wp wc cp cc np nc gp gc ap ac)(hb:Below w.heap.size w w'):QyBe w' lo q wp wc cp cc np nc gp gc ap ac :=
 ⟨h.whr.on hb,h.cols.onB hb,h.clen,h.names.on hb,h.group.on hb,h.aggs.on hb⟩
theorem QyIn.on{w w':World}{lo:Nat→Prop}{v:Value}{q:Qy}(h:QyIn w lo v q)(hb:Below w.heap.size w w'):QyIn w' lo v q:=by
 obtain⟨wp,wc,cp,cc,np,nc,gp,gc,ap,ac,e,h⟩:=h
 exact⟨wp,wc,cp,cc,np,nc,gp,gc,ap,ac,e,h.on hb⟩
theorem ztg{W:World}{b o:Nat}{v0 v1 v2 v3 v4 v5 v6:Value}(h0:W.cell? ⟨b,o,none⟩=some v0)(h1:W.cell? ⟨b,o+1,none⟩=some v1)(h2:W.cell? ⟨b,o+2,none⟩=some v2)(h3:W.cell? ⟨b,o+3,none⟩=some v3)(h4:W.cell? ⟨b,o+4,none⟩=some v4)(h5:W.cell? ⟨b,o+5,none⟩=some v5)(h6:W.cell? ⟨b,o+6,none⟩=some v6):W.rangeAt b o [v0,v1,v2,v3,v4,v5,v6]:=fun j v hv=>by
 have hj:j<7:=by have:=(List.getElem?_eq_some_iff.1 hv).1;simpa using this
 have:j=0∨j=1∨j=2∨j=3∨j=4∨j=5∨j=6:=by omega
 rcases this with rfl|rfl|rfl|rfl|rfl|rfl|rfl
 all_goals (simp at hv;subst hv;assumption)
theorem zfn{w:World}{lo:Nat→Prop}{p:Option Addr}{n c:Nat}{l:List Ex}(h:zat w lo (.slice p n c) l){j:Nat}(hj:j<l.length):∃ba oa yp yc,p=some ⟨ba,oa,none⟩∧ba<w.heap.size∧lo ba∧w.rangeAt ba (oa+j*7) [.string l[j].op,.string l[j].nm,.int .i64 l[j].vt,.int .i64 l[j].vn,.string l[j].vs,.slice yp l[j].args.length yc,.int .i64 l[j].pos]∧ExIn w lo (exV l[j] yp yc) l[j]:=by
 obtain⟨p',c',e,-,h⟩:=h
 injection e with e1 e2 e3
 subst e1
 rcases h with h0|⟨ba,oa,e,hbl,hlo,hE⟩
 ·exact absurd h0 (by omega)
 ·obtain⟨v0,v1,v2,v3,v4,v5,v6,e0,e1,e2,e3,e4,e5,e6,hy⟩:=zbL w lo ba l oa hE j hj
  obtain⟨yp,yc,hw,-⟩:=hy.whole
  injection hw with hw
  simp only[Array.mk.injEq,List.cons.injEq,and_true] at hw
  obtain⟨rfl,rfl,rfl,rfl,rfl,rfl,rfl⟩:=hw
  exact⟨ba,oa,yp,yc,e,hbl,hlo,ztg e0 e1 e2 e3 e4 e5 e6,hy⟩
section
open Go.BigFrame
theorem zaL(x:Ex)(lo:Nat→Prop)(v:Value)(w:World)(hx:ExIn w lo v x) :
  Calls Tryz.prog 101 #[v] w fun e w'=>e=.returned (.bool (noOp x))∧Below w.heap.size w w':=by
 obtain⟨xp,xc,rfl,-⟩:=hx.whole
 obtain⟨NO,hNO⟩:∃NO,noOp x=NO:=⟨_,rfl⟩
 have hd:decide (x.op.data.toList=[])=NO:=hNO
 rw[hNO]
 clear hNO hx
 obtain⟨op,nm,vt,vn,vs,pos,l⟩:=x
 simp only[Ex.op,Ex.nm,Ex.vt,Ex.vn,Ex.vs,Ex.args,Ex.pos] at hd ⊢
 cases NO
 ·have h:¬op.data.toList=[]:=by simpa using hd
  have hq:(op.toList == [])=false:=by rw[Lib.toList_data];simpa using h
  clear hd h
  go_enter Tryz.func101,Tryz.ntmps101
  go_wp2
  go_ret
  exact⟨rfl,(Below.refl _ _).alloc (Nat.le_refl _) _⟩
 ·have h:op.data.toList=[]:=by simpa using hd
  have hq:(op.toList == [])=true:=by rw[Lib.toList_data];simpa using h
  clear hd h
  go_enter Tryz.func101,Tryz.ntmps101
  go_wp2
  go_ret
  exact⟨rfl,(Below.refl _ _).alloc (Nat.le_refl _) _⟩
theorem zaO{w:World}{v:Value}{zs:List Cl}(h:ColsV w v zs):∃q c,v=.slice q zs.length c:=by
 obtain⟨q,c,e,-⟩:=h
 exact⟨q,c,e⟩
theorem zhC(x:Ex)(lo:Nat→Prop)(v vl:Value)(zs:List Cl)(w:World)(henv:KEnv w)(hx:ExIn w lo v x)(hsz:(x.pre 1).length≤1048576)(hcv:ColsV w vl zs)(T E:Int)(hR:ofT zs x=(T,E)) :
  Calls Tryz.prog 102 #[v,vl] w fun e w'=>e=.returned (.tuple #[.int .i64 T,errV E])∧Below w.heap.size w w':=by
 obtain⟨T0,H0,P0,hO⟩:∃T0 H0 P0,ofP zs x=(T0,H0,P0):=⟨_,_,_,rfl⟩
 rw[ofT,hO] at hR
 simp only at hR
 have b1:=fun o=>(Below.refl w.heap.size w).alloc (Nat.le_refl _) o
 obtain⟨xp,xc,hxe,-⟩:=id hx.whole
 obtain⟨q,c,hvl⟩:=zaO hcv
 have cO:=fun o=>zvc x lo v vl zs (w.alloc o) (henv.on (b1 o)) (hx.on (b1 o)) hsz (hcv.on (b1 o)) T0 H0 P0 hO
 clear hx hcv henv hO
 subst hxe hvl
 generalize zs.length=NZ at cO ⊢
 obtain⟨op,nm,vt,vn,vs,pos,l⟩:=x
 simp only[Ex.op,Ex.nm,Ex.vt,Ex.vn,Ex.vs,Ex.args,Ex.pos] at cO ⊢
 generalize l.length=NL at cO ⊢
 have fin:∀{o:Obj} {w1:World},Below (w.alloc o).heap.size (w.alloc o) w1→∀o2,Below w.heap.size w (w1.alloc o2):=fun {o w1} b2 o2=>(((Below.refl w.heap.size w).alloc (Nat.le_refl _) o).trans (b2.mono (by simp))).alloc (by have:=b2.size;simp at this;omega) _
 by_cases hh:H0=0
 ·subst hh
  rw[if_neg (by simp)] at hR
  obtain⟨rfl,rfl⟩:=Prod.mk.inj hR
  rw[errV,if_pos rfl]
  go_enter Tryz.func102,Tryz.ntmps102
  go_wp2_with fail
  refine (cO _).mono ?_
  rintro e w1 ⟨rfl,b2⟩
  have F:=fin b2
  clear b1 cO fin
  go_wp2
  go_ret2
  exact⟨rfl,F _⟩
 ·rw[if_pos hh] at hR
  obtain⟨rfl,rfl⟩:=Prod.mk.inj hR
  rw[errV,if_neg hh]
  have hb:(H0 != 0)=true:=by simpa using hh
  go_enter Tryz.func102,Tryz.ntmps102
  go_wp2_with fail
  refine (cO _).mono ?_
  rintro e w1 ⟨rfl,b2⟩
  have F:=fin b2
  clear b1 cO fin
  go_wp2
  go_quiet (fail)
  go_wp2
  go_ret2
  exact⟨rfl,below_drewN (F _) _⟩
theorem zsW{ts:List ByteArray}{x:ByteArray}{k:Nat}(h:k<ts.length)(e:ts[k].data.toList=x.data.toList):(ts.any fun a=>a.data.toList == x.data.toList)=true:=by
 rw[List.any_eq_true]
 exact⟨ts[k],List.getElem_mem h,by simpa using e⟩
theorem zqY{ts:List ByteArray}{x:ByteArray}(h:∀j (hj:j<ts.length),ts[j].data.toList≠x.data.toList):(ts.any fun a=>a.data.toList == x.data.toList)=false:=by
 rw[List.any_eq_false]
 intro g hg
 obtain⟨j,hj,rfl⟩:=List.getElem_of_mem hg
 simpa using h j hj
theorem zng(x:ByteArray)(p:Option Addr)(n c:Nat)(ts:List ByteArray)(w:World)(hn:ts.length=n)(h:StsA w (.slice p n c) ts)(h100:n≤100) :
  Calls Tryz.prog 120 #[.slice p n c,.string x] w fun e w'=>∃n:Int,e=.returned (.int .i64 n)∧Hid (decide (0≤n)=ts.any fun a=>a.data.toList == x.data.toList)∧w'=w:=by
 have HS:Aside (StsA w (.slice p n c) ts):=h
 have HN:Hid (ts.length=n):=hn
 obtain⟨R,hR⟩:∃R,(ts.any fun a=>a.data.toList == x.data.toList)=R:=⟨_,rfl⟩
 have HR:Hid ((ts.any fun a=>a.data.toList == x.data.toList)=R):=hR
 rw[hR]
 clear h hn hR
 go_enter Tryz.func120,Tryz.ntmps120
 go_wp2
 go_loopg [5,8] n (fun gg _ s8 wr=>∃kk:Nat,kk≤n∧n-kk≤gg∧s8=.int .i64 kk∧wr=w∧Aside (∀j (hj:j<ts.length),j<kk→ts[j].data.toList≠x.data.toList))
 case atStart=>exact⟨0,Nat.zero_le _,by omega,rfl,rfl,(show Aside _ from fun j _ hj=>absurd hj (Nat.not_lt_zero _))⟩
 case round =>
  obtain⟨kk,hkk,hg,rfl,rfl,A⟩:=hrel
  by_cases hlt:kk<n
  ·have hltz:(kk:Int)<(n:Int):=by omega
   have hk2:kk<ts.length:=by rw[HN.out];exact hlt
   obtain⟨b,off,rfl,hbl,hce⟩:=zeI HS.out hk2
   have hcell:=hce kk hk2
   clear hce
   generalize hy:ts[kk]=y at hcell
   have HY:Hid (ts[kk]=y):=hy
   clear hy
   by_cases he:y.data.toList=x.data.toList
   ·have hq:(x.toList == y.toList)=true:=by rw[Lib.toList_data,Lib.toList_data];simpa using he.symm
    have hq2:(y.toList == x.toList)=true:=by rw[Lib.toList_data,Lib.toList_data];simpa using he
    go_wp2
    go_ret
    refine⟨kk,rfl,?_,rfl⟩
    show _=_
    rw[←HR.out,zsW hk2 (by rw[HY.out];exact he)]
    simp
   ·have he2:¬x.data.toList=y.data.toList:=fun h=>he h.symm
    have hq:(x.toList == y.toList)=false:=by rw[Lib.toList_data,Lib.toList_data];simpa using he2
    have hq2:(y.toList == x.toList)=false:=by rw[Lib.toList_data,Lib.toList_data];simpa using he
    go_wp2
    go_roundg (n-(kk+1))
    case measure=>omega
    case rel =>
     refine⟨kk+1,by omega,by omega,by go_num,rfl,(show Aside _ from fun j hj hjk=>?_)⟩
     by_cases e:j=kk
     ·subst e
      rw[HY.out];exact he
     ·exact A.out j hj (by omega)
  ·have hltz:¬(kk:Int)<(n:Int):=by omega
   go_wp2
   go_ret
   refine⟨-1,rfl,?_,rfl⟩
   show _=_
   rw[←HR.out,zqY (fun j hj=>A.out j hj (by have:=HN.out;omega))]
   rfl
theorem zhc(x:ByteArray)(p:Option Addr)(n c:Nat)(ts:List ByteArray)(w:World)(hn:ts.length=n)(h:StsA w (.slice p n c) ts)(h100:n≤100) :
  Calls Tryz.prog 89 #[.slice p n c,.string x] w fun e w'=>e=.returned (.bool (ts.any fun a=>a.data.toList == x.data.toList))∧w'=w:=by
 have cI:=zng x p n c ts w hn h h100
 generalize (ts.any fun a=>a.data.toList == x.data.toList)=R at cI
 clear h hn
 go_enter Tryz.func89,Tryz.ntmps89
 go_wp2_with fail
 refine cI.mono ?_
 rintro e w' ⟨n,rfl,HR,rfl⟩
 go_wp2
 go_ret
 exact⟨zaJ HR.out,rfl⟩
theorem zfC(g:ByteArray)(p:Option Addr)(n c:Nat)(ts:List ByteArray)(vl:Value)(zs:List Cl)(w:World)(hn:ts.length=n)(hst:StsA w (.slice p n c) ts)(h100:n≤100)(hcv:ColsV w vl zs)(hz:zs.length≠0)(h6:zs.length≤6)(T E:Int)(hR:grT zs ts g=(T,E)) :
  Calls Tryz.prog 131 #[.string g,.slice p n c,vl] w fun e w'=>e=.returned (.tuple #[.int .i64 T,errV E])∧Below w.heap.size w w':=by
 obtain⟨q,cc,rfl,hc⟩:=hcv
 rcases hc with h0|⟨b,off,rfl,hcap,hsz,hin⟩
 ·exact absurd h0 hz
 rw[grT] at hR
 have cC:=fun W (hb:Below w.heap.size w W)=>zhc g p n c ts W hn (hst.on hb) h100
 generalize (ts.any fun a=>a.data.toList == g.data.toList)=R at cC hR
 rcases zbA g.data.toList zs with ⟨hf,-⟩|⟨k,hf,hk,-⟩
 ·have cF:=ziK g b off cc zs w (by omega) hin hf
  rw[hf,if_pos (by decide)] at hR
  obtain⟨rfl,rfl⟩:=Prod.mk.inj hR
  rw[errV,if_neg (by decide)]
  clear hin hst
  generalize zs.length=NZ at cF hcap ⊢
  go_enter Tryz.func131,Tryz.ntmps131
  go_wp2_with fail
  refine cF.mono ?_
  rintro e w1 ⟨rfl,b1⟩
  go_wp2
  go_ret2
  exact⟨rfl,b1⟩
 ·have cF:=zgP g b off cc zs w (by omega) hin k hf
  rw[hf,if_neg (by omega)] at hR
  have hcell:=(hin.2 k hk).2
  have hbl:=hin.1
  have hg:(zs[(k:Int).toNat]?.getD (⟨#[]⟩,0)).2=zs[k].2:=by simp[List.getElem?_eq_getElem hk]
  rw[hg] at hR
  generalize zs[k].2=TT at hcell hR
  have hkz:(k:Int)<(zs.length:Int):=by omega
  have h0z:(0:Int)≤(k:Int):=by omega
  clear hin hst hg hsz
  generalize zs.length=NZ at cF hcap hkz ⊢
  cases R
  ·rw[if_neg (by decide)] at hR
   obtain⟨rfl,rfl⟩:=Prod.mk.inj hR
   rw[errV,if_pos rfl]
   go_enter Tryz.func131,Tryz.ntmps131
   go_wp2_with fail
   refine cF.mono ?_
   rintro e w1 ⟨rfl,b1⟩
   go_wp2_with fail
   refine (cC _ b1).mono ?_
   rintro e w2 ⟨rfl,rfl⟩
   rw[←b1.cell (p:=⟨b,off+k*2+1,none⟩) hbl] at hcell
   go_wp2
   go_ret2
   exact⟨rfl,b1⟩
  ·rw[if_pos rfl] at hR
   obtain⟨rfl,rfl⟩:=Prod.mk.inj hR
   rw[errV,if_neg (by decide)]
   go_enter Tryz.func131,Tryz.ntmps131
   go_wp2_with fail
   refine cF.mono ?_
   rintro e w1 ⟨rfl,b1⟩
   go_wp2_with fail
   refine (cC _ b1).mono ?_
   rintro e w2 ⟨rfl,rfl⟩
   go_wp2
   go_ret2
   exact⟨rfl,b1⟩
abbrev agV(a:Ag)(ap:Option Addr)(ac:Nat):Value:=.agg #[.string a.what,.string a.arg.op,.string a.arg.nm,.int .i64 a.arg.vt,.int .i64 a.arg.vn,.string a.arg.vs,.slice ap a.arg.args.length ac,.int .i64 a.arg.pos,.string a.name]
end
section
open Go.ChangeShapes Go.WideShapes Go.ChangeAt Go.Joins
open Go.ChangeMaps (open_string shut_string)

namespace qyEnv
theorem et : Tryz.prog.globalNamed "errors.errorType" = some 4 := by kernel_rfl
theorem rt : (Tryz.prog.cutTypes.find? (·.1 == "internal/reflectlite.rtype")).map (·.2) = some 127 := by kernel_rfl
theorem zuZ:((List.range 394).filter fun t=>Tryz.prog.rowNamed t [101,114,114,111,114])=[42]:=by kernel_rfl
theorem size:Tryz.prog.types.size=394:=by kernel_rfl
theorem handleStreamLate{W:World}(h:laidMetH Tryz.prog Rows.streamLateRow.laid W):W.cell? ⟨4,0,none⟩=some (.iface 127 (.agg #[.pointer (some ⟨12,42,none⟩)])):=by
 have h2:=(laidMetH_iff.1 h).2
 obtain⟨name,u,ty,e1,e2,e3,e4,e5⟩:=h2 _ (List.mem_singleton.2 rfl)
 have en:name=[101,114,114,111,114]:=(Option.some.inj e1).symm
 subst en
 obtain rfl:=Option.some.inj (rt.symm.trans e2)
 have hm:ty∈(List.range 394).filter fun t=>Tryz.prog.rowNamed t [101,114,114,111,114]:=List.mem_filter.2 ⟨List.mem_range.2 (by rw[←size];exact e3),e4⟩
 rw[zuZ] at hm
 obtain rfl:=List.mem_singleton.1 hm
 have hh:typeHandle Tryz.prog 42=.pointer (some ⟨12,42,none⟩):=by kernel_rfl
 rw[hh] at e5
 simpa using World.var?_cell et e5 0
theorem g_rul : Tryz.prog.globalNamed "sluicebook/kind.rules" = some 8 := by kernel_rfl
theorem t_rul:(Tryz.prog.globals[8]?).map (·.type)=some 323:=by kernel_rfl
theorem g_ags : Tryz.prog.globalNamed "sluicebook/query.aggs" = some 2 := by kernel_rfl
theorem t_ags:(Tryz.prog.globals[2]?).map (·.type)=some 193:=by kernel_rfl
set_option maxRecDepth 100000 in
theorem zvy {W : World} {rest : List (String × DataW Unit)} (h : laidMet Tryz.prog (("sluicebook/kind.rules", Rows.laid_sluicebook_kind_rules) :: rest) W) : REnv W :=
 zmR ziT h g_rul t_rul Tryz.underlying323 (by kernel_rfl) (by kernel_rfl)
set_option maxRecDepth 100000 in
theorem zuQ {W : World} {rest : List (String × DataW Unit)} (h : laidMet Tryz.prog (("sluicebook/query.aggs", Rows.laid_sluicebook_query_aggs) :: rest) W) : ∃ t fr, W.heap[2]? = some (.cells aggsC t fr) :=
 zmR aggsC h g_ags t_ags Tryz.underlying193 (by kernel_rfl) (by kernel_rfl)
theorem zvr{W:World}(hsh:W.ShapedOpen Tryz.prog):12≤W.heap.size:=by
 obtain⟨o,o0,h,_⟩:=hsh.2 12 (Nat.le_of_eq (by kernel_rfl)) (of_decide_eq_true (by kernel_rfl))
 exact Nat.le_of_lt (Array.getElem?_eq_some_iff.1 h).1
open treeEnv in
theorem env {W : World} {r1 r2 : List (String × DataW Unit)} (h2 : laidMet Tryz.prog (("internal/strconv.uint64pow10", Rows.laid_internal_strconv_uint64pow10) :: r1) W) (h4 : laidMet Tryz.prog (("strconv.ErrRange", Rows.laid_strconv_ErrRange) :: ("strconv.ErrSyntax", Rows.laid_strconv_ErrSyntax) :: ("sluicebook/lex.signs", Rows.laid_sluicebook_lex_signs) :: ("sluicebook/row.typeWords", Rows.laid_sluicebook_row_typeWords) :: ("sluicebook/tree.words", Rows.laid_sluicebook_tree_words) :: ("sluicebook/tree.operations", Rows.laid_sluicebook_tree_operations) :: ("sluicebook/kind.rules", Rows.laid_sluicebook_kind_rules) :: ("sluicebook/query.aggs", Rows.laid_sluicebook_query_aggs) :: r2) W)
  (het:W.cell? ⟨4,0,none⟩=some (.iface 127 (.agg #[.pointer (some ⟨12,42,none⟩)])))(hsh:W.ShapedOpen Tryz.prog):KEnv W∧AEnv W∧SG W:=by
 have h5 : laidMet Tryz.prog (("strconv.ErrSyntax", Rows.laid_strconv_ErrSyntax) :: _) W := h4.tail
 have h6 : laidMet Tryz.prog (("sluicebook/lex.signs", Rows.laid_sluicebook_lex_signs) :: _) W := h5.tail
 have h7 : laidMet Tryz.prog (("sluicebook/row.typeWords", Rows.laid_sluicebook_row_typeWords) :: _) W := h6.tail
 have h8 : laidMet Tryz.prog (("sluicebook/tree.words", Rows.laid_sluicebook_tree_words) :: _) W := h7.tail
 have h9 : laidMet Tryz.prog (("sluicebook/tree.operations", Rows.laid_sluicebook_tree_operations) :: _) W := h8.tail
 have h10 : laidMet Tryz.prog (("sluicebook/kind.rules", Rows.laid_sluicebook_kind_rules) :: _) W := h9.tail
 have h11 : laidMet Tryz.prog (("sluicebook/query.aggs", Rows.laid_sluicebook_query_aggs) :: _) W := h10.tail
 obtain⟨a0,s0,hv0,_⟩:=laid_sentinel h4 g_ran tRan Tryz.underlying42 rowES Tryz.underlying304 Tryz.underlying306 rfl rfl Tryz.underlying9 zow zpG
 obtain⟨a1,s1,hv1,_⟩:=laid_sentinel h5 g_syn tSyn Tryz.underlying42 rowES Tryz.underlying304 Tryz.underlying306 rfl rfl Tryz.underlying9 zow zpG
 have htab : Lib.TabIs Tryz.prog W "internal/strconv.uint64pow10" .u64 Lib.pow10Tab := Lib.tabIs_of_head g_tab tTab Tryz.underlying346 Tryz.underlying267 zuC zuK h2
 have hbig:=zvr hsh
 have hT:TEnv W:=⟨⟨htab,⟨_,_,hv1⟩,⟨_,_,hv0⟩,by omega,by omega,by omega⟩,hbig,zvi h9,zvk h8⟩
 exact⟨⟨hT,tw_of h7,het,zvy h10⟩,⟨hbig,zuQ h11⟩,sg_of h6⟩
def lay(w:World)(b:Nat):World :=
 treeEnv.layAt (treeEnv.layAt (treeEnv.layAt (treeEnv.layAt (treeEnv.lay w b) 7 (treeEnv.flat 5 Rows.laid_sluicebook_row_typeWords)) 8 (treeEnv.flat 5 Rows.laid_sluicebook_kind_rules)) 2 (treeEnv.flat 5 Rows.laid_sluicebook_query_aggs)) 4 [.iface 127 (.agg #[.pointer (some ⟨12,42,none⟩)])]
end qyEnv
end
section
open Go.ChangeShapes Go.WideShapes Go.ChangeAt Go.Joins Go.Deep
namespace intsOpen
set_option maxRecDepth 100000 in
theorem open_ints{H:Type}{enc:TypeId×Value→H}{W:World}{base:Nat}{v:Value}{d:DataW H}{p:List MemPlace}(hv:Value.okWide Tryz.prog W .any base 22 v)(h:DataW.Trod enc Tryz.prog W 0 (fun _=>true) true 22 v d p) :
  ∃(q:Option Addr)(N c:Nat)(ts:List Int),v=.slice q N c∧ts.length=N∧N≤maxLen∧zdv W q ts:=by
 obtain⟨a0,len0,cap0,rfl⟩:=okWide_slice Tryz.underlying22 hv
 obtain⟨fuel,hf⟩:=h
 rcases open_slice Tryz.underlying22 hf with ⟨hcs,hx⟩|⟨a,len,cap,m,n,D,Pl,hcs,_,hl,hm,hmeq,hx,hall⟩
 ·simp[Value.cells] at hcs
  obtain⟨rfl,rfl,rfl⟩:=hcs
  exact⟨_,_,_,[],rfl,rfl,Nat.zero_le _,.inl rfl⟩
 ·simp[Value.cells] at hcs
  obtain⟨rfl,rfl,rfl⟩:=hcs
  by_cases h0:len0=0
  ·subst h0
   exact⟨_,_,_,[],rfl,rfl,Nat.zero_le _,.inl rfl⟩
  ·simp only[if_true] at hmeq
   subst hmeq
   have each:∀i,i<len0→∃t:Int,W.cell? (a.add (i*1))=some (.int .i64 t):=by
    intro i hi
    obtain⟨cs',h1,h2⟩:=hall i (by omega)
    rw[zlg] at h1
    obtain⟨_,hlen,hcell⟩:=World.cells?_some h1
    match cs',hlen with
    | [v0],_ =>
     obtain⟨x0,e0,_,_⟩:=DataW.trod_int Tryz.underlying3 h2
     simp at e0
     subst e0
     have g0:=hcell 0 (by omega)
     rw[add_add] at g0
     exact⟨x0,by simpa using g0⟩
   obtain⟨f,hF⟩:=choose_lt (α:=Int) each
   obtain⟨sb,so,spot⟩:=a
   have hspot:spot=none:=by simpa [Addr.add] using World.cell?_spot (hF 0 (by omega))
   subst hspot
   refine⟨_,_,_,(List.range len0).map f,rfl,by simp,by omega,.inr ⟨sb,so,rfl,?_,fun j hj=>?_⟩⟩
   ·have:=hF 0 (by omega)
    exact zcK (o:=so+0*1) (by simpa [add_plain] using this)
   ·have:=hF j (by simpa using hj)
    simp only[List.getElem_map,List.getElem_range]
    simpa [add_plain] using this

end intsOpen
end
theorem zhP:(Tryz.prog.info? 3).map (fun i=>(i.zero,i.size,i.bytes))=some (some (.int .i64 0),1,8):=by kernel_rfl
def intC(ts:List Int):List Value:=ts.map fun t=>.int .i64 t
def IntA(w:World)(v:Value)(ts:List Int):Prop:=∃p c,v=.slice p ts.length c∧(ts.length≤c∧ts.length≤1048576)∧(p=none→c=0)∧∀a,p=some a→∃g off,a=⟨g,off,none⟩∧g<w.heap.size∧∀j (h:j<ts.length),w.cell? ⟨g,off+j,none⟩=some (.int .i64 ts[j])
theorem IntA.on{w w':World}{v:Value}{ts:List Int}(h:IntA w v ts)(hb:Below w.heap.size w w'):IntA w' v ts:=by
 obtain⟨p,c,e,h1,h2,h3⟩:=h
 refine⟨p,c,e,h1,h2,fun a ha=>?_⟩
 obtain⟨g,off,e2,h5,h6⟩:=h3 a ha
 exact⟨g,off,e2,by have:=hb.size;omega,fun j hj=>by rw[hb.cell (p:=⟨g,off+j,none⟩) h5];exact h6 j hj⟩
theorem IntA.nil(w:World):IntA w (.slice none 0 0) []:=⟨none,0,rfl,⟨Nat.le_refl _,Nat.zero_le _⟩,fun _=>rfl,fun a h=>nomatch h⟩
theorem zms{w:World}{B:Nat}{v:Value}{n:Nat}{ts:List Int}(hn:ts.length=n)(hl:n≤1048576)(h:w.ownsRow B 3 1 v n (intC ts)):IntA w v ts:=by
 subst hn
 rcases id h.2 with ⟨rfl,e⟩|⟨g,cap,cur,rfl,hb,hg,hm,hx,hs,ht⟩
 ·exact⟨none,0,by rw[e],⟨by omega,by omega⟩,fun _=>rfl,fun a ha=>nomatch ha⟩
 ·refine⟨some ⟨g,0,none⟩,cap,rfl,⟨by omega,hl⟩,(fun hp=>nomatch hp),fun a ha=>?_⟩
  injection ha with ha
  subst ha
  refine⟨g,0,rfl,(Array.getElem?_eq_some_iff.1 hg).1,fun j hj=>?_⟩
  have:=h.cells (g:=g) rfl j (.int .i64 ts[j]) (by rw[intC,List.getElem?_map,List.getElem?_eq_getElem hj];rfl)
  rw[Go.WideShapes.add_plain] at this
  exact this
def Blk(w:World)(b:Nat)(cs:Array Value)(t:TypeId):Prop:=w.heap[b]?=some (.cells cs t (0,0))
theorem Blk.lt{w:World}{b:Nat}{cs:Array Value}{t:TypeId}(h:Blk w b cs t):b<w.heap.size:=lt_of_block h
theorem Blk.cell{w:World}{b:Nat}{cs:Array Value}{t:TypeId}(h:Blk w b cs t)(i:Nat):w.cell? ⟨b,i,none⟩=cs[i]?:=by unfold Blk at h;simp[World.cell?,h]
theorem Blk.frozen{w:World}{b:Nat}{cs:Array Value}{t:TypeId}(h:Blk w b cs t)(i:Nat):w.frozen? ⟨b,i,none⟩=false:=frozen_of_row w b i cs t h
theorem Blk.keep{w w':World}{b:Nat}{cs:Array Value}{t:TypeId}(h:Blk w b cs t)(hk:w'.heap[b]?=w.heap[b]?):Blk w' b cs t:=by unfold Blk at *;rw[hk];exact h
theorem Blk.set{w:World}{b:Nat}{cs:Array Value}{t:TypeId}(h:Blk w b cs t)(i:Nat)(v:Value):Blk (w.setCell ⟨b,i,none⟩ v) b (cs.setIfInBounds i v) t:=heap_setCell_same w b i cs t v h
theorem Blk.far{w:World}{b z:Nat}{cs:Array Value}{t:TypeId}(h:Blk w b cs t)(hz:b≠z)(i:Nat)(v:Value):Blk (w.setCell ⟨z,i,none⟩ v) b cs t:=h.keep (heap_setCell_other w _ b v hz)
theorem Blk.but{w w':World}{r b:Nat}{cs:Array Value}{t:TypeId}(h:Blk w b cs t)(hb:But r w w')(hr:b≠r):Blk w' b cs t:=h.keep (hb.kept b h.lt hr)
theorem Blk.on{w w':World}{b:Nat}{cs:Array Value}{t:TypeId}(h:Blk w b cs t)(hb:Below w.heap.size w w'):Blk w' b cs t:=h.keep (hb.block b h.lt)
theorem Blk.grown{w w':World}{b:Nat}{cs:Array Value}{t:TypeId}{row:Option Nat}(h:Blk w b cs t)(hg:w.grownBy w' row)(hr:some b≠row):Blk w' b cs t:=h.keep (hg.block b h.lt hr)
theorem zac(w:World)(cs:Array Value)(t:TypeId):Blk (w.alloc (.cells cs t)) w.heap.size cs t:=by
 show (w.heap.push _)[_]?=_
 rw[Array.getElem?_push_size]
def KeepB(B:Nat)(w w':World):Prop:=w.heap.size≤w'.heap.size∧∀b,B≤b→b<w.heap.size→w'.heap[b]?=w.heap[b]?
theorem KeepB.trans{B:Nat}{w w1 w2:World}(h:KeepB B w w1)(k:KeepB B w1 w2):KeepB B w w2:=⟨Nat.le_trans h.1 k.1,fun b h1 h2=>by rw[k.2 b h1 (by have:=h.1;omega),h.2 b h1 h2]⟩
theorem KeepB.but{B r:Nat}{w w':World}(h:But r w w')(hr:r<B):KeepB B w w':=⟨h.size,fun b h1 h2=>h.kept b h2 (by omega)⟩
theorem KeepB.set{B z:Nat}(w:World)(i:Nat)(v:Value)(hz:z<B):KeepB B w (w.setCell ⟨z,i,none⟩ v):=⟨by simp[World.setCell],fun b h1 _=>heap_setCell_other w _ b v (by show b≠z;omega)⟩
theorem zar{w w':World}{B B':Nat}{e:TypeId}{size n:Nat}{v:Value}{xs:List Value}(h:w.ownsRow B e size v n xs)(hk:KeepB B' w w')(hB:B'≤B):w'.ownsRow B e size v n xs:=by
 refine⟨h.1,?_⟩
 rcases h.2 with hn|⟨g,cap,cur,rfl,h1,hgg,rest⟩
 ·exact .inl hn
 ·exact .inr ⟨g,cap,cur,rfl,h1,by rw[hk.2 g (by omega) (Array.getElem?_eq_some_iff.1 hgg).1];exact hgg,rest⟩
structure Kp(S:Nat→Prop)(w w':World):Prop where
 low:Below 0 w w'
 kept:∀k,k<w.heap.size→¬S k→w'.heap[k]?=w.heap[k]?
theorem Kp.size{S:Nat→Prop}{w w':World}(h:Kp S w w'):w.heap.size≤w'.heap.size:=h.low.size
theorem Kp.refl(S:Nat→Prop)(w:World):Kp S w w:=⟨Below.refl _ _,fun _ _ _=>rfl⟩
theorem Kp.trans{S:Nat→Prop}{w w1 w2:World}(h:Kp S w w1)(k:Kp S w1 w2):Kp S w w2 :=
 ⟨h.low.trans k.low,fun b hb hs=>by rw[k.kept b (by have:=h.size;omega) hs,h.kept b hb hs]⟩
theorem Kp.mono{S S':Nat→Prop}{w w1:World}(h:Kp S w w1)(hs:∀k,k<w.heap.size→S k→S' k):Kp S' w w1:=⟨h.low,fun b hb hn=>h.kept b hb (fun e=>hn (hs b hb e))⟩
theorem Kp.of_below{S:Nat→Prop}{w w1:World}(h:Below w.heap.size w w1):Kp S w w1:=⟨h.mono (Nat.zero_le _),fun b hb _=>h.block b hb⟩
theorem Kp.below{S:Nat→Prop}{w w1:World}{B:Nat}(h:Kp S w w1)(hB:B≤w.heap.size)(hs:∀k,k<B→¬S k):Below B w w1 :=
 ⟨h.low.os,h.low.tape,h.low.output,h.low.size,fun k hk=>h.kept k (by omega) (hs k hk)⟩
theorem Kp.on{S:Nat→Prop}{w w1 w2:World}(h:Kp S w w1)(k:Below w1.heap.size w1 w2):Kp S w w2:=h.trans (Kp.of_below k)
theorem Kp.set{S:Nat→Prop}{w w1:World}(h:Kp S w w1){b:Nat}(o:Nat)(v:Value)(hs:b<w.heap.size→S b):Kp S w (w1.setCell ⟨b,o,none⟩ v) :=
 ⟨h.low.setCell (p:=⟨b,o,none⟩) (Nat.zero_le _) v,fun k hk hn=>by rw[Below.heap_setCell _ _ _ _ (fun e=>by simp at e;subst e;exact hn (hs hk))];exact h.kept k hk hn⟩
theorem Kp.drew{S:Nat→Prop}{w w1:World}(h:Kp S w w1):Kp S w w1.drew:=⟨h.low.drew,h.kept⟩
theorem Kp.grown{S:Nat→Prop}{w w1 w2:World}{row:Option Nat}(h:Kp S w w1)(hg:w1.grownBy w2 row)(hr:∀k,row=some k→k<w.heap.size→S k):Kp S w w2 :=
 ⟨h.low.grown hg (Nat.zero_le _) (fun _ _=>Nat.zero_le _),fun k hk hn=>by rw[hg.block k (by have:=h.size;omega) (fun e=>hn (hr k e.symm hk))];exact h.kept k hk hn⟩
theorem Kp.cell{S:Nat→Prop}{w w1:World}(h:Kp S w w1){b:Nat}(o:Nat)(hb:b<w.heap.size)(hs:¬S b):w1.cell? ⟨b,o,none⟩=w.cell? ⟨b,o,none⟩:=by
 simp only[World.cell?,h.kept b hb hs]
theorem Blk.kp{S:Nat→Prop}{w w1:World}{b:Nat}{cs:Array Value}{t:TypeId}(h:Blk w b cs t)(hf:Kp S w w1)(hs:¬S b):Blk w1 b cs t:=h.keep (hf.kept b h.lt hs)
theorem Blk.there{w:World}{b:Nat}{cs:Array Value}{t:TypeId}(h:Blk w b cs t)(o n:Nat)(hn:o+n≤cs.size):w.there b o n:=fun j hj=>by
 refine⟨?_,h.frozen _⟩
 rw[h.cell,Array.getElem?_eq_getElem (by omega)]
 rfl
def putA:Array Value→Nat→List Value→Array Value
 | cs,_,[]=>cs
 | cs,o,v::r=>putA (cs.setIfInBounds o v) (o+1) r
theorem Blk.cells{b:Nat}{t:TypeId}:∀(vs:List Value) (o:Nat) (w:World) (cs:Array Value),Blk w b cs t→Blk (w.setCells b o vs) b (putA cs o vs) t
 | [],_,_,_,h=>h
 | v::r,o,_,_,h=>Blk.cells r (o+1) _ _ (h.set o v)
theorem zgi{w:World}{b o o':Nat}{v:Value}(h:o≠o'):(w.setCell ⟨b,o,none⟩ v).cell? ⟨b,o',none⟩=w.cell? ⟨b,o',none⟩:=by
 rw[World.cell?_setCell_other]
 intro e
 injection e with _ e
 exact h e
theorem ztM{w:World}{b o:Nat}{v u:Value}(h:w.cell? ⟨b,o,none⟩=some u):(w.setCell ⟨b,o,none⟩ v).cell? ⟨b,o,none⟩=some v:=by
 simp[World.cell?_setCell_same,h]
theorem Blk.drew{w:World}{b:Nat}{cs:Array Value}{t:TypeId}(h:Blk w b cs t):Blk w.drew b cs t:=h
theorem But.cells{r:Nat}{w:World}:∀(vs:List Value) (o:Nat) (w1:World),But r w w1→But r w (w1.setCells r o vs)
 | [],_,_,h=>h
 | v::vs,o,_,h=>But.cells vs (o+1) _ (h.set o v)
theorem Kp.of_but{r:Nat}{S:Nat→Prop}{w w1:World}(h:But r w w1)(hS:S r):Kp S w w1:=⟨h.below.mono (Nat.zero_le _),fun k hk hn=>h.kept k hk (fun e=>by subst e;exact hn hS)⟩
theorem zaj{P:Program}{ops:Array Oper}{rest:List Oper}{op:Oper}{a:Act}{W:World}{Q:Exit→Act→World→Prop}(hgd:op.guard=none)(ty:TypeId)(x y:Operand)(ho:op.op=.store ty x y)
  (b o:Nat)(cells:Array Value)(hx:a.eval x=.pointer (some ⟨b,o,none⟩))(hy:a.eval y=.agg cells)(cs:Array Value)(T:TypeId)(hb:Blk W b cs T)(hn:o+cells.size≤cs.size)
  (hi:(P.info? ty).map (·.size)=some cells.size)(h1:cells.all (·.oneCell')=true)
  (h:∀W',Blk W' b (putA cs o cells.toList) T→But b W W'→wpList P ops Q rest (a.put op.dst undef) W'):wpList P ops Q (op::rest) a W :=
 wpList_store_mid hgd ty x y ho b o cells hx hy (hb.there o cells.size hn) hi h1 (h _ (Blk.cells _ _ _ _ hb) (But.cells _ _ _ (But.refl _ _)))
theorem zal{P:Program}{ops:Array Oper}{rest:List Oper}{op:Oper}{a:Act}{W:World}{Q:Exit→Act→World→Prop}(hgd:op.guard=none)(ty:TypeId)(x:Operand)(ho:op.op=.load ty x)
  (b o:Nat)(hx:a.eval x=.pointer (some ⟨b,o,none⟩))(cs:Array Value)(T:TypeId)(hb:Blk W b cs T)(l:List Value)(hr:∀j v,l[j]?=some v→cs[o+j]?=some v)(d:TypeDesc)
  (hu:P.underlying ty=some d)(hd:d.isRow=true)(hi:(P.info? ty).map (·.size)=some l.length)
  (h:wpList P ops Q rest (a.put op.dst (.agg l.toArray)) W):wpList P ops Q (op::rest) a W :=
 wpList_load_mid hgd ty x ho b o hx l d (fun j v hv=>by rw[hb.cell];exact hr j v hv) hu hd hi h
section
open Go.BigFrame
theorem zrd(fn:FuncId)(hent:∀(args:Array Value) (W:World),Sem.run Tryz.prog (callFunc fn args) W=.ok (.enter fn args) W)(caps:Array Value)(b off n c:Nat)(tg:Value)(ps:Nat→Value)(cs:Nat→Int)(w:World)(hn:n≤1000000)
  (hb:b<w.heap.size)(hp:∀j,j<n→w.cell? ⟨b,off+j,none⟩=some (ps j))(k:Nat)(hk:k≤n)(h1:∀j,j<k→cs j<0)(h2:∀j,k≤j→j<n→0≤cs j)
  (hc:∀j,j<n→∀W,Below w.heap.size w W→Calls Tryz.prog fn (#[ps j,tg]++caps) W fun e w'=>e=.returned (.int .i64 (cs j))∧Below W.heap.size W w') :
  Calls Tryz.prog 172 #[.slice (some ⟨b,off,none⟩) n c,tg,.func (.func fn) #[] caps] w fun e w'=>e=.returned (.tuple #[.int .i64 (k:Int),.bool (decide (k<n)&&(cs k == 0))])∧Below w.heap.size w w':=by
 have HP:=(show Aside _ from hp)
 have HC:=(show Aside _ from hc)
 have H1:=(show Aside _ from h1)
 have H2:=(show Aside _ from h2)
 have hnz:(n:Int)≤1000000:=by omega
 clear hp hc h1 h2
 go_enter Tryz.func172,Tryz.ntmps172
 go_wp2
 go_loopg [9,10,11] n (fun gg s9 s10 _ wr=>∃i j:Nat,i≤k∧k≤j∧j≤n∧j-i≤gg∧s9=.int .i64 (i:Int)∧s10=.int .i64 (j:Int)∧Aside (Below w.heap.size w wr))
 case atStart=>exact⟨0,n,Nat.zero_le _,hk,Nat.le_refl _,by omega,rfl,rfl,(show Aside _ from Below.refl _ _)⟩
 case round =>
  obtain⟨i,j,hi,hj,hjn,hg,rfl,rfl,BW⟩:=hrel
  have hiz:(i:Int)≤1000000:=by omega
  have hjz:(j:Int)≤1000000:=by omega
  have hi0:(0:Int)≤(i:Int):=by omega
  have hj0:(0:Int)≤(j:Int):=by omega
  by_cases hlt:i<j
  ·have hltz:(i:Int)<(j:Int):=by omega
   have hm:(i+j) / 2<n:=by omega
   have hcell:=HP.out _ hm
   rw[←BW.out.cell (p:=⟨b,off+(i+j) / 2,none⟩) hb] at hcell
   have cC:=HC.out _ hm wr BW.out
   by_cases hneg:cs ((i+j) / 2)<0
   ·have hk2:(i+j) / 2<k:=by
     rcases Nat.lt_or_ge ((i+j) / 2) k with h|h
     ·exact h
     ·have:=H2.out _ h hm;omega
    generalize cs ((i+j) / 2)=cv at cC hneg
    go_wp2_with fail
    refine cC.mono ?_
    rintro e w1 ⟨rfl,b1⟩
    have BW2:Aside (Below w.heap.size w w1):=BW.out.trans (b1.mono BW.out.size)
    clear cC b1 BW hcell
    go_wp2
    go_roundg (j-((i+j) / 2+1))
    case measure=>omega
    case rel=>exact⟨(i+j) / 2+1,j,by omega,hj,hjn,by omega,by (first|go_num|(congr 1;omega)),rfl,BW2⟩
   ·have hk2:k≤(i+j) / 2:=by
     rcases Nat.lt_or_ge ((i+j) / 2) k with h|h
     ·exact absurd (H1.out _ h) hneg
     ·exact h
    generalize cs ((i+j) / 2)=cv at cC hneg
    go_wp2_with fail
    refine cC.mono ?_
    rintro e w1 ⟨rfl,b1⟩
    have BW2:Aside (Below w.heap.size w w1):=BW.out.trans (b1.mono BW.out.size)
    clear cC b1 BW hcell
    go_wp2
    go_roundg ((i+j) / 2-i)
    case measure=>omega
    case rel=>exact⟨i,(i+j) / 2,hi,hk2,by omega,by omega,rfl,by (first|go_num|(congr 1;omega)),BW2⟩
  ·have hltz:¬(i:Int)<(j:Int):=by omega
   obtain rfl:k=i:=by omega
   obtain rfl:k=j:=by omega
   clear H1 H2
   by_cases hn2:k<n
   ·have hnz2:(k:Int)<(n:Int):=by omega
    have hcell:=HP.out _ hn2
    rw[←BW.out.cell (p:=⟨b,off+k,none⟩) hb] at hcell
    have cC:=HC.out _ hn2 wr BW.out
    have hd:decide (k<n)=true:=by simpa using hn2
    go_wp2_with fail
    refine cC.mono ?_
    rintro e w1 ⟨rfl,b1⟩
    have BW2:=BW.out.trans (b1.mono BW.out.size)
    clear cC b1 BW hcell HP HC
    go_wp2
    go_ret2
    refine⟨?_,BW2⟩
    rw[hd,Bool.true_and]
    rfl
   ·have hnz2:¬(k:Int)<(n:Int):=by omega
    have hd:decide (k<n)=false:=by simpa using hn2
    go_wp2
    go_ret2
    refine⟨?_,BW.out⟩
    first|rfl|(rw[hd,Bool.false_and];rfl)|(simp[hn2];rfl)
end
theorem zbE{S:Nat→Prop}{w w1:World}(h:Kp S w w1){g:Nat}(hg:S g)(c:Array Value):Kp S w (w1.setRow g c) :=
 ⟨below_setRow h.low (Nat.zero_le _) c,fun k hk hn=>by rw[setRow_other w1 g k c (fun e=>hn (by subst e;exact hg))];exact h.kept k hk hn⟩
section
open Go.BigFrame
theorem zoi:(Tryz.prog.info? 254).map (fun i=>(i.zero,i.size,i.bytes))=some (some (.pointer none),1,8):=by kernel_rfl
theorem zjp(base:Nat)(q:Option Addr)(n c:Nat)(xs:List Value)(ge:Nat)(e:Value)(w:World)(hown:w.ownsRow base 254 1 (.slice q n c) n xs)(hge:Blk w ge #[e] 254)(he:e.oneCell'=true)(hn:n≤100000)(hbase:base≤w.heap.size) :
  Calls Tryz.prog 201 #[.slice q n c,.int .i64 (n:Int),.slice (some ⟨ge,0,none⟩) 1 1] w fun r w'=>∃q' c',r=.returned (.slice q' (n+1) c')∧Aside (w'.ownsRow base 254 1 (.slice q' (n+1) c') (n+1) (xs++[e]))∧Aside (w.grownBy w' (Value.slice q n c).ownBlock)∧((Value.slice q' (n+1) c').ownBlock=(Value.slice q n c).ownBlock∨(Value.slice q' (n+1) c').ownBlock=some w.heap.size):=by
 have hnz:(n:Int)≤100000:=by omega
 have hn0:(0:Int)≤(n:Int):=by omega
 have hc:n≤c:=by
  rcases hown.2 with ⟨e1,h0⟩|⟨g,cap,cur,e1,hb,hg,hnc,hm,_⟩
  ·omega
  ·injection e1 with _ _ e3
   omega
 have hcz:(n:Int)≤(c:Int):=by omega
 have HO:=(show Aside _ from hown)
 have hce:∀j u,([e]:List Value)[j]?=some u→w.cell? ((⟨ge,0,none⟩:Addr).add j)=some u:=fun j u hu=>by
  have hj:j=0:=by have:=(List.getElem?_eq_some_iff.1 hu).1;simp at this;omega
  subst hj
  rw[Go.WideShapes.add_plain]
  have:w.cell? ⟨ge,0,none⟩=some e:=hge.cell 0
  simpa using this.trans hu
 have HCE:=(show Aside _ from hce)
 clear hown hge hce hc
 obtain⟨i0,hinf,hz0,hz1,hzz⟩:=info_parts zoi
 by_cases hcn:c=n
 ·subst hcn
  clear hcz
  go_enter Tryz.func201,Tryz.ntmps201
  go_wp2_with (at_builtin;refine zae rfl _ _ 180 rfl base 254 i0 _ 1 8 Tryz.underlying180 hinf hz0 hz1 hzz rfl (by decide) _ c xs rfl HO.out ⟨ge,0,none⟩ 1 1 [e] rfl rfl HCE.out (fun u hu=>by rw[List.mem_singleton.1 hu];exact he) (by decide) (by unfold maxLen;omega) (by omega) hbase ?_)
  intro v' w' o1 o2 o3
  obtain⟨q',c',rfl⟩:∃q' c',v'=.slice q' (c+1) c':=by
   rcases o1.2 with ⟨_,h0⟩|⟨g',cap,cur,e,_⟩
   ·omega
   ·exact⟨_,_,e⟩
  have H1:=(show Aside _ from o1)
  have H2:=(show Aside _ from o2)
  have H3:Hid (_∨_):=o3
  clear o1 o2 o3 HO
  go_wp2
  go_ret
  exact⟨q',c',rfl,H1,H2,H3.out⟩
 ·have hcnz:¬(c:Int)=(n:Int):=by omega
  have hcl:(n:Int)<(c:Int):=by omega
  go_enter Tryz.func201,Tryz.ntmps201
  go_wp2_with (at_builtin;refine zae rfl _ _ 180 rfl base 254 i0 _ 1 8 Tryz.underlying180 hinf hz0 hz1 hzz rfl (by decide) (.slice q n c) n xs rfl HO.out ⟨ge,0,none⟩ 1 1 [e] rfl rfl HCE.out (fun u hu=>by rw[List.mem_singleton.1 hu];exact he) (by decide) (by unfold maxLen;omega) (by omega) hbase ?_)
  intro v' w' o1 o2 o3
  obtain⟨q',c',rfl⟩:∃q' c',v'=.slice q' (n+1) c':=by
   rcases o1.2 with ⟨_,h0⟩|⟨g',cap,cur,e,_⟩
   ·omega
   ·exact⟨_,_,e⟩
  have H1:=(show Aside _ from o1)
  have H2:=(show Aside _ from o2)
  have H3:Hid (_∨_):=o3
  clear o1 o2 o3 HO
  go_wp2
  go_ret
  exact⟨q',c',rfl,H1,H2,H3.out⟩
theorem zho(g n c i:Nat)(cur:Array Value)(xs:List Value)(ge:Nat)(e:Value)(w:World)(hg:w.heap[g]?=some (.cells cur 254 (0,0)))(hcs:cur.size=c)(htk:cur.toList.take n=xs)(hxs:xs.length=n)(hge:Blk w ge #[e] 254)(hne:ge≠g)(he:e.oneCell'=true)(hx1:∀x∈xs,x.oneCell'=true)(hi:i<n)(hn:n≤100000)(hroom:n+1≤c)(hc:c≤maxLen) :
  Calls Tryz.prog 201 #[.slice (some ⟨g,0,none⟩) n c,.int .i64 (i:Int),.slice (some ⟨ge,0,none⟩) 1 1] w fun r w'=>r=.returned (.slice (some ⟨g,0,none⟩) (n+1) c)∧Hid (w'.heap[g]?=some (.cells (splice (splice cur.toList (i+1) ((cur.toList.drop i).take (n-i))) i [e]).toArray 254 (0,0)))∧Kp (·=g) w w':=by
 have hnz:(n:Int)≤100000:=by omega
 have hn0:(0:Int)≤(n:Int):=by omega
 have hi0:(0:Int)≤(i:Int):=by omega
 have hiz:(i:Int)<(n:Int):=by omega
 have hrz:(n:Int)+1≤(c:Int):=by omega
 unfold maxLen at hc
 have hicz:¬(c:Int)=(i:Int):=by omega
 have hni:¬(i:Int)=(n:Int):=by omega
 go_enter Tryz.func201,Tryz.ntmps201
 have hoc:((i:Int)+1)≤(c:Int):=by omega
 have hz:∀w,(Go.sizeOf 254).run Tryz.prog w=.ok 1 w:=fun w=>by kernel_rfl
 have hsh1:w.shape? ge=some (254,1):=by
  unfold Blk at hge
  simp[World.shape?,hge]
 have hsh2:w.shape? g=some (254,c):=by
  simp[World.shape?,hg,hcs]
 have hov:∀lb cb,Sem.run Tryz.prog (callFunc 224 #[.slice (some ⟨ge,0,none⟩) 1 1,.slice (some ⟨g,i+1,none⟩) lb cb]) w=.ok (.value (.bool false)) w:=fun lb cb=>by
  have h:=@run_callFunc_extern Tryz.prog 224 _ (Extern.SlicesOverlaps.overlaps #[180,180] #[4]) Tryz.func224 (by kernel_rfl) (by kernel_rfl) (by kernel_rfl) (by kernel_rfl) #[.slice (some ⟨ge,0,none⟩) 1 1,.slice (some ⟨g,i+1,none⟩) lb cb] w
  rw[h,Lib.run_overlaps_apart w _ _ _ Tryz.underlying180 1 hz ⟨ge,0,none⟩ ⟨g,i+1,none⟩ 1 1 lb cb hne _ _ 1 c hsh1 hsh2 (by omega) (hge.frozen 0) (hge.frozen 1)]
  rfl
 obtain⟨L,hL⟩:∃L,cur.toList=L:=⟨_,rfl⟩
 have hgL:w.heap[g]?=some (.cells L.toArray 254 (0,0)):=by rw[hg,←hL]
 have hLc:L.length=c:=by rw[←hL,Array.length_toList,hcs]
 obtain⟨CS,hCS⟩:∃CS,(L.drop i).take (n-i)=CS:=⟨_,rfl⟩
 have hCl:CS.length=n-i:=by rw[←hCS,List.length_take,List.length_drop];omega
 have hCc:∀j u,CS[j]?=some u→w.cell? ((⟨g,i,none⟩:Addr).add j)=some u:=fun j u hu=>by
  have hj:j<n-i:=by have:=(List.getElem?_eq_some_iff.1 hu).1;omega
  rw[Go.WideShapes.add_plain]
  rw[←hCS,List.getElem?_take_of_lt hj,List.getElem?_drop] at hu
  simp only[World.cell?,hgL]
  simpa using hu
 have hC1:∀u∈CS,u.oneCell'=true:=fun u hu=>by
  rw[←hCS] at hu
  exact hx1 u (by rw[←htk,hL];exact List.mem_of_mem_drop (by rw[List.drop_take];exact hu))
 have hsz1:(Tryz.prog.info? 254).map (·.size)=some 1:=by kernel_rfl
 rw[hL,hCS]
 have HC:=(show Aside _ from hCc)
 have HG:=(show Aside _ from hgL)
 have HC1:=(show Aside _ from hC1)
 have HCL:Hid (CS.length=n-i):=hCl
 have HLC:Hid (L.length=c):=hLc
 have HGE:=(show Aside _ from hge)
 clear hL hCS hx1 hz hsh1 hsh2 hcs htk hg hgL hCc hC1 hCl hLc hge
 have hw1:IntKind.i64.wrap ((i:Int)+1)=(i:Int)+1:=by rw[IntKind.wrap_i64];omega
 have hb1:(0:Int)≤(i:Int)+1:=by omega
 have htn:((i:Int)+1).toNat=i+1:=by omega
 have hb2:¬(c=i+1):=by omega
 have hb3:(i:Int)≤(n:Int)+1:=by omega
 have hb4:¬(c=i):=by omega
 have hb5:(i:Int)+1≤(n:Int)+1:=by omega
 have hb6:(n:Int)+1≤(c:Int):=by omega
 have hcp1:∀ty dc sc,(Builtin.copy_ #[180,180] ty #[.slice (some ⟨g,i+1,none⟩) (n-i) dc,.slice (some ⟨g,i,none⟩) (n+1-i) sc]).run Tryz.prog w.drew=.ok (goInt CS.length) (w.drew.setRow g (L.toArray.toList.take (i+1)++CS++L.toArray.toList.drop (i+1+CS.length)).toArray):=fun ty dc sc =>
  run_copy_row (P:=Tryz.prog) w.drew _ _ ty 254 g (i+1) (n-i) dc ⟨g,i,none⟩ (n+1-i) sc L.toArray _ CS Tryz.underlying180 hsz1 HG.out (by rw[HCL.out];simp only[Nat.min_def];split<;>omega) HC.out (by rw[HCL.out];have:=HLC.out;simp;omega) HC1.out
 obtain⟨W1,hW1⟩:∃W1,W1=w.drew.setRow g (L.toArray.toList.take (i+1)++CS++L.toArray.toList.drop (i+1+CS.length)).toArray:=⟨_,rfl⟩
 have HW1:Hid (W1.heap[g]?=some (.cells (splice L (i+1) CS).toArray 254 (0,0))):=by
  show _=_
  rw[hW1]
  simpa [splice] using setRow_heap w.drew g _ _ _ _ HG.out
 have HB1:Aside (Kp (·=g) w W1):=by
  rw[hW1]
  exact zbE (S:=fun x=>x=g) (Kp.refl _ w).drew rfl _
 have HE1:Aside (W1.cell? ⟨ge,0,none⟩=some e):=by
  rw[hW1]
  have:(w.drew.setRow g (L.toArray.toList.take (i+1)++CS++L.toArray.toList.drop (i+1+CS.length)).toArray).heap[ge]?=w.heap[ge]?:=setRow_other w.drew g ge _ hne
  simp only[World.cell?,this]
  exact Blk.cell HGE.out 0
 rw[←hW1] at hcp1
 have hov2:=hov (n-i) (c-(i+1))
 have mixed:Tryz.prog.follows .mixedOrders=true:=by kernel_rfl
 have hl1:(splice L (i+1) CS).length=c:=by rw[length_splice _ _ _ (by rw[HCL.out,HLC.out];omega),HLC.out]
 have hcp2:∀ty dc,(Builtin.copy_ #[180,180] ty #[.slice (some ⟨g,i,none⟩) (n+1-i) dc,.slice (some ⟨ge,0,none⟩) 1 1]).run Tryz.prog W1=.ok (goInt ([e]:List Value).length) (W1.setRow g ((splice L (i+1) CS).toArray.toList.take i++[e]++(splice L (i+1) CS).toArray.toList.drop (i+([e]:List Value).length)).toArray):=fun ty dc =>
  run_copy_row (P:=Tryz.prog) W1 _ _ ty 254 g i (n+1-i) dc ⟨ge,0,none⟩ 1 1 (splice L (i+1) CS).toArray _ [e] Tryz.underlying180 hsz1 HW1.out (by simp only[List.length_singleton,Nat.min_def];split<;>omega) (fun j u hu=>by
   have hj:j=0:=by have:=(List.getElem?_eq_some_iff.1 hu).1;simp at this;omega
   subst hj
   rw[Go.WideShapes.add_plain]
   exact HE1.out.trans (by simpa using hu)) (by simp only[List.length_singleton,List.size_toArray,hl1];omega) (fun u hu=>by rw[List.mem_singleton.1 hu];exact he)
 obtain⟨W2,hW2⟩:∃W2,W2=W1.setRow g ((splice L (i+1) CS).toArray.toList.take i++[e]++(splice L (i+1) CS).toArray.toList.drop (i+([e]:List Value).length)).toArray:=⟨_,rfl⟩
 have HW2:Hid (W2.heap[g]?=some (.cells (splice (splice L (i+1) CS) i [e]).toArray 254 (0,0))):=by
  show _=_
  rw[hW2]
  simpa [splice] using setRow_heap W1 g _ _ _ _ HW1.out
 have HB2:Aside (Kp (·=g) w W2):=by
  rw[hW2]
  exact zbE (S:=fun x=>x=g) HB1.out rfl _
 rw[←hW2] at hcp2
 clear hW1 hW2 hov HW1 HB1 HE1 hl1 HC HG HC1 HCL HLC HGE
 go_wp2
 go_region_law_o (refine step_copy_runI rfl _ _ 180 180 rfl _ _ (by simp[Act.eval,Act.put]) (by simp[Act.eval,Act.put]) (hcp1 _ _ _) ?_)
 go_wp2_with (at_builtin;refine wpList_copy_runI _ rfl _ _ 180 180 rfl _ _ rfl rfl (hcp2 _ _) ?_)
 go_ret
 exact⟨rfl,HW2,HB2.out⟩
theorem zhL(base g n c i:Nat)(cur:Array Value)(xs:List Value)(ge:Nat)(e:Value)(w:World)(hg:w.heap[g]?=some (.cells cur 254 (0,0)))(hcs:cur.size=c)(htk:cur.toList.take n=xs)(hxs:xs.length=n)(hge:Blk w ge #[e] 254)(he:e.oneCell'=true)(hx1:∀x∈xs,x.oneCell'=true)(hi:i<n)(hn:n≤100000)(hroom:c<n+1)(hnc:n≤c)(hB:base≤w.heap.size) :
  Calls Tryz.prog 201 #[.slice (some ⟨g,0,none⟩) n c,.int .i64 (i:Int),.slice (some ⟨ge,0,none⟩) 1 1] w fun r w'=>∃G ROW,r=.returned (.slice (some ⟨w.heap.size,0,none⟩) (n+1) G)∧Hid (w'.heap[w.heap.size]?=some (.cells (splice (splice ROW i [e]) (i+1) (xs.drop i)).toArray 254 (0,0))∧ROW.length=G∧ROW.take i=xs.take i∧n+1≤G∧G≤maxLen)∧Below base w w':=by
 have hnz:(n:Int)≤100000:=by omega
 have hn0:(0:Int)≤(n:Int):=by omega
 have hi0:(0:Int)≤(i:Int):=by omega
 have hiz:(i:Int)<(n:Int):=by omega
 have hni:¬(i:Int)=(n:Int):=by omega
 obtain rfl:c=n:=by omega
 have hsz1:(Tryz.prog.info? 254).map (·.size)=some 1:=by kernel_rfl
 have mixed:Tryz.prog.follows .mixedOrders=true:=by kernel_rfl
 obtain⟨i0,hinf,hz0,hzs,hzb⟩:=info_parts zoi
 have hgl:g<w.heap.size:=(Array.getElem?_eq_some_iff.1 hg).1
 have hcell:∀j u,xs[j]?=some u→w.cell? ⟨g,j,none⟩=some u:=fun j u hu=>by
  have hj:j<c:=by have:=(List.getElem?_eq_some_iff.1 hu).1;omega
  rw[←htk,List.getElem?_take_of_lt hj] at hu
  simp only[World.cell?,hg]
  simpa using hu
 have hold:(Builtin.firstCells i0.size i (.slice (some ⟨g,0,none⟩) i c)).run Tryz.prog w.drew=.ok (xs.take i).toArray w.drew:=by
  rw[hzs]
  exact run_firstCells_some w.drew 1 i ⟨g,0,none⟩ i c (xs.take i) (by rw[List.length_take];omega) (fun j u hj=>by
   rw[Addr.add_lit,Nat.zero_add]
   rw[List.getElem?_take] at hj
   split at hj
   ·exact hcell j u hj
   ·cases hj)
 have hrz:=fun ty=>Lib.run_append_grow_zeros (P:=Tryz.prog) w 180 3 ty 254 i0 _ .i64 .i64 Tryz.underlying180 Tryz.underlying3 hinf hz0 (some ⟨g,0,none⟩) i c (xs.take i) hold (c+1-i) (by omega) (by omega) (by omega) (by omega) (by rw[hzb];omega) (by rw[hzb];exact growslice_fits (by omega) (by omega))
 have hik:i+(c+1-i)=c+1:=by omega
 have hkk:((c+1-i:Nat):Int)=(c:Int)+1-(i:Int):=by omega
 rw[hik] at hrz
 simp only[hkk] at hrz
 obtain⟨G,hG⟩:∃G,grownCap w (c+1) c 254=G:=⟨_,rfl⟩
 have hG1:c+1≤G:=by rw[←hG];exact grownCap_ge w _ _ _
 have hG2:G≤maxLen:=by rw[←hG];exact grownCap_le_maxLen w _ _ _ (by unfold maxLen;omega)
 rw[hG] at hrz
 obtain⟨RA,hRA⟩:∃RA:Array Value,(xs.take i).toArray++Builtin.zeroCells (Value.pointer none).cells (c+1-i)++Builtin.zeroCells (Value.pointer none).cells (G-(c+1))=RA:=⟨_,rfl⟩
 have hRl:RA.toList.length=G:=by
  rw[←hRA]
  simp[Builtin.zeroCells,Value.cells]
  omega
 have hRt:RA.toList.take i=xs.take i:=by
  rw[←hRA]
  simp only[Array.toList_append,List.append_assoc]
  rw[List.take_append_of_le_length (by simp;omega)]
  rw[List.take_take,Nat.min_self]
 rw[hRA] at hrz
 obtain⟨W1,hW1⟩:∃W1,w.drew.alloc (.cells RA 254)=W1:=⟨_,rfl⟩
 rw[hW1] at hrz
 have HW1:Hid (W1.heap[w.heap.size]?=some (.cells RA 254 (0,0))):=by
  show _=_
  rw[←hW1]
  exact zac w.drew RA _
 have HB1:Aside (Below base w W1):=by
  rw[←hW1]
  exact (Below.drew (Below.refl _ w)).alloc hB _
 have hold1:∀b,b<w.heap.size→W1.heap[b]?=w.heap[b]?:=fun b hb=>by
  rw[←hW1]
  show (w.heap.push _)[b]?=_
  rw[Array.getElem?_push_lt hb,Array.getElem?_eq_getElem hb]
 obtain⟨R1,hR1⟩:∃R1,splice RA.toList i [e]=R1:=⟨_,rfl⟩
 have hR1l:R1.length=G:=by rw[←hR1,length_splice _ _ _ (by simp[hRl];omega),hRl]
 have hcp1:∀ty dc,(Builtin.copy_ #[180,180] ty #[.slice (some ⟨w.heap.size,i,none⟩) (c+1-i) dc,.slice (some ⟨ge,0,none⟩) 1 1]).run Tryz.prog W1=.ok (goInt ([e]:List Value).length) (W1.setRow w.heap.size (RA.toList.take i++[e]++RA.toList.drop (i+([e]:List Value).length)).toArray):=fun ty dc =>
  run_copy_row (P:=Tryz.prog) W1 _ _ ty 254 w.heap.size i (c+1-i) dc ⟨ge,0,none⟩ 1 1 RA _ [e] Tryz.underlying180 hsz1 HW1.out (by simp only[List.length_singleton,Nat.min_def];split<;>omega) (fun j u hu=>by
   have hj:j=0:=by have:=(List.getElem?_eq_some_iff.1 hu).1;simp at this;omega
   subst hj
   rw[Go.WideShapes.add_plain]
   have:W1.cell? ⟨ge,0,none⟩=some e:=by
    simp only[World.cell?,hold1 ge hge.lt]
    exact Blk.cell hge 0
   exact this.trans (by simpa using hu)) (by have:RA.size=G:=by simpa using hRl
                        simp only[List.length_singleton];omega) (fun u hu=>by rw[List.mem_singleton.1 hu];exact he)
 obtain⟨W2,hW2⟩:∃W2,W1.setRow w.heap.size (RA.toList.take i++[e]++RA.toList.drop (i+([e]:List Value).length)).toArray=W2:=⟨_,rfl⟩
 rw[hW2] at hcp1
 have HW2:Hid (W2.heap[w.heap.size]?=some (.cells R1.toArray 254 (0,0))):=by
  show _=_
  rw[←hW2,←hR1]
  simpa [splice] using setRow_heap W1 w.heap.size _ _ _ _ HW1.out
 have HB2:Aside (Below base w W2):=by
  rw[←hW2]
  exact below_setRow HB1.out hB _
 have hold2:∀b,b<w.heap.size→W2.heap[b]?=w.heap[b]?:=fun b hb=>by
  rw[←hW2,setRow_other W1 w.heap.size b _ (by omega)]
  exact hold1 b hb
 obtain⟨XD,hXD⟩:∃XD,xs.drop i=XD:=⟨_,rfl⟩
 have hXl:XD.length=c-i:=by rw[←hXD,List.length_drop,hxs]
 have hcp2:∀ty dc sc,(Builtin.copy_ #[180,180] ty #[.slice (some ⟨w.heap.size,i+1,none⟩) (c-i) dc,.slice (some ⟨g,i,none⟩) (c-i) sc]).run Tryz.prog W2.drew=.ok (goInt XD.length) (W2.drew.setRow w.heap.size (R1.toArray.toList.take (i+1)++XD++R1.toArray.toList.drop (i+1+XD.length)).toArray):=fun ty dc sc =>
  run_copy_row (P:=Tryz.prog) W2.drew _ _ ty 254 w.heap.size (i+1) (c-i) dc ⟨g,i,none⟩ (c-i) sc R1.toArray _ XD Tryz.underlying180 hsz1 HW2.out (by rw[hXl];simp) (fun j u hu=>by
   rw[Go.WideShapes.add_plain]
   have h1:w.cell? ⟨g,i+j,none⟩=some u:=hcell (i+j) u (by rw[←hXD,List.getElem?_drop] at hu;exact hu)
   simp only[World.cell?] at h1 ⊢
   have h2:W2.drew.heap[g]?=w.heap[g]?:=hold2 g hgl
   rw[h2]
   exact h1) (by simp only[List.size_toArray,hR1l,hXl];omega) (fun u hu=>by rw[←hXD] at hu;exact hx1 u (List.mem_of_mem_drop hu))
 obtain⟨W3,hW3⟩:∃W3,W2.drew.setRow w.heap.size (R1.toArray.toList.take (i+1)++XD++R1.toArray.toList.drop (i+1+XD.length)).toArray=W3:=⟨_,rfl⟩
 rw[hW3] at hcp2
 have HW3:Hid (W3.heap[w.heap.size]?=some (.cells (splice R1 (i+1) XD).toArray 254 (0,0))):=by
  show _=_
  rw[←hW3]
  simpa [splice] using setRow_heap W2.drew w.heap.size _ _ _ _ HW2.out
 have HB3:Aside (Below base w W3):=by
  rw[←hW3]
  exact below_setRow (Below.drew HB2.out) hB _
 have HF:Hid (RA.toList.length=G∧RA.toList.take i=xs.take i∧splice RA.toList i [e]=R1∧xs.drop i=XD∧G≤maxLen):=⟨hRl,hRt,hR1,hXD,hG2⟩
 have hGz:(c:Int)+1≤(G:Int):=by omega
 have hb1:(0:Int)≤(i:Int)+1:=by omega
 have htn:((i:Int)+1).toNat=i+1:=by omega
 have hw1:IntKind.i64.wrap ((i:Int)+1)=(i:Int)+1:=by rw[IntKind.wrap_i64];omega
 have hGi:¬(G=i):=by omega
 have hGim:¬(G=i+1):=by omega
 have hci:¬(c=i):=by omega
 have hb3:(i:Int)≤(c:Int):=by omega
 unfold maxLen at hG2
 have hHH:=w.heap.size
 clear hW1 hW2 hW3 hold hold1 hold2 hcell hik hkk hG hRA hRl hRt hR1 hR1l hXD hXl HW1 HW2 HB1 HB2 hge hg hcs htk hx1 hinf hz0 hzs hzb hHH
 go_enter Tryz.func201,Tryz.ntmps201
 go_wp2_with (first
  | (at_builtin;refine Lib.wpList_append_run _ rfl _ _ _ _ rfl _ _ rfl rfl _ _ (hrz _) ?_)
  | (at_builtin;refine wpList_copy_runI _ rfl _ _ 180 180 rfl _ _ rfl rfl (hcp1 _ _) ?_))
 go_region_law_o (refine step_copy_runI rfl _ _ 180 180 rfl _ _ (by simp[Act.eval,Act.put]) (by simp[Act.eval,Act.put]) (hcp2 _ _ _) ?_)
 go_wp2
 go_ret
 obtain⟨f1,f2,f3,f4,f5⟩:=HF.out
 refine⟨G,RA.toList,rfl,?_,HB3.out⟩
 exact⟨by rw[f3,f4];exact HW3.out,f1,f2,by omega,f5⟩
end
end Go.Proofs.YtopghagjmdbglaaGreatDoor
