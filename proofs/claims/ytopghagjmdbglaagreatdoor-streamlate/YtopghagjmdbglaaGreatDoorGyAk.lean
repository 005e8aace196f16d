/-
  KdR0, VlB, AgI, AgP, ValFr, ValA, OtT, ClS.
-/
import Derived.Test.YtopghagjmdbglaaGreatDoorGyAc
import Derived.Laws.Rows
import Derived.RowKitTokens
import Derived.Lib.OthersKept
import Derived.Laws.RangeAny
import Derived.Deep.DeepCutAuto
import Derived.Deep.LoopGhost
import Derived.OwnWalk
import Derived.Deep.Heap
import Derived.WalkSmall
import Derived.Test.YtopghagjmdbglaaGreatDoorYAgW
import Derived.Test.YtopghagjmdbglaaGreatDoorGyAd
import Derived.Laws.AppendOwn
import Derived.Deep.QuietTactic
namespace Go.Proofs.YtopghagjmdbglaaGreatDoor
open Go.RowKit
set_option linter.unusedVariables false
set_option linter.unusedSimpArgs false
set_option maxHeartbeats 8000000
section
open Go.BigFrame
def zqp:List (List UInt8×Int×Int×Int×Int):=[([111,114],2,2,0,2),([97,110,100],2,2,0,2),([110,111,116],2,0,0,2),([61],-1,-1,0,2),([60,62],-1,-1,0,2),([60],-1,-1,0,2),([60,61],-1,-1,0,2),([62],-1,-1,0,2),([62,61],-1,-1,0,2),([43],1,1,0,1),([45],1,1,0,1),([42],1,1,0,1),([47],1,1,0,1),([37],1,1,0,1),([110,101,103],1,0,0,1),([108,101,110],3,0,0,1),([105,102],2,-1,-1,-1)]
abbrev KRule:=List UInt8×Int×Int×Int×Int
def zoG:Array Value:=#[.string ⟨#[111,114]⟩,.int .i64 2,.int .i64 2,.int .i64 0,.int .i64 2,.string ⟨#[97,110,100]⟩,.int .i64 2,.int .i64 2,.int .i64 0,.int .i64 2,.string ⟨#[110,111,116]⟩,.int .i64 2,.int .i64 0,.int .i64 0,.int .i64 2,.string ⟨#[61]⟩,.int .i64 (-1),.int .i64 (-1),.int .i64 0,.int .i64 2,.string ⟨#[60,62]⟩,.int .i64 (-1),.int .i64 (-1),.int .i64 0,.int .i64 2,.string ⟨#[60]⟩,.int .i64 (-1),.int .i64 (-1),.int .i64 0,.int .i64 2,.string ⟨#[60,61]⟩,.int .i64 (-1),.int .i64 (-1),.int .i64 0,.int .i64 2,.string ⟨#[62]⟩,.int .i64 (-1),.int .i64 (-1),.int .i64 0,.int .i64 2,.string ⟨#[62,61]⟩,.int .i64 (-1),.int .i64 (-1),.int .i64 0,.int .i64 2,.string ⟨#[43]⟩,.int .i64 1,.int .i64 1,.int .i64 0,.int .i64 1,.string ⟨#[45]⟩,.int .i64 1,.int .i64 1,.int .i64 0,.int .i64 1,.string ⟨#[42]⟩,.int .i64 1,.int .i64 1,.int .i64 0,.int .i64 1,.string ⟨#[47]⟩,.int .i64 1,.int .i64 1,.int .i64 0,.int .i64 1,.string ⟨#[37]⟩,.int .i64 1,.int .i64 1,.int .i64 0,.int .i64 1,.string ⟨#[110,101,103]⟩,.int .i64 1,.int .i64 0,.int .i64 0,.int .i64 1,.string ⟨#[108,101,110]⟩,.int .i64 3,.int .i64 0,.int .i64 0,.int .i64 1,.string ⟨#[105,102]⟩,.int .i64 2,.int .i64 (-1),.int .i64 (-1),.int .i64 (-1)]
def REnv(w:World):Prop:=∃t fr,w.heap[8]?=some (.cells zoG t fr)
end
abbrev V3:=Int×Int×ByteArray
def inB(n:Int):Prop:=-9223372036854775808≤n∧n≤9223372036854775807
def noV:V3:=(0,0,⟨#[]⟩)
theorem ziP{n:Int}{l:List UInt8}(h:chk 2 n l=0):(n=0∨n=1)∧l=[]:=by
 unfold chk at h
 by_cases h0:n=0∨n=1
 ·refine⟨h0,?_⟩
  by_cases hl:l=[]
  ·exact hl
  ·simp[hl] at h
   split at h<;>omega
 ·rw[if_pos (by right;simp at h0;exact⟨rfl,h0⟩)] at h
  omega
theorem ziN{n:Int}{l:List UInt8}(h:chk 1 n l=0):l=[]:=by
 unfold chk at h
 by_cases hl:l=[]
 ·exact hl
 ·simp[hl] at h
theorem zdS{n:Int}{l:List UInt8}(h:chk 3 n l=0):l.length≤40∧n=0:=by
 rw[ziO,chkT] at h
 split at h
 ·omega
 ·split at h
  ·omega
  ·split at h
   ·omega
   ·rename_i h1 _ h3
    exact⟨by omega,by simpa using h3⟩
theorem zcJ{t n:Int}{l:List UInt8}(h:chk t n l=0):l.length≤40:=by
 by_cases h1:t=1
 ·subst h1;rw[ziN h];simp
 ·by_cases h2:t=2
  ·subst h2;rw[(ziP h).2];simp
  ·by_cases h3:t=3
   ·subst h3;exact (zdS h).1
   ·unfold chk at h
    rw[if_pos (by left;omega)] at h
    omega
theorem zfP(w:World)(cs:Array Value)(t:TypeId){W:World}{n:Nat}(hb:Below n (w.alloc (.cells cs t)) W)(hn:w.heap.size<n):(∀i,W.cell? ⟨w.heap.size,i,none⟩=cs[i]?)∧(∀o,W.frozen? ⟨w.heap.size,o,none⟩=false)∧w.heap.size<W.heap.size:=by
 have hz:=hb.size
 simp at hz
 exact⟨fun i=>by rw[hb.cell (p:=⟨w.heap.size,i,none⟩) hn,World.cell?_alloc_at _ _ _ _ rfl],fun o=>by rw[hb.frozen (p:=⟨w.heap.size,o,none⟩) hn,World.frozen?_alloc_at _ _ _ _ rfl],by omega⟩
theorem alB(w:World)(o:Obj):Below w.heap.size w (w.alloc o):=(Below.refl _ _).alloc (Nat.le_refl _) o
def zaf(w:World)(p:Option Addr)(vs:List V3):Prop:=vs.length=0∨∃b off,p=some ⟨b,off,none⟩∧b<w.heap.size∧∀j (h:j<vs.length),w.cell? ⟨b,off+j*3,none⟩=some (.int .i64 vs[j].1)∧w.cell? ⟨b,off+j*3+1,none⟩=some (.int .i64 vs[j].2.1)∧w.cell? ⟨b,off+j*3+2,none⟩=some (.string vs[j].2.2)
theorem zaf.on{w w':World}{p:Option Addr}{vs:List V3}(h:zaf w p vs)(hb:Below w.heap.size w w'):zaf w' p vs:=by
 rcases h with h|⟨b,off,e,hl,h⟩
 ·exact .inl h
 ·refine .inr ⟨b,off,e,by have:=hb.size;omega,fun j hj=>?_⟩
  obtain⟨h1,h2,h3⟩:=h j hj
  exact⟨by rw[hb.cell (p:=⟨b,_,none⟩) hl];exact h1,by rw[hb.cell (p:=⟨b,_,none⟩) hl];exact h2,by rw[hb.cell (p:=⟨b,_,none⟩) hl];exact h3⟩
def ValsV(w:World)(v:Value)(rs:List V3):Prop:=∃q c,v=.slice q rs.length c∧rs.length≤maxLen∧zaf w q rs
def zbs(rs:List V3):Prop:=∀r∈rs,r.2.2.size≤maxLen∧inB r.2.1
def zao:List V3→List Value
 | []=>[]
 | v::vs=>.int .i64 v.1::.int .i64 v.2.1::.string v.2.2::zao vs
theorem zeE:∀{vs:List V3} {j:Nat} (h:j<vs.length),(zao vs)[j*3]?=some (.int .i64 vs[j].1)∧(zao vs)[j*3+1]?=some (.int .i64 vs[j].2.1)∧(zao vs)[j*3+2]?=some (.string vs[j].2.2)
 | v::vs,0,_=>⟨rfl,rfl,rfl⟩
 | v::vs,j+1,h=>by
  have:=zeE (vs:=vs) (j:=j) (by simpa using h)
  rw[zao,show (j+1)*3=j*3+3 by omega]
  simpa using this
 | [],_,h=>absurd h (by simp)
theorem zdh:∀vs:List V3,(zao vs).length=vs.length*3
 | []=>rfl
 | v::vs=>by rw[zao];simp[zdh vs];omega
theorem zbg:∀(a b:List V3),zao (a++b)=zao a++zao b
 | [],b=>rfl
 | v::vs,b=>by rw[List.cons_append,zao,zao,zbg vs b];rfl
theorem zdB{W:World}{B:Nat}{q:Option Addr}{c n:Nat}{vs:List V3}(hn:vs.length=n)(h:W.ownsRow B 27 3 (.slice q n c) n (zao vs)):zaf W q vs:=by
 by_cases h0:vs.length=0
 ·exact .inl h0
 ·refine .inr ?_
  rcases h.2 with ⟨e1,_⟩|⟨g,cap,cur,e1,hb,hg,hm,hx,hs,ht⟩
  ·injection e1 with e1 e2;omega
  ·injection e1 with e1 e2 e3
   subst e1
   refine⟨g,0,rfl,(Array.getElem?_eq_some_iff.1 hg).1,fun j hj=>?_⟩
   obtain⟨a0,a1,a2⟩:=zeE hj
   have h1:=h.cells (g:=g) rfl _ _ a0
   have h2:=h.cells (g:=g) rfl _ _ a1
   have h3:=h.cells (g:=g) rfl _ _ a2
   rw[Go.WideShapes.add_plain] at h1 h2 h3
   exact⟨by simpa using h1,by simpa [Nat.add_assoc] using h2,by simpa [Nat.add_assoc] using h3⟩
theorem zjw:(Tryz.prog.info? 27).map (fun i=>(i.zero,i.size,i.bytes))=some (some (.agg #[.int .i64 0,.int .i64 0,.string ⟨#[]⟩]),3,32):=by kernel_rfl
def isAg(s:List UInt8):Bool:=decide (s=[99,111,117,110,116])||(decide (s=[115,117,109])||(decide (s=[108,101,97,115,116])||decide (s=[109,111,115,116])))
def aggsL:List (List UInt8):=[[99,111,117,110,116],[115,117,109],[108,101,97,115,116],[109,111,115,116]]
def aggsC:Array Value:=#[.string ⟨#[99,111,117,110,116]⟩,.string ⟨#[115,117,109]⟩,.string ⟨#[108,101,97,115,116]⟩,.string ⟨#[109,111,115,116]⟩]
structure AEnv(w:World):Prop where
 big:12≤w.heap.size
 ags:∃t fr,w.heap[2]?=some (.cells aggsC t fr)
theorem AEnv.onB{w w':World}{n:Nat}(h:AEnv w)(hb:Below n w w')(hn:12≤n)(hs:w.heap.size≤w'.heap.size):AEnv w':=by
 refine⟨by have:=h.big;omega,?_⟩
 obtain⟨t,fr,h1⟩:=h.ags
 exact⟨t,fr,by rw[hb.block _ (by omega)];exact h1⟩
theorem AEnv.on{w w':World}(h:AEnv w)(hb:Below w.heap.size w w'):AEnv w':=h.onB hb h.big hb.size
theorem zsh(k:Nat)(hk:k<4):∃S:ByteArray,(∀W:World,Sem.run Tryz.prog (Instr.index 193 (.agg aggsC) (.int .i64 (k:Int))) W=.ok (.string S) W)∧aggsL[k]'hk=S.data.toList:=by
 have h:k=0∨k=1∨k=2∨k=3:=by omega
 rcases h with rfl|rfl|rfl|rfl
 ·exact⟨⟨#[99,111,117,110,116]⟩,fun W=>by kernel_rfl,rfl⟩
 ·exact⟨⟨#[115,117,109]⟩,fun W=>by kernel_rfl,rfl⟩
 ·exact⟨⟨#[108,101,97,115,116]⟩,fun W=>by kernel_rfl,rfl⟩
 ·exact⟨⟨#[109,111,115,116]⟩,fun W=>by kernel_rfl,rfl⟩
theorem zoe(s:List UInt8):isAg s=aggsL.any (· == s):=by
 have e:∀a:List UInt8,decide (s=a)=(a == s):=fun a=>by
  by_cases h:s=a
  ·subst h;simp
  ·have h2:¬a=s:=fun h2=>h h2.symm
   simp[h,h2]
 simp only[isAg,aggsL,List.any_cons,List.any_nil,Bool.or_false,e]
set_option maxRecDepth 20000 in
theorem zea(x:ByteArray)(w:World)(henv:AEnv w) :
  Calls Tryz.prog 90 #[.string x] w fun e w'=>e=.returned (.bool (isAg x.data.toList))∧w'=w:=by
 obtain⟨tt,fr,hgl⟩:=henv.ags
 rw[zoe]
 obtain⟨R,hR⟩:∃R,aggsL.any (· == x.data.toList)=R:=⟨_,rfl⟩
 have HR:Hid (aggsL.any (· == x.data.toList)=R):=hR
 rw[hR]
 clear hR
 go_enter Tryz.func90,Tryz.ntmps90
 go_wp2_with (refine wpList_load_row rfl 193 _ rfl 2 rfl tt _ fr _ hgl Tryz.underlying193 rfl (by kernel_rfl) ?_)
 have hat:=zsh
 generalize Value.agg aggsC=AR at hat ⊢
 clear hgl
 go_loopg [4,6] 4 (fun gg _ s6 wr=>∃kk:Nat,kk≤4∧4-kk≤gg∧s6=.int .i64 kk∧wr=w∧Hid ((aggsL.drop kk).any (· == x.data.toList)=R))
 case atStart=>exact⟨0,Nat.zero_le _,by omega,rfl,rfl,HR⟩
 case round =>
  obtain⟨kk,hkk,hg,rfl,rfl,HE⟩:=hrel
  clear HR
  by_cases hlt:kk<4
  ·have hltz:(kk:Int)<4:=by omega
   obtain⟨S,hS,hS1⟩:=hat kk hlt
   clear hat
   have hd:aggsL.drop kk=S.data.toList::aggsL.drop (kk+1):=by
    rw[List.drop_eq_getElem_cons (show kk<aggsL.length from hlt)]
    exact congrArg (·::_) hS1
   have HS:Hid ((S.data.toList::aggsL.drop (kk+1)).any (· == x.data.toList)=R):=by show _=_;rw[←hd];exact HE.out
   clear hd hS1 HE
   by_cases he:S.data.toList=x.data.toList
   ·have hq:(S.toList == x.toList)=true:=by rw[Lib.toList_data,Lib.toList_data];simpa using he
    have hR2:true=R:=by
     have hb:(S.data.toList == x.data.toList)=true:=by simpa using he
     rw[←HS.out,List.any_cons,hb];rfl
    subst hR2
    clear HS
    go_wp2
    go_ret
    exact⟨rfl,rfl⟩
   ·have hq:(S.toList == x.toList)=false:=by rw[Lib.toList_data,Lib.toList_data];simpa using he
    have HS2:Hid ((aggsL.drop (kk+1)).any (· == x.data.toList)=R):=by
     show _=_
     have hb:(S.data.toList == x.data.toList)=false:=by simpa using he
     rw[←HS.out,List.any_cons,hb,Bool.false_or]
    clear HS
    go_wp2
    go_roundg (4-(kk+1))
    case measure=>omega
    case rel=>exact⟨kk+1,by omega,by omega,by go_num,rfl,HS2⟩
  ·have hltz:¬(kk:Int)<4:=by omega
   have hR2:false=R:=by rw[←HE.out,List.drop_eq_nil_of_le (by show 4≤kk;omega)];rfl
   subst hR2
   clear HE
   go_wp2
   go_ret
   exact⟨rfl,rfl⟩
def zaL:List UInt8:=[99,111,117,110,116]
def wSum:List UInt8:=[115,117,109]
def zaF:List UInt8:=[108,101,97,115,116]
def wMost:List UInt8:=[109,111,115,116]
structure Pt where
 what:ByteArray
 kind:Int
 ws:List Int
 best:V3
def Pt.wh(p:Pt):List UInt8:=p.what.data.toList
def cmpX(a b:V3):Int:=cmpN a.1 a.2.1 a.2.2.data.toList b.1 b.2.1 b.2.2.data.toList
def zaS(p o:Pt):Bool :=
 if p.best.1=0∨o.best.1=0 then decide (p.best.1≠0)
 else if p.wh=zaF then decide (cmpX p.best o.best<0) else decide (0<cmpX p.best o.best)
def tkP(p o:Pt):Pt :=
 if p.wh=wSum then { p with ws:=shW (sumW p.ws o.ws) }
 else if p.wh=zaF∨p.wh=wMost then (if zaS o p=true then { p with best:=o.best } else p) else p
def oneP(p:Pt)(v:V3):Pt :=
 if p.wh=wSum then ⟨p.what,p.kind,[v.2.1 % 18446744073709551616],noV⟩
 else if p.wh=zaF∨p.wh=wMost then ⟨p.what,p.kind,[],v⟩ else ⟨p.what,p.kind,[],noV⟩
def ckPt(p:Pt)(v:V3):Int:=if p.wh=zaL then 0 else if chk v.1 v.2.1 v.2.2.data.toList≠0 then chk v.1 v.2.1 v.2.2.data.toList else if v.1≠p.kind then 8 else 0
def resP(p:Pt)(rows:Int):V3×Int :=
 if p.wh=zaL then ((1,rows,⟨#[]⟩),0)
 else if p.wh=wSum then (if -9223372036854775808≤sv p.ws∧sv p.ws≤9223372036854775807 then ((1,sv p.ws,⟨#[]⟩),0) else ((1,0,⟨#[]⟩),9))
 else if p.best.1=0 then (noV,5) else (p.best,0)
def npE(x:List UInt8)(k:Int):Int:=if isAg x=false then 2 else if x=zaL then 0 else if ¬(k=1∨k=2∨k=3) then 1 else if x=wSum∧k≠1 then 8 else 0
def npP(x:ByteArray)(k:Int):Pt:=if npE x.data.toList k≠0 then ⟨⟨#[]⟩,0,[],noV⟩ else ⟨x,if x.data.toList=zaL then 0 else k,[],noV⟩
structure OkPt(p:Pt):Prop where
 ag:isAg p.wh=true
 kn:p.wh≠zaL→p.kind=1∨p.kind=2∨p.kind=3
 ks:p.wh=wSum→p.kind=1
 ws:wdR p.ws∧Short p.ws∧p.ws.length≤900
 best:p.best.1=0∧p.best=noV∨p.best.1=p.kind∧chk p.best.1 p.best.2.1 p.best.2.2.data.toList=0∧inB p.best.2.1
theorem zfh{s:List UInt8}(h:isAg s=true):s=zaL∨s=wSum∨s=zaF∨s=wMost:=by
 simp only[isAg,Bool.or_eq_true,decide_eq_true_eq] at h
 exact h
theorem zkC(p o:Pt):(tkP p o).what=p.what∧(tkP p o).kind=p.kind:=by
 unfold tkP
 split
 ·exact⟨rfl,rfl⟩
 ·split
  ·split<;>exact⟨rfl,rfl⟩
  ·exact⟨rfl,rfl⟩
theorem zbL(p:Pt)(v:V3):(oneP p v).what=p.what∧(oneP p v).kind=p.kind:=by
 unfold oneP
 split
 ·exact⟨rfl,rfl⟩
 ·split<;>exact⟨rfl,rfl⟩
theorem zbA(t n:Int)(s:ByteArray)(w:World)(hs:s.size≤281474976710656):Calls Tryz.prog 168 #[.agg #[.int .i64 t,.int .i64 n,.string s]] w fun e w'=>e=.returned (.agg #[.int .i64 t,.int .i64 n,.string s])∧Below w.heap.size w w':=by
 have c:=fun W=>zbi s W hs
 have b1:Below w.heap.size w ((w.alloc (.cells #[.int .i64 t,.int .i64 n,.string s] 27)).alloc (.cells #[.int .i64 0,.int .i64 0,.string ⟨#[]⟩] 27)):=((Below.refl _ w).alloc (Nat.le_refl _) _).alloc (by simp) _
 go_enter Tryz.func168,Tryz.ntmps168
 go_wp2_with fail
 refine (c _).mono ?_
 rintro e w1 ⟨rfl,b2⟩
 obtain⟨k1,k2,hl1⟩:=zfP _ _ _ b2 (by simp)
 obtain⟨j1,j2,hl0⟩:=zfP w _ _ (((Below.refl _ (w.alloc (.cells #[.int .i64 t,.int .i64 n,.string s] 27))).alloc (Nat.le_refl _) _).trans (b2.mono (by simp))) (by simp)
 simp at k1 k2 hl1 j1 j2
 have f0:w1.cell? ⟨w.heap.size+1,0,none⟩=some (.int .i64 0):=k1 0
 have f1:w1.cell? ⟨w.heap.size+1,1,none⟩=some (.int .i64 0):=k1 1
 have f2:w1.cell? ⟨w.heap.size+1,2,none⟩=some (.string ⟨#[]⟩):=k1 2
 have g0:w1.cell? ⟨w.heap.size,0,none⟩=some (.int .i64 t):=j1 0
 have g1:w1.cell? ⟨w.heap.size,1,none⟩=some (.int .i64 n):=j1 1
 have g2:w1.cell? ⟨w.heap.size,2,none⟩=some (.string s):=j1 2
 have b4:Below w.heap.size w w1:=b1.trans (b2.mono b1.size)
 clear c b1 b2 k1 j1
 go_wp2
 refine bodyPost_ret (v:=.agg #[.int .i64 t,.int .i64 n,.string s]) (by simp[results,Tryz.results168,go_sem,World.cell?_setCell_other,World.cell?_setCell_same,f0,f1,f2]) rfl ⟨rfl,?_⟩
 exact (((b4.setCell (p:=⟨w.heap.size,2,none⟩) (Nat.le_refl _) _).setCell (p:=⟨w.heap.size+1,0,none⟩) (by simp) _).setCell (p:=⟨w.heap.size+1,1,none⟩) (by simp) _).setCell (p:=⟨w.heap.size+1,2,none⟩) (by simp) _
theorem one3v(t n:Int)(s:ByteArray):∀u∈([.int .i64 t,.int .i64 n,.string s]:List Value),u.oneCell'=true:=by
 intro u hu
 simp at hu
 rcases hu with rfl|rfl|rfl<;>rfl
theorem news1{w:World}{T:TypeId}{g:Nat}(hg:w.heap.size=g)(cs:List Value):∀j u,cs[j]?=some u→(w.alloc (.cells cs.toArray T)).cell? ((⟨g,0,none⟩:Addr).add j)=some u:=by
 intro j u hu
 rw[Go.WideShapes.add_plain,World.cell?_alloc_at _ _ _ _ (by simp[hg])]
 simpa using hu
theorem zax{w:World}{ops:Array Oper}{rest:List Oper}{o:Oper}{a:Act}{Q:Exit→Act→World→Prop}(hgd:o.guard=none)(s x:Operand)
  (ho:o.op=.call { callee:=.builtin .append,args:=#[s,x],argTypes:=#[49,49] })
  (base:Nat)(v:Value)(n:Nat)(vs:List V3)(hs:a.eval s=v)(hown:w.ownsRow base 27 3 v n (zao vs))
  (g c:Nat)(t k:Int)(b:ByteArray)(hx:a.eval x=.slice (some ⟨g,0,none⟩) 1 c)(hc:∀j u,([.int .i64 t,.int .i64 k,.string b]:List Value)[j]?=some u→w.cell? ((⟨g,0,none⟩:Addr).add j)=some u)
  (hsm:n≤1000000000)(hbase:base≤w.heap.size)
  (h:∀q' c' w',w'.ownsRow base 27 3 (.slice q' (n+1) c') (n+1) (zao (vs++[(t,k,b)]))→w.grownBy w' v.ownBlock→wpList Tryz.prog ops Q rest (a.put o.dst (.slice q' (n+1) c')) w'):wpList Tryz.prog ops Q (o::rest) a w:=by
 obtain⟨i0,hi,hz0,hz1,hzz⟩:=info_parts zjw
 refine wpList_append_own w hgd s x 49 ho base 27 i0 _ 3 32 Tryz.underlying49 hi hz0 hz1 hzz rfl (by decide) v n (zao vs) hs hown ⟨g,0,none⟩ 1 c [.int .i64 t,.int .i64 k,.string b] hx rfl hc (one3v t k b) (by unfold maxLen;omega) (by omega) hbase (fun v' w' o1 o2 _=>?_)
 obtain⟨q',c',rfl⟩:∃q' c',v'=.slice q' (n+1) c':=by
  rcases o1.2 with ⟨_,h0⟩|⟨g',cap,cur,e,_⟩
  ·omega
  ·exact⟨_,_,e⟩
 exact h q' c' w' (by rw[zbg];exact o1) o2
abbrev Ot:=List V3×Int×Int
theorem zqV(z gb gB aB:Nat)(f sz at_:Int)(w:World)(hz:w.cell? ⟨z,0,none⟩=some (.int .i64 f))(hG:w.cell? ⟨gB,0,none⟩=some (.pointer (some ⟨gb,0,none⟩)))(hA:w.cell? ⟨aB,0,none⟩=some (.int .i64 at_))(hg:w.cell? ⟨gb,13,none⟩=some (.int .i64 sz))(h1:-9223372036854775808≤f+sz)(h2:f+sz≤9223372036854775807) :
  Calls Tryz.prog 111 #[.pointer (some ⟨z,0,none⟩),.pointer (some ⟨gB,0,none⟩),.pointer (some ⟨aB,0,none⟩)] w fun e w'=>e=.returned (.bool (decide (f+sz≤at_)))∧Below w.heap.size w w':=by
 have hw:IntKind.i64.wrap (f+sz)=f+sz:=by rw[IntKind.wrap_i64];omega
 go_enter Tryz.func111,Tryz.ntmps111
 go_wp2
 go_quiet (fail)
 go_wp2
 go_ret
 exact⟨rfl,(Below.refl w.heap.size w).trans ⟨rfl,rfl,rfl,Nat.le_refl _,fun _ _=>rfl⟩⟩
theorem zsr(v:Value)(w:World) :
  Calls Tryz.prog 80 #[v] w fun e w'=>e=.returned (.bool true)∧w'=w:=by
 go_enter Tryz.func80,Tryz.ntmps80
 go_wp2
 go_ret
 exact⟨rfl,rfl⟩
end Go.Proofs.YtopghagjmdbglaaGreatDoor
