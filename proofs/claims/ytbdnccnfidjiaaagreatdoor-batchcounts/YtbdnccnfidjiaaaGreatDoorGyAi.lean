/-
  KdR0, VlB, AgI, BlkB, ValFr, OtT, ValA, KpR, InUp, AgP, AgT, FrS, KyS, RwO, ClS.
-/
import Derived.Test.YtbdnccnfidjiaaaGreatDoorGyAc
import Derived.Laws.Rows
import Derived.RowKitTokens
import Derived.Lib.OthersKept
import Derived.Laws.RangeAny
import Derived.Deep.DeepCutAuto
import Derived.Deep.LoopGhost
import Derived.OwnWalk
import Derived.Deep.Heap
import Derived.WalkSmall
import Derived.Test.YtbdnccnfidjiaaaGreatDoorGyAb
import Derived.OneCell
import Derived.Deep.MidRow
import Derived.Test.YtbdnccnfidjiaaaGreatDoorGyAh
import Derived.Laws.AppendOwn
import Derived.Laws.CopyOwn
import Derived.Laws.Tables
import Derived.Shelf.Spec.SlicesInsert
import Derived.Test.YtbdnccnfidjiaaaGreatDoorYAgW
import Derived.Laws.AppendOwnNone
import Derived.Laws.OwnMore
import Derived.Laws.Externs
import Derived.BigQuiet
import Derived.Deep.QuietTactic
import Derived.Deep.OwnRows
import Derived.Test.YtbdnccnfidjiaaaGreatDoorRows
import Derived.Deep.Strs
import Derived.Deep.Slices
import Derived.OpenShut
import Derived.Carry
import Derived.ProofKit
namespace Go.Proofs.YtbdnccnfidjiaaaGreatDoor
open Go.RowKit
set_option linter.unusedVariables false
set_option linter.unusedSimpArgs false
set_option maxHeartbeats 8000000
section
open Go.BigFrame
def zrb:List (List UInt8×Int×Int×Int×Int):=[([111,114],2,2,0,2),([97,110,100],2,2,0,2),([110,111,116],2,0,0,2),([61],-1,-1,0,2),([60,62],-1,-1,0,2),([60],-1,-1,0,2),([60,61],-1,-1,0,2),([62],-1,-1,0,2),([62,61],-1,-1,0,2),([43],1,1,0,1),([45],1,1,0,1),([42],1,1,0,1),([47],1,1,0,1),([37],1,1,0,1),([110,101,103],1,0,0,1),([108,101,110],3,0,0,1),([105,102],2,-1,-1,-1)]
abbrev KRule:=List UInt8×Int×Int×Int×Int
def zpn:Array Value:=#[.string ⟨#[111,114]⟩,.int .i64 2,.int .i64 2,.int .i64 0,.int .i64 2,.string ⟨#[97,110,100]⟩,.int .i64 2,.int .i64 2,.int .i64 0,.int .i64 2,.string ⟨#[110,111,116]⟩,.int .i64 2,.int .i64 0,.int .i64 0,.int .i64 2,.string ⟨#[61]⟩,.int .i64 (-1),.int .i64 (-1),.int .i64 0,.int .i64 2,.string ⟨#[60,62]⟩,.int .i64 (-1),.int .i64 (-1),.int .i64 0,.int .i64 2,.string ⟨#[60]⟩,.int .i64 (-1),.int .i64 (-1),.int .i64 0,.int .i64 2,.string ⟨#[60,61]⟩,.int .i64 (-1),.int .i64 (-1),.int .i64 0,.int .i64 2,.string ⟨#[62]⟩,.int .i64 (-1),.int .i64 (-1),.int .i64 0,.int .i64 2,.string ⟨#[62,61]⟩,.int .i64 (-1),.int .i64 (-1),.int .i64 0,.int .i64 2,.string ⟨#[43]⟩,.int .i64 1,.int .i64 1,.int .i64 0,.int .i64 1,.string ⟨#[45]⟩,.int .i64 1,.int .i64 1,.int .i64 0,.int .i64 1,.string ⟨#[42]⟩,.int .i64 1,.int .i64 1,.int .i64 0,.int .i64 1,.string ⟨#[47]⟩,.int .i64 1,.int .i64 1,.int .i64 0,.int .i64 1,.string ⟨#[37]⟩,.int .i64 1,.int .i64 1,.int .i64 0,.int .i64 1,.string ⟨#[110,101,103]⟩,.int .i64 1,.int .i64 0,.int .i64 0,.int .i64 1,.string ⟨#[108,101,110]⟩,.int .i64 3,.int .i64 0,.int .i64 0,.int .i64 1,.string ⟨#[105,102]⟩,.int .i64 2,.int .i64 (-1),.int .i64 (-1),.int .i64 (-1)]
def REnv(w:World):Prop:=∃t fr,w.heap[8]?=some (.cells zpn t fr)
end
abbrev V3:=Int×Int×ByteArray
def inB(n:Int):Prop:=-9223372036854775808≤n∧n≤9223372036854775807
def noV:V3:=(0,0,⟨#[]⟩)
theorem zjl{n:Int}{l:List UInt8}(h:chk 2 n l=0):(n=0∨n=1)∧l=[]:=by
 unfold chk at h
 by_cases h0:n=0∨n=1
 ·refine⟨h0,?_⟩
  by_cases hl:l=[]
  ·exact hl
  ·simp[hl] at h
   split at h<;>omega
 ·rw[if_pos (by right;simp at h0;exact⟨rfl,h0⟩)] at h
  omega
theorem zjj{n:Int}{l:List UInt8}(h:chk 1 n l=0):l=[]:=by
 unfold chk at h
 by_cases hl:l=[]
 ·exact hl
 ·simp[hl] at h
theorem zcD{n:Int}{l:List UInt8}(h:chk 3 n l=0):l.length≤40∧n=0:=by
 rw[zjk,chkT] at h
 split at h
 ·omega
 ·split at h
  ·omega
  ·split at h
   ·omega
   ·rename_i h1 _ h3
    exact⟨by omega,by simpa using h3⟩
theorem zcQ{t n:Int}{l:List UInt8}(h:chk t n l=0):l.length≤40:=by
 by_cases h1:t=1
 ·subst h1;rw[zjj h];simp
 ·by_cases h2:t=2
  ·subst h2;rw[(zjl h).2];simp
  ·by_cases h3:t=3
   ·subst h3;exact (zcD h).1
   ·unfold chk at h
    rw[if_pos (by left;omega)] at h
    omega
theorem zgc(w:World)(cs:Array Value)(t:TypeId){W:World}{n:Nat}(hb:Below n (w.alloc (.cells cs t)) W)(hn:w.heap.size<n):(∀i,W.cell? ⟨w.heap.size,i,none⟩=cs[i]?)∧(∀o,W.frozen? ⟨w.heap.size,o,none⟩=false)∧w.heap.size<W.heap.size:=by
 have hz:=hb.size
 simp at hz
 exact⟨fun i=>by rw[hb.cell (p:=⟨w.heap.size,i,none⟩) hn,World.cell?_alloc_at _ _ _ _ rfl],fun o=>by rw[hb.frozen (p:=⟨w.heap.size,o,none⟩) hn,World.frozen?_alloc_at _ _ _ _ rfl],by omega⟩
theorem alB(w:World)(o:Obj):Below w.heap.size w (w.alloc o):=(Below.refl _ _).alloc (Nat.le_refl _) o
def zaf(w:World)(p:Option Addr)(vs:List V3):Prop:=vs.length=0∨∃b off,p=some ⟨b,off,none⟩∧b<w.heap.size∧∀j (h:j<vs.length),w.cell? ⟨b,off+j*3,none⟩=some (.int .i64 vs[j].1)∧w.cell? ⟨b,off+j*3+1,none⟩=some (.int .i64 vs[j].2.1)∧w.cell? ⟨b,off+j*3+2,none⟩=some (.string vs[j].2.2)
theorem zaf.on{w w':World}{p:Option Addr}{vs:List V3}(h:zaf w p vs)(hb:Below w.heap.size w w'):zaf w' p vs:=by
 rcases h with h|⟨b,off,e,hl,h⟩
 ·exact .inl h
 ·refine .inr ⟨b,off,e,by have:=hb.size;omega,fun j hj=>?_⟩
  obtain⟨h1,h2,h3⟩:=h j hj
  exact⟨by rw[hb.cell (p:=⟨b,_,none⟩) hl];exact h1,by rw[hb.cell (p:=⟨b,_,none⟩) hl];exact h2,by rw[hb.cell (p:=⟨b,_,none⟩) hl];exact h3⟩
def ValsV(w:World)(v:Value)(rs:List V3):Prop:=∃q c,v=.slice q rs.length c∧rs.length≤maxLen∧zaf w q rs
def zbt(rs:List V3):Prop:=∀r∈rs,r.2.2.size≤maxLen∧inB r.2.1
def zao:List V3→List Value
 | []=>[]
 | v::vs=>.int .i64 v.1::.int .i64 v.2.1::.string v.2.2::zao vs
theorem zeR:∀{vs:List V3} {j:Nat} (h:j<vs.length),(zao vs)[j*3]?=some (.int .i64 vs[j].1)∧(zao vs)[j*3+1]?=some (.int .i64 vs[j].2.1)∧(zao vs)[j*3+2]?=some (.string vs[j].2.2)
 | v::vs,0,_=>⟨rfl,rfl,rfl⟩
 | v::vs,j+1,h=>by
  have:=zeR (vs:=vs) (j:=j) (by simpa using h)
  rw[zao,show (j+1)*3=j*3+3 by omega]
  simpa using this
 | [],_,h=>absurd h (by simp)
theorem zdq:∀vs:List V3,(zao vs).length=vs.length*3
 | []=>rfl
 | v::vs=>by rw[zao];simp[zdq vs];omega
theorem zbh:∀(a b:List V3),zao (a++b)=zao a++zao b
 | [],b=>rfl
 | v::vs,b=>by rw[List.cons_append,zao,zao,zbh vs b];rfl
theorem zdL{W:World}{B:Nat}{q:Option Addr}{c n:Nat}{vs:List V3}(hn:vs.length=n)(h:W.ownsRow B 28 3 (.slice q n c) n (zao vs)):zaf W q vs:=by
 by_cases h0:vs.length=0
 ·exact .inl h0
 ·refine .inr ?_
  rcases h.2 with ⟨e1,_⟩|⟨g,cap,cur,e1,hb,hg,hm,hx,hs,ht⟩
  ·injection e1 with e1 e2;omega
  ·injection e1 with e1 e2 e3
   subst e1
   refine⟨g,0,rfl,(Array.getElem?_eq_some_iff.1 hg).1,fun j hj=>?_⟩
   obtain⟨a0,a1,a2⟩:=zeR hj
   have h1:=h.cells (g:=g) rfl _ _ a0
   have h2:=h.cells (g:=g) rfl _ _ a1
   have h3:=h.cells (g:=g) rfl _ _ a2
   rw[Go.WideShapes.add_plain] at h1 h2 h3
   exact⟨by simpa using h1,by simpa [Nat.add_assoc] using h2,by simpa [Nat.add_assoc] using h3⟩
theorem zjU:(Tryz.prog.info? 28).map (fun i=>(i.zero,i.size,i.bytes))=some (some (.agg #[.int .i64 0,.int .i64 0,.string ⟨#[]⟩]),3,32):=by kernel_rfl
def isAg(s:List UInt8):Bool:=decide (s=[99,111,117,110,116])||(decide (s=[115,117,109])||(decide (s=[108,101,97,115,116])||decide (s=[109,111,115,116])))
def aggsL:List (List UInt8):=[[99,111,117,110,116],[115,117,109],[108,101,97,115,116],[109,111,115,116]]
def aggsC:Array Value:=#[.string ⟨#[99,111,117,110,116]⟩,.string ⟨#[115,117,109]⟩,.string ⟨#[108,101,97,115,116]⟩,.string ⟨#[109,111,115,116]⟩]
structure AEnv(w:World):Prop where
 big:12≤w.heap.size
 ags:∃t fr,w.heap[2]?=some (.cells aggsC t fr)
theorem AEnv.onB{w w':World}{n:Nat}(h:AEnv w)(hb:Below n w w')(hn:12≤n)(hs:w.heap.size≤w'.heap.size):AEnv w':=by
 refine⟨by have:=h.big;omega,?_⟩
 obtain⟨t,fr,h1⟩:=h.ags
 exact⟨t,fr,by rw[hb.block _ (by omega)];exact h1⟩
theorem AEnv.on{w w':World}(h:AEnv w)(hb:Below w.heap.size w w'):AEnv w':=h.onB hb h.big hb.size
theorem zsK(k:Nat)(hk:k<4):∃S:ByteArray,(∀W:World,Sem.run Tryz.prog (Instr.index 188 (.agg aggsC) (.int .i64 (k:Int))) W=.ok (.string S) W)∧aggsL[k]'hk=S.data.toList:=by
 have h:k=0∨k=1∨k=2∨k=3:=by omega
 rcases h with rfl|rfl|rfl|rfl
 ·exact⟨⟨#[99,111,117,110,116]⟩,fun W=>by kernel_rfl,rfl⟩
 ·exact⟨⟨#[115,117,109]⟩,fun W=>by kernel_rfl,rfl⟩
 ·exact⟨⟨#[108,101,97,115,116]⟩,fun W=>by kernel_rfl,rfl⟩
 ·exact⟨⟨#[109,111,115,116]⟩,fun W=>by kernel_rfl,rfl⟩
theorem zoM(s:List UInt8):isAg s=aggsL.any (· == s):=by
 have e:∀a:List UInt8,decide (s=a)=(a == s):=fun a=>by
  by_cases h:s=a
  ·subst h;simp
  ·have h2:¬a=s:=fun h2=>h h2.symm
   simp[h,h2]
 simp only[isAg,aggsL,List.any_cons,List.any_nil,Bool.or_false,e]
set_option maxRecDepth 20000 in
theorem zem(x:ByteArray)(w:World)(henv:AEnv w) :
  Calls Tryz.prog 85 #[.string x] w fun e w'=>e=.returned (.bool (isAg x.data.toList))∧w'=w:=by
 obtain⟨tt,fr,hgl⟩:=henv.ags
 rw[zoM]
 obtain⟨R,hR⟩:∃R,aggsL.any (· == x.data.toList)=R:=⟨_,rfl⟩
 have HR:Hid (aggsL.any (· == x.data.toList)=R):=hR
 rw[hR]
 clear hR
 go_enter Tryz.func85,Tryz.ntmps85
 go_wp2_with (refine wpList_load_row rfl 188 _ rfl 2 rfl tt _ fr _ hgl Tryz.underlying188 rfl (by kernel_rfl) ?_)
 have hat:=zsK
 generalize Value.agg aggsC=AR at hat ⊢
 clear hgl
 go_loopg [4,6] 4 (fun gg _ s6 wr=>∃kk:Nat,kk≤4∧4-kk≤gg∧s6=.int .i64 kk∧wr=w∧Hid ((aggsL.drop kk).any (· == x.data.toList)=R))
 case atStart=>exact⟨0,Nat.zero_le _,by omega,rfl,rfl,HR⟩
 case round =>
  obtain⟨kk,hkk,hg,rfl,rfl,HE⟩:=hrel
  clear HR
  by_cases hlt:kk<4
  ·have hltz:(kk:Int)<4:=by omega
   obtain⟨S,hS,hS1⟩:=hat kk hlt
   clear hat
   have hd:aggsL.drop kk=S.data.toList::aggsL.drop (kk+1):=by
    rw[List.drop_eq_getElem_cons (show kk<aggsL.length from hlt)]
    exact congrArg (·::_) hS1
   have HS:Hid ((S.data.toList::aggsL.drop (kk+1)).any (· == x.data.toList)=R):=by show _=_;rw[←hd];exact HE.out
   clear hd hS1 HE
   by_cases he:S.data.toList=x.data.toList
   ·have hq:(S.toList == x.toList)=true:=by rw[Lib.toList_data,Lib.toList_data];simpa using he
    have hR2:true=R:=by
     have hb:(S.data.toList == x.data.toList)=true:=by simpa using he
     rw[←HS.out,List.any_cons,hb];rfl
    subst hR2
    clear HS
    go_wp2
    go_ret
    exact⟨rfl,rfl⟩
   ·have hq:(S.toList == x.toList)=false:=by rw[Lib.toList_data,Lib.toList_data];simpa using he
    have HS2:Hid ((aggsL.drop (kk+1)).any (· == x.data.toList)=R):=by
     show _=_
     have hb:(S.data.toList == x.data.toList)=false:=by simpa using he
     rw[←HS.out,List.any_cons,hb,Bool.false_or]
    clear HS
    go_wp2
    go_roundg (4-(kk+1))
    case measure=>omega
    case rel=>exact⟨kk+1,by omega,by omega,by go_num,rfl,HS2⟩
  ·have hltz:¬(kk:Int)<4:=by omega
   have hR2:false=R:=by rw[←HE.out,List.drop_eq_nil_of_le (by show 4≤kk;omega)];rfl
   subst hR2
   clear HE
   go_wp2
   go_ret
   exact⟨rfl,rfl⟩
def Blk(w:World)(b:Nat)(cs:Array Value)(t:TypeId):Prop:=w.heap[b]?=some (.cells cs t (0,0))
theorem Blk.lt{w:World}{b:Nat}{cs:Array Value}{t:TypeId}(h:Blk w b cs t):b<w.heap.size:=lt_of_block h
theorem Blk.cell{w:World}{b:Nat}{cs:Array Value}{t:TypeId}(h:Blk w b cs t)(i:Nat):w.cell? ⟨b,i,none⟩=cs[i]?:=by unfold Blk at h;simp[World.cell?,h]
theorem Blk.frozen{w:World}{b:Nat}{cs:Array Value}{t:TypeId}(h:Blk w b cs t)(i:Nat):w.frozen? ⟨b,i,none⟩=false:=frozen_of_row w b i cs t h
theorem Blk.keep{w w':World}{b:Nat}{cs:Array Value}{t:TypeId}(h:Blk w b cs t)(hk:w'.heap[b]?=w.heap[b]?):Blk w' b cs t:=by unfold Blk at *;rw[hk];exact h
theorem Blk.set{w:World}{b:Nat}{cs:Array Value}{t:TypeId}(h:Blk w b cs t)(i:Nat)(v:Value):Blk (w.setCell ⟨b,i,none⟩ v) b (cs.setIfInBounds i v) t:=heap_setCell_same w b i cs t v h
theorem Blk.far{w:World}{b z:Nat}{cs:Array Value}{t:TypeId}(h:Blk w b cs t)(hz:b≠z)(i:Nat)(v:Value):Blk (w.setCell ⟨z,i,none⟩ v) b cs t:=h.keep (heap_setCell_other w _ b v hz)
theorem Blk.but{w w':World}{r b:Nat}{cs:Array Value}{t:TypeId}(h:Blk w b cs t)(hb:But r w w')(hr:b≠r):Blk w' b cs t:=h.keep (hb.kept b h.lt hr)
theorem Blk.on{w w':World}{b:Nat}{cs:Array Value}{t:TypeId}(h:Blk w b cs t)(hb:Below w.heap.size w w'):Blk w' b cs t:=h.keep (hb.block b h.lt)
theorem Blk.grown{w w':World}{b:Nat}{cs:Array Value}{t:TypeId}{row:Option Nat}(h:Blk w b cs t)(hg:w.grownBy w' row)(hr:some b≠row):Blk w' b cs t:=h.keep (hg.block b h.lt hr)
theorem zab(w:World)(cs:Array Value)(t:TypeId):Blk (w.alloc (.cells cs t)) w.heap.size cs t:=by
 show (w.heap.push _)[_]?=_
 rw[Array.getElem?_push_size]
def KeepB(B:Nat)(w w':World):Prop:=w.heap.size≤w'.heap.size∧∀b,B≤b→b<w.heap.size→w'.heap[b]?=w.heap[b]?
theorem KeepB.trans{B:Nat}{w w1 w2:World}(h:KeepB B w w1)(k:KeepB B w1 w2):KeepB B w w2:=⟨Nat.le_trans h.1 k.1,fun b h1 h2=>by rw[k.2 b h1 (by have:=h.1;omega),h.2 b h1 h2]⟩
theorem KeepB.but{B r:Nat}{w w':World}(h:But r w w')(hr:r<B):KeepB B w w':=⟨h.size,fun b h1 h2=>h.kept b h2 (by omega)⟩
theorem KeepB.set{B z:Nat}(w:World)(i:Nat)(v:Value)(hz:z<B):KeepB B w (w.setCell ⟨z,i,none⟩ v):=⟨by simp[World.setCell],fun b h1 _=>heap_setCell_other w _ b v (by show b≠z;omega)⟩
theorem zaA{w w':World}{B B':Nat}{e:TypeId}{size n:Nat}{v:Value}{xs:List Value}(h:w.ownsRow B e size v n xs)(hk:KeepB B' w w')(hB:B'≤B):w'.ownsRow B e size v n xs:=by
 refine⟨h.1,?_⟩
 rcases h.2 with hn|⟨g,cap,cur,rfl,h1,hgg,rest⟩
 ·exact .inl hn
 ·exact .inr ⟨g,cap,cur,rfl,h1,by rw[hk.2 g (by omega) (Array.getElem?_eq_some_iff.1 hgg).1];exact hgg,rest⟩
structure Kp(S:Nat→Prop)(w w':World):Prop where
 low:Below 0 w w'
 kept:∀k,k<w.heap.size→¬S k→w'.heap[k]?=w.heap[k]?
theorem Kp.size{S:Nat→Prop}{w w':World}(h:Kp S w w'):w.heap.size≤w'.heap.size:=h.low.size
theorem Kp.refl(S:Nat→Prop)(w:World):Kp S w w:=⟨Below.refl _ _,fun _ _ _=>rfl⟩
theorem Kp.trans{S:Nat→Prop}{w w1 w2:World}(h:Kp S w w1)(k:Kp S w1 w2):Kp S w w2 :=
 ⟨h.low.trans k.low,fun b hb hs=>by rw[k.kept b (by have:=h.size;omega) hs,h.kept b hb hs]⟩
theorem Kp.mono{S S':Nat→Prop}{w w1:World}(h:Kp S w w1)(hs:∀k,k<w.heap.size→S k→S' k):Kp S' w w1:=⟨h.low,fun b hb hn=>h.kept b hb (fun e=>hn (hs b hb e))⟩
theorem Kp.of_below{S:Nat→Prop}{w w1:World}(h:Below w.heap.size w w1):Kp S w w1:=⟨h.mono (Nat.zero_le _),fun b hb _=>h.block b hb⟩
theorem Kp.below{S:Nat→Prop}{w w1:World}{B:Nat}(h:Kp S w w1)(hB:B≤w.heap.size)(hs:∀k,k<B→¬S k):Below B w w1 :=
 ⟨h.low.os,h.low.tape,h.low.output,h.low.size,fun k hk=>h.kept k (by omega) (hs k hk)⟩
theorem Kp.on{S:Nat→Prop}{w w1 w2:World}(h:Kp S w w1)(k:Below w1.heap.size w1 w2):Kp S w w2:=h.trans (Kp.of_below k)
theorem Kp.set{S:Nat→Prop}{w w1:World}(h:Kp S w w1){b:Nat}(o:Nat)(v:Value)(hs:b<w.heap.size→S b):Kp S w (w1.setCell ⟨b,o,none⟩ v) :=
 ⟨h.low.setCell (p:=⟨b,o,none⟩) (Nat.zero_le _) v,fun k hk hn=>by rw[Below.heap_setCell _ _ _ _ (fun e=>by simp at e;subst e;exact hn (hs hk))];exact h.kept k hk hn⟩
theorem Kp.drew{S:Nat→Prop}{w w1:World}(h:Kp S w w1):Kp S w w1.drew:=⟨h.low.drew,h.kept⟩
theorem Kp.grown{S:Nat→Prop}{w w1 w2:World}{row:Option Nat}(h:Kp S w w1)(hg:w1.grownBy w2 row)(hr:∀k,row=some k→k<w.heap.size→S k):Kp S w w2 :=
 ⟨h.low.grown hg (Nat.zero_le _) (fun _ _=>Nat.zero_le _),fun k hk hn=>by rw[hg.block k (by have:=h.size;omega) (fun e=>hn (hr k e.symm hk))];exact h.kept k hk hn⟩
theorem Kp.cell{S:Nat→Prop}{w w1:World}(h:Kp S w w1){b:Nat}(o:Nat)(hb:b<w.heap.size)(hs:¬S b):w1.cell? ⟨b,o,none⟩=w.cell? ⟨b,o,none⟩:=by
 simp only[World.cell?,h.kept b hb hs]
theorem Blk.kp{S:Nat→Prop}{w w1:World}{b:Nat}{cs:Array Value}{t:TypeId}(h:Blk w b cs t)(hf:Kp S w w1)(hs:¬S b):Blk w1 b cs t:=h.keep (hf.kept b h.lt hs)
theorem Blk.there{w:World}{b:Nat}{cs:Array Value}{t:TypeId}(h:Blk w b cs t)(o n:Nat)(hn:o+n≤cs.size):w.there b o n:=fun j hj=>by
 refine⟨?_,h.frozen _⟩
 rw[h.cell,Array.getElem?_eq_getElem (by omega)]
 rfl
def putA:Array Value→Nat→List Value→Array Value
 | cs,_,[]=>cs
 | cs,o,v::r=>putA (cs.setIfInBounds o v) (o+1) r
theorem Blk.cells{b:Nat}{t:TypeId}:∀(vs:List Value) (o:Nat) (w:World) (cs:Array Value),Blk w b cs t→Blk (w.setCells b o vs) b (putA cs o vs) t
 | [],_,_,_,h=>h
 | v::r,o,_,_,h=>Blk.cells r (o+1) _ _ (h.set o v)
theorem zfc{w:World}{b o o':Nat}{v:Value}(h:o≠o'):(w.setCell ⟨b,o,none⟩ v).cell? ⟨b,o',none⟩=w.cell? ⟨b,o',none⟩:=by
 rw[World.cell?_setCell_other]
 intro e
 injection e with _ e
 exact h e
theorem zqh{w:World}{b o:Nat}{v u:Value}(h:w.cell? ⟨b,o,none⟩=some u):(w.setCell ⟨b,o,none⟩ v).cell? ⟨b,o,none⟩=some v:=by
 simp[World.cell?_setCell_same,h]
theorem Blk.drew{w:World}{b:Nat}{cs:Array Value}{t:TypeId}(h:Blk w b cs t):Blk w.drew b cs t:=h
theorem But.cells{r:Nat}{w:World}:∀(vs:List Value) (o:Nat) (w1:World),But r w w1→But r w (w1.setCells r o vs)
 | [],_,_,h=>h
 | v::vs,o,_,h=>But.cells vs (o+1) _ (h.set o v)
theorem Kp.of_but{r:Nat}{S:Nat→Prop}{w w1:World}(h:But r w w1)(hS:S r):Kp S w w1:=⟨h.below.mono (Nat.zero_le _),fun k hk hn=>h.kept k hk (fun e=>by subst e;exact hn hS)⟩
theorem zah{P:Program}{ops:Array Oper}{rest:List Oper}{op:Oper}{a:Act}{W:World}{Q:Exit→Act→World→Prop}(hgd:op.guard=none)(ty:TypeId)(x y:Operand)(ho:op.op=.store ty x y)
  (b o:Nat)(cells:Array Value)(hx:a.eval x=.pointer (some ⟨b,o,none⟩))(hy:a.eval y=.agg cells)(cs:Array Value)(T:TypeId)(hb:Blk W b cs T)(hn:o+cells.size≤cs.size)
  (hi:(P.info? ty).map (·.size)=some cells.size)(h1:cells.all (·.oneCell')=true)
  (h:∀W',Blk W' b (putA cs o cells.toList) T→But b W W'→wpList P ops Q rest (a.put op.dst undef) W'):wpList P ops Q (op::rest) a W :=
 wpList_store_mid hgd ty x y ho b o cells hx hy (hb.there o cells.size hn) hi h1 (h _ (Blk.cells _ _ _ _ hb) (But.cells _ _ _ (But.refl _ _)))
theorem zaj{P:Program}{ops:Array Oper}{rest:List Oper}{op:Oper}{a:Act}{W:World}{Q:Exit→Act→World→Prop}(hgd:op.guard=none)(ty:TypeId)(x:Operand)(ho:op.op=.load ty x)
  (b o:Nat)(hx:a.eval x=.pointer (some ⟨b,o,none⟩))(cs:Array Value)(T:TypeId)(hb:Blk W b cs T)(l:List Value)(hr:∀j v,l[j]?=some v→cs[o+j]?=some v)(d:TypeDesc)
  (hu:P.underlying ty=some d)(hd:d.isRow=true)(hi:(P.info? ty).map (·.size)=some l.length)
  (h:wpList P ops Q rest (a.put op.dst (.agg l.toArray)) W):wpList P ops Q (op::rest) a W :=
 wpList_load_mid hgd ty x ho b o hx l d (fun j v hv=>by rw[hb.cell];exact hr j v hv) hu hd hi h
theorem zbC(t n:Int)(s:ByteArray)(w:World)(hs:s.size≤281474976710656):Calls Tryz.prog 163 #[.agg #[.int .i64 t,.int .i64 n,.string s]] w fun e w'=>e=.returned (.agg #[.int .i64 t,.int .i64 n,.string s])∧Below w.heap.size w w':=by
 have c:=fun W=>zbj s W hs
 have b1:Below w.heap.size w ((w.alloc (.cells #[.int .i64 t,.int .i64 n,.string s] 28)).alloc (.cells #[.int .i64 0,.int .i64 0,.string ⟨#[]⟩] 28)):=((Below.refl _ w).alloc (Nat.le_refl _) _).alloc (by simp) _
 go_enter Tryz.func163,Tryz.ntmps163
 go_wp2_with fail
 refine (c _).mono ?_
 rintro e w1 ⟨rfl,b2⟩
 obtain⟨k1,k2,hl1⟩:=zgc _ _ _ b2 (by simp)
 obtain⟨j1,j2,hl0⟩:=zgc w _ _ (((Below.refl _ (w.alloc (.cells #[.int .i64 t,.int .i64 n,.string s] 28))).alloc (Nat.le_refl _) _).trans (b2.mono (by simp))) (by simp)
 simp at k1 k2 hl1 j1 j2
 have f0:w1.cell? ⟨w.heap.size+1,0,none⟩=some (.int .i64 0):=k1 0
 have f1:w1.cell? ⟨w.heap.size+1,1,none⟩=some (.int .i64 0):=k1 1
 have f2:w1.cell? ⟨w.heap.size+1,2,none⟩=some (.string ⟨#[]⟩):=k1 2
 have g0:w1.cell? ⟨w.heap.size,0,none⟩=some (.int .i64 t):=j1 0
 have g1:w1.cell? ⟨w.heap.size,1,none⟩=some (.int .i64 n):=j1 1
 have g2:w1.cell? ⟨w.heap.size,2,none⟩=some (.string s):=j1 2
 have b4:Below w.heap.size w w1:=b1.trans (b2.mono b1.size)
 clear c b1 b2 k1 j1
 go_wp2
 refine bodyPost_ret (v:=.agg #[.int .i64 t,.int .i64 n,.string s]) (by simp[results,Tryz.results163,go_sem,World.cell?_setCell_other,World.cell?_setCell_same,f0,f1,f2]) rfl ⟨rfl,?_⟩
 exact (((b4.setCell (p:=⟨w.heap.size,2,none⟩) (Nat.le_refl _) _).setCell (p:=⟨w.heap.size+1,0,none⟩) (by simp) _).setCell (p:=⟨w.heap.size+1,1,none⟩) (by simp) _).setCell (p:=⟨w.heap.size+1,2,none⟩) (by simp) _
abbrev Ot:=List V3×Int×Int
theorem one3v(t n:Int)(s:ByteArray):∀u∈([.int .i64 t,.int .i64 n,.string s]:List Value),u.oneCell'=true:=by
 intro u hu
 simp at hu
 rcases hu with rfl|rfl|rfl<;>rfl
theorem news1{w:World}{T:TypeId}{g:Nat}(hg:w.heap.size=g)(cs:List Value):∀j u,cs[j]?=some u→(w.alloc (.cells cs.toArray T)).cell? ((⟨g,0,none⟩:Addr).add j)=some u:=by
 intro j u hu
 rw[Go.WideShapes.add_plain,World.cell?_alloc_at _ _ _ _ (by simp[hg])]
 simpa using hu
theorem zaz{w:World}{ops:Array Oper}{rest:List Oper}{o:Oper}{a:Act}{Q:Exit→Act→World→Prop}(hgd:o.guard=none)(s x:Operand)
  (ho:o.op=.call { callee:=.builtin .append,args:=#[s,x],argTypes:=#[42,42] })
  (base:Nat)(v:Value)(n:Nat)(vs:List V3)(hs:a.eval s=v)(hown:w.ownsRow base 28 3 v n (zao vs))
  (g c:Nat)(t k:Int)(b:ByteArray)(hx:a.eval x=.slice (some ⟨g,0,none⟩) 1 c)(hc:∀j u,([.int .i64 t,.int .i64 k,.string b]:List Value)[j]?=some u→w.cell? ((⟨g,0,none⟩:Addr).add j)=some u)
  (hsm:n≤1000000000)(hbase:base≤w.heap.size)
  (h:∀q' c' w',w'.ownsRow base 28 3 (.slice q' (n+1) c') (n+1) (zao (vs++[(t,k,b)]))→w.grownBy w' v.ownBlock→wpList Tryz.prog ops Q rest (a.put o.dst (.slice q' (n+1) c')) w'):wpList Tryz.prog ops Q (o::rest) a w:=by
 obtain⟨i0,hi,hz0,hz1,hzz⟩:=info_parts zjU
 refine wpList_append_own w hgd s x 42 ho base 28 i0 _ 3 32 Tryz.underlying42 hi hz0 hz1 hzz rfl (by decide) v n (zao vs) hs hown ⟨g,0,none⟩ 1 c [.int .i64 t,.int .i64 k,.string b] hx rfl hc (one3v t k b) (by unfold maxLen;omega) (by omega) hbase (fun v' w' o1 o2 _=>?_)
 obtain⟨q',c',rfl⟩:∃q' c',v'=.slice q' (n+1) c':=by
  rcases o1.2 with ⟨_,h0⟩|⟨g',cap,cur,e,_⟩
  ·omega
  ·exact⟨_,_,e⟩
 exact h q' c' w' (by rw[zbh];exact o1) o2
theorem zbk{S:Nat→Prop}{w w1:World}(h:Kp S w w1){g:Nat}(hg:S g)(c:Array Value):Kp S w (w1.setRow g c) :=
 ⟨below_setRow h.low (Nat.zero_le _) c,fun k hk hn=>by rw[setRow_other w1 g k c (fun e=>hn (by subst e;exact hg))];exact h.kept k hk hn⟩
theorem zjV{L:List Value}{e:Value}{c i n:Nat}(hL:L.length=c)(hi:i<n)(hr:n+1≤c):(splice (splice L (i+1) ((L.drop i).take (n-i))) i [e]).length=L.length:=by
 simp only[splice,List.length_append,List.length_take,List.length_drop,List.length_singleton];omega
theorem zhv{L xs:List Value}{e:Value}{c i n:Nat}(hL:L.length=c)(ht:L.take n=xs)(hi:i<n)(hr:n+1≤c):(splice (splice L (i+1) ((L.drop i).take (n-i))) i [e]).take (n+1)=xs.take i++e::xs.drop i:=by
 subst ht
 refine List.ext_getElem? fun j=>?_
 simp only[splice,List.getElem?_take,List.getElem?_append,List.getElem?_drop,List.length_append,List.length_take,List.length_drop,List.length_singleton,List.getElem?_cons]
 grind
theorem zjW{ROW xs:List Value}{e:Value}{G i n:Nat}(hR:ROW.length=G)(hx:xs.length=n)(hi:i<n)(hG:n+1≤G):(splice (splice ROW i [e]) (i+1) (xs.drop i)).length=G:=by
 simp only[splice,List.length_append,List.length_take,List.length_drop,List.length_singleton];omega
theorem zhw{ROW xs:List Value}{e:Value}{G i n:Nat}(hR:ROW.length=G)(ht:ROW.take i=xs.take i)(hx:xs.length=n)(hi:i<n)(hG:n+1≤G):(splice (splice ROW i [e]) (i+1) (xs.drop i)).take (n+1)=xs.take i++e::xs.drop i:=by
 have hA:splice ROW i [e]=xs.take i++e::ROW.drop (i+1):=by simp[splice,ht]
 rw[hA]
 have hl:(xs.take i).length=i:=by rw[List.length_take];omega
 have h1:(xs.take i++e::ROW.drop (i+1)).take (i+1)=xs.take i++[e]:=by
  rw[List.take_append,hl]
  simp[List.take_of_length_le,hl]
 rw[splice,h1,List.append_assoc,List.take_append]
 simp only[hl,List.singleton_append]
 rw[List.take_of_length_le (by omega),show n+1-i=(n-i)+1 by omega,List.take_succ_cons,List.take_append]
 have h3:n-i-(List.drop i xs).length=0:=by rw[List.length_drop];omega
 rw[h3,List.take_zero,List.append_nil,List.take_of_length_le (l:=List.drop i xs) (by rw[List.length_drop];omega)]
theorem zoj{L xs:List Value}{c j n:Nat}{r:List Value}(hL:L.length=c)(ht:L.take n=xs)(hn:n≤c)(hj:j≤n)(hr:r.length=j):(splice (splice L 0 ((L.take n).drop j)) (n-j) r).take (n-j)=xs.drop j∧(splice (splice L 0 ((L.take n).drop j)) (n-j) r).length=c:=by
 subst ht
 have h1:(splice L 0 ((L.take n).drop j))=(L.take n).drop j++L.drop (n-j):=by simp[splice];congr 1;omega
 have h2:((L.take n).drop j).length=n-j:=by rw[List.length_drop,List.length_take];omega
 rw[h1]
 refine⟨?_,?_⟩
 ·refine List.ext_getElem? fun k=>?_
  simp only[splice,List.getElem?_take,List.getElem?_append,List.getElem?_drop,List.length_append,List.length_take,List.length_drop]
  grind
 ·simp only[splice,List.length_append,List.length_take,List.length_drop]
  omega
def zaN:List UInt8:=[99,111,117,110,116]
def wSum:List UInt8:=[115,117,109]
def zaH:List UInt8:=[108,101,97,115,116]
def wMost:List UInt8:=[109,111,115,116]
structure Pt where
 what:ByteArray
 kind:Int
 ws:List Int
 best:V3
def Pt.wh(p:Pt):List UInt8:=p.what.data.toList
def cmpX(a b:V3):Int:=cmpN a.1 a.2.1 a.2.2.data.toList b.1 b.2.1 b.2.2.data.toList
def zaS(p o:Pt):Bool :=
 if p.best.1=0∨o.best.1=0 then decide (p.best.1≠0)
 else if p.wh=zaH then decide (cmpX p.best o.best<0) else decide (0<cmpX p.best o.best)
def tkP(p o:Pt):Pt :=
 if p.wh=wSum then { p with ws:=shW (sumW p.ws o.ws) }
 else if p.wh=zaH∨p.wh=wMost then (if zaS o p=true then { p with best:=o.best } else p) else p
def oneP(p:Pt)(v:V3):Pt :=
 if p.wh=wSum then ⟨p.what,p.kind,[v.2.1 % 18446744073709551616],noV⟩
 else if p.wh=zaH∨p.wh=wMost then ⟨p.what,p.kind,[],v⟩ else ⟨p.what,p.kind,[],noV⟩
def ckPt(p:Pt)(v:V3):Int:=if p.wh=zaN then 0 else if chk v.1 v.2.1 v.2.2.data.toList≠0 then chk v.1 v.2.1 v.2.2.data.toList else if v.1≠p.kind then 8 else 0
def resP(p:Pt)(rows:Int):V3×Int :=
 if p.wh=zaN then ((1,rows,⟨#[]⟩),0)
 else if p.wh=wSum then (if -9223372036854775808≤sv p.ws∧sv p.ws≤9223372036854775807 then ((1,sv p.ws,⟨#[]⟩),0) else ((1,0,⟨#[]⟩),9))
 else if p.best.1=0 then (noV,5) else (p.best,0)
def npE(x:List UInt8)(k:Int):Int:=if isAg x=false then 2 else if x=zaN then 0 else if ¬(k=1∨k=2∨k=3) then 1 else if x=wSum∧k≠1 then 8 else 0
def npP(x:ByteArray)(k:Int):Pt:=if npE x.data.toList k≠0 then ⟨⟨#[]⟩,0,[],noV⟩ else ⟨x,if x.data.toList=zaN then 0 else k,[],noV⟩
structure OkPt(p:Pt):Prop where
 ag:isAg p.wh=true
 kn:p.wh≠zaN→p.kind=1∨p.kind=2∨p.kind=3
 ks:p.wh=wSum→p.kind=1
 ws:wdR p.ws∧Short p.ws∧p.ws.length≤900
 best:p.best.1=0∧p.best=noV∨p.best.1=p.kind∧chk p.best.1 p.best.2.1 p.best.2.2.data.toList=0∧inB p.best.2.1
theorem zfu{s:List UInt8}(h:isAg s=true):s=zaN∨s=wSum∨s=zaH∨s=wMost:=by
 simp only[isAg,Bool.or_eq_true,decide_eq_true_eq] at h
 exact h
theorem zkX(p o:Pt):(tkP p o).what=p.what∧(tkP p o).kind=p.kind:=by
 unfold tkP
 split
 ·exact⟨rfl,rfl⟩
 ·split
  ·split<;>exact⟨rfl,rfl⟩
  ·exact⟨rfl,rfl⟩
theorem zbO(p:Pt)(v:V3):(oneP p v).what=p.what∧(oneP p v).kind=p.kind:=by
 unfold oneP
 split
 ·exact⟨rfl,rfl⟩
 ·split<;>exact⟨rfl,rfl⟩
theorem zoK:(Tryz.prog.info? 262).map (fun i=>(i.zero,i.size,i.bytes))=some (some (.int .u64 0),1,8):=by kernel_rfl
def TotA(w:World)(v:Value)(ws:List Int):Prop:=∃p c,v=.slice p ws.length c∧(ws.length≤c∧ws.length≤1000)∧(p=none→c=0)∧wdR ws∧∀a,p=some a→∃g off,a=⟨g,off,none⟩∧(∃cs,w.heap[g]?=some (.cells cs 262 (0,0)))∧∀j (h:j<ws.length),w.cell? ⟨g,off+j,none⟩=some (.int .u64 ws[j])
theorem TotA.keep{w w':World}{v:Value}{ws:List Int}(h:TotA w v ws)(hk:∀(g:Nat) (cs:Array Value),w.heap[g]?=some (Obj.cells cs 262 (0,0))→w'.heap[g]?=w.heap[g]?):TotA w' v ws:=by
 obtain⟨p,c,e,h1,h2,h3,h4⟩:=h
 refine⟨p,c,e,h1,h2,h3,fun a ha=>?_⟩
 obtain⟨g,off,e2,⟨cs,h5⟩,h6⟩:=h4 a ha
 have:=hk g cs h5
 exact⟨g,off,e2,⟨cs,by rw[this];exact h5⟩,fun j hj=>by rw[World.cell?_of_block (w:=w) (a:=⟨g,off+j,none⟩) this];exact h6 j hj⟩
theorem TotA.on{w w':World}{v:Value}{ws:List Int}(h:TotA w v ws)(hb:Below w.heap.size w w'):TotA w' v ws :=
 h.keep fun g cs hg=>hb.block g (Array.getElem?_eq_some_iff.1 hg).1
theorem TotA.nil(w:World):TotA w (.slice none 0 0) []:=⟨none,0,rfl,⟨Nat.le_refl _,Nat.zero_le _⟩,fun _=>rfl,fun x hx=>absurd hx (by simp),fun a h=>nomatch h⟩
theorem TotA.form{w:World}{v:Value}{ws:List Int}(h:TotA w v ws):∃q c,v=.slice q ws.length c∧ws.length≤1000:=by
 obtain⟨p,c,e,h,_⟩:=h
 exact⟨p,c,e,h.2⟩
theorem TotA.at{w:World}{q:Option Addr}{n c m:Nat}{ws:List Int}(h:TotA w (.slice q n c) ws)(hm:m<ws.length):∃g off,q=some ⟨g,off,none⟩∧g<w.heap.size∧∀j (h:j<ws.length),w.cell? ⟨g,off+j,none⟩=some (.int .u64 ws[j]):=by
 obtain⟨p',c',e,⟨h1,h64⟩,h2,_,h3⟩:=h
 injection e with e1 e2 e3
 subst e1 e3
 cases q with
 | none=>have:=h2 rfl;omega
 | some a =>
  obtain⟨g,off,rfl,⟨cs,h5⟩,h6⟩:=h3 a rfl
  exact⟨g,off,rfl,(Array.getElem?_eq_some_iff.1 h5).1,h6⟩
theorem TotA.R{w:World}{v:Value}{ws:List Int}(h:TotA w v ws):wdR ws:=by
 obtain⟨p,c,e,h,_,h2,_⟩:=h
 exact h2
theorem zdT{w:World}{p:Option Addr}{n c l:Nat}{ts:List Int}(h:TotA w (.slice p n c) ts)(hn:ts.length=n)(hl:l≤n):(∀W,Sem.run Tryz.prog (Instr.slice 290 (.slice p n c) none (some (.int .i64 (l:Int))) none) W=.ok (.slice p l c) W)∧TotA w (.slice p l c) (ts.take l):=by
 subst hn
 obtain⟨p',c',e,⟨h1,h64⟩,h2,hR,h3⟩:=h
 injection e with e1 e2 e3
 subst e1 e3
 have hr:∀W,Sem.run Tryz.prog (Instr.slice 290 (.slice p ts.length c) none (some (.int .i64 (l:Int))) none) W=.ok (sliced p 0 l c 1) W:=fun W=>by
  have g0:(0:Int)≤(l:Int):=by omega
  have g1:(l:Int)≤(c:Int):=by omega
  have g2:Sem.run Tryz.prog (Go.sizeOf (Tryz.prog.elem 290)) W=.ok 1 W:=by kernel_rfl
  rw[run_slice_h W 290 p ts.length c (by kernel_rfl) .i64 l g0 g1,g2]
  rfl
 have hlen:(ts.take l).length=l:=by rw[List.length_take];omega
 refine⟨fun W=>?_,p,c,by rw[hlen],⟨by omega,by omega⟩,h2,fun x hx=>hR x (List.mem_of_mem_take hx),fun a ha=>?_⟩
 ·rw[hr W,sliced]
  cases p with
  | none=>simp
  | some a =>
   obtain⟨g,off,rfl,-⟩:=h3 a rfl
   simp[Addr.add]
 ·obtain⟨g,off,e2,h5,h6⟩:=h3 a ha
  refine⟨g,off,e2,h5,fun j hj=>?_⟩
  rw[List.getElem_take]
  exact h6 j (by omega)
theorem znY{ws:List Int}{n:Nat}(h:ws.length=n+1):byW ws=if 9223372036854775807<ws[n]'(by omega) then 18446744073709551615 else 0:=by
 rw[byW,List.getLast?_eq_getElem?,show ws.length-1=n by omega,List.getElem?_eq_getElem (by omega)]
 rfl
theorem zeY(v:Value)(ws:List Int)(w:World)(h:TotA w v ws) :
  Calls Tryz.prog 260 #[v] w fun e w'=>e=.returned (.int .u64 (byW ws))∧w'=w:=by
 obtain⟨q,c,rfl,hl⟩:=h.form
 by_cases h0:ws.length=0
 ·have hb:byW ws=0:=by rw[List.length_eq_zero_iff.1 h0];rfl
  rw[h0,hb]
  clear h h0 hb
  go_enter Tryz.func260,Tryz.ntmps260
  go_wp2
  go_ret
  exact⟨rfl,rfl⟩
 ·obtain⟨n,hn⟩:∃n,ws.length=n+1:=⟨ws.length-1,by omega⟩
  obtain⟨g,off,rfl,hg,hc⟩:=h.at (m:=n) (by omega)
  have hx:=hc n (by omega)
  have hw:IntKind.i64.wrap ((ws.length:Int)-1)=(n:Int):=by rw[IntKind.wrap_i64];omega
  have hpos:(0:Int)<(ws.length:Int):=by omega
  have hlt:(n:Int)<(ws.length:Int):=by omega
  have hnn:(0:Int)≤(n:Int):=by omega
  have hl2:(ws.length:Int)≤1000:=by omega
  have hB:Hid (byW ws=if 9223372036854775807<ws[n]'(by omega) then 18446744073709551615 else 0):=znY hn
  generalize ws[n]'(by omega)=x at hx hB
  generalize byW ws=R at hB ⊢
  clear hc hn h0 h
  generalize ws.length=L at *
  by_cases hxx:9223372036854775807<x
  ·have:=hB.out
   rw[if_pos hxx] at this
   subst this
   go_enter Tryz.func260,Tryz.ntmps260
   go_wp2
   go_ret
   exact⟨rfl,rfl⟩
  ·have:=hB.out
   rw[if_neg hxx] at this
   subst this
   go_enter Tryz.func260,Tryz.ntmps260
   go_wp2
   go_ret
   exact⟨rfl,rfl⟩
theorem zhf(v:Value)(ws:List Int)(i:Nat)(w:World)(h:TotA w v ws)(hi:i≤100000) :
  Calls Tryz.prog 252 #[v,.int .i64 (i:Int)] w fun e w'=>e=.returned (.int .u64 (wordW ws i))∧w'=w:=by
 have cB:=zeY v ws w h
 obtain⟨q,c,rfl,hl⟩:=h.form
 by_cases hlt:i<ws.length
 ·obtain⟨g,off,rfl,hg,hc⟩:=h.at hlt
  have hx:=hc i hlt
  have hW:wordW ws i=ws[i]:=by rw[wordW,dif_pos hlt]
  rw[hW]
  generalize ws[i]=x at hx ⊢
  have h1:(i:Int)<(ws.length:Int):=by omega
  have h2:(0:Int)≤(i:Int):=by omega
  clear hc hW cB h
  generalize ws.length=L at *
  go_enter Tryz.func252,Tryz.ntmps252
  go_wp2
  go_ret
  exact⟨rfl,rfl⟩
 ·have hW:wordW ws i=byW ws:=zeT (by omega)
  rw[hW]
  have h1:¬(i:Int)<(ws.length:Int):=by omega
  clear hW h
  generalize byW ws=R at cB ⊢
  generalize ws.length=L at *
  go_enter Tryz.func252,Tryz.ntmps252
  go_wp2_with fail
  refine cB.mono ?_
  rintro e w1 ⟨rfl,rfl⟩
  go_wp2
  go_ret
  exact⟨rfl,rfl⟩
theorem zfB(v:Value)(ws:List Int)(w:World)(h:TotA w v ws)(hs:Short ws)(T E:Int)(hT:(if -9223372036854775808≤sv ws∧sv ws≤9223372036854775807 then (sv ws,(0:Int)) else (0,9))=(T,E)) :
  Calls Tryz.prog 236 #[v] w fun e w'=>e=.returned (.tuple #[.int .i64 T,errV E])∧w'=w:=by
 have cW:=zhf v ws 0 w h (by omega)
 have hR:=h.R
 obtain⟨q,c,rfl,hl⟩:=h.form
 by_cases h1:ws.length≤1
 ·obtain⟨o1,o2,o3⟩:=ztp ws hR h1
  rw[if_pos ⟨o2,o3⟩] at hT
  obtain⟨rfl,rfl⟩:=Prod.mk.inj hT
  have hw0:0≤wordW ws 0∧wordW ws 0<18446744073709551616:=by
   rw[wordW]
   split
   ·exact hR _ (List.getElem_mem _)
   ·exact byW_R ws _ (by simp)
  have hwr:IntKind.i64.wrap (wordW ws 0)=sv ws:=by rw[IntKind.wrap_i64,o1];split<;>omega
  have hg:¬(1:Int)<(ws.length:Int):=by omega
  generalize sv ws=S at *
  generalize wordW ws 0=x at *
  generalize ws.length=L at *
  rw[show errV 0=.nilIface from rfl]
  clear o1 hT h1 h hR
  go_enter Tryz.func236,Tryz.ntmps236
  go_wp2_with fail
  refine cW.mono ?_
  rintro e w1 ⟨rfl,rfl⟩
  clear cW
  go_wp2
  go_ret2
  exact⟨rfl,rfl⟩
 ·rw[if_neg (by have:=zeK ws hR hs (by omega);omega)] at hT
  obtain⟨rfl,rfl⟩:=Prod.mk.inj hT
  have hg:(1:Int)<(ws.length:Int):=by omega
  generalize ws.length=L at *
  rw[show errV 9=.iface 35 (.int .i64 9) from rfl]
  clear cW h h1 hT
  go_enter Tryz.func236,Tryz.ntmps236
  go_wp2
  go_ret2
  exact⟨rfl,rfl⟩
section
open Go.BigFrame
set_option maxRecDepth 20000 in
theorem zfo(q:Option Addr)(c:Nat)(ks:List V3)(w:World)(hn:ks.length≤1000000)(h:zaf w q ks)(hs:∀v∈ks,v.2.2.size≤281474976710656) :
  Calls Tryz.prog 197 #[.slice q ks.length c] w fun e w'=>(∃u,e=.returned u∧Aside (w'.ownsRow w.heap.size 28 3 u ks.length (zao ks)))∧Below w.heap.size w w':=by
 have H:Aside (zaf w q ks):=h
 have S:Aside _:=hs
 obtain⟨N,hN⟩:∃N,ks.length=N:=⟨_,rfl⟩
 have HN:Hid (ks.length=N):=hN
 rw[hN] at hn ⊢
 clear h hs hN
 have hnz:(N:Int)≤1000000:=by omega
 go_enter Tryz.func197,Tryz.ntmps197
 go_wp2
 go_loopg [3,5,8] N (fun gg s3 _ s8 wr=>∃(kk:Nat) (u:Value),kk≤N∧N-kk≤gg∧s8=.int .i64 (kk:Int)∧s3=u∧Aside (wr.ownsRow w.heap.size 28 3 u kk (zao (ks.take kk)))∧Aside (Below w.heap.size w wr))
 case atStart=>exact⟨0,.slice none 0 0,Nat.zero_le _,by omega,rfl,rfl,(show Aside _ from World.ownsRow_nil _ _ _ _),(show Aside _ from Below.refl _ _)⟩
 case round =>
  obtain⟨kk,u,hkk,hg,rfl,hu,OW,BW⟩:=hrel
  obtain rfl:u=_:=hu.symm
  by_cases hlt:kk<N
  ·have hltz:(kk:Int)<(N:Int):=by omega
   have h0z:(0:Int)≤(kk:Int):=by omega
   have hk1:kk<ks.length:=by rw[HN.out];exact hlt
   obtain⟨b1,o1,rfl,l1,r1⟩:=(H.out.on BW.out).resolve_left (by omega)
   obtain⟨e0,e1,e2⟩:=r1 kk hk1
   have z1:=S.out _ (List.getElem_mem hk1)
   have HT:Hid (ks.take (kk+1)=ks.take kk++[ks[kk]]):=by show _=_;rw[List.take_succ_eq_append_getElem hk1]
   clear r1
   generalize ks[kk]=x at e0 e1 e2 z1 HT
   obtain⟨t,n,s⟩:=x
   simp only at e0 e1 e2 z1
   have cF:=fun W=>zbC t n s W z1
   obtain⟨uq,uc,rfl⟩:=zaa OW.out
   go_wp2_with fail
   refine (cF _).mono ?_
   rintro e w2 ⟨rfl,b3⟩
   have hs2:=b3.size
   simp at hs2
   have hbs:=BW.out.size
   have a1:∀(X:World) o,Below X.heap.size X (X.alloc o):=fun X o=>(Below.refl _ _).alloc (Nat.le_refl _) o
   have O2:=zac (zac OW.out (a1 wr (.cells #[.int .i64 t,.int .i64 n,.string s] 28))) b3
   have B2:Below w.heap.size w w2:=(BW.out.alloc hbs (.cells #[.int .i64 t,.int .i64 n,.string s] 28)).trans (b3.mono (by simp;omega))
   have HO4:=(show Aside _ from zac O2 (a1 w2 (.cells #[.int .i64 t,.int .i64 n,.string s] 28)))
   have HJ4:=(show Aside _ from B2.alloc (by omega) (.cells #[.int .i64 t,.int .i64 n,.string s] 28))
   clear cF O2 B2 b3 BW OW e0 e1 e2
   go_wp2_with (at_builtin;refine zaz rfl _ _ rfl w.heap.size _ kk (ks.take kk) rfl HO4.out w2.heap.size 1 t n s rfl (news1 (by simp) _) (by omega) (by simp;omega) ?_)
   intro q' c' w4 ho hg
   have hown4:∀m,(Value.slice uq kk uc).ownBlock=some m→w.heap.size≤m:=fun m hm=>(World.ownsRow.lt HO4.out m hm).1
   have B6:Aside (Below w.heap.size w w4):=HJ4.out.grown hg (by simp;omega) hown4
   rw[←HT.out] at ho
   have O6:Aside (w4.ownsRow w.heap.size 28 3 (.slice q' (kk+1) c') (kk+1) (zao (ks.take (kk+1)))):=ho
   clear ho hg HO4 HJ4 hown4
   go_wp2
   go_roundg (N-(kk+1))
   case measure=>omega
   case rel=>exact⟨kk+1,_,by omega,by omega,by go_num,rfl,O6,B6⟩
  ·have hltz:¬(kk:Int)<(N:Int):=by omega
   obtain rfl:kk=N:=by omega
   have ht:ks.take kk=ks:=List.take_of_length_le (by rw[HN.out];exact Nat.le_refl _)
   rw[ht] at OW
   go_wp2
   go_ret
   exact⟨⟨_,rfl,OW⟩,BW.out⟩
def zaZ(w:World)(p:Option Addr)(ns:List Nat):Prop:=ns.length=0∨∃b off,p=some ⟨b,off,none⟩∧b<w.heap.size∧∀j (h:j<ns.length),w.cell? ⟨b,off+j,none⟩=some (.int .i64 (ns[j]:Int))
theorem zaZ.on{w w':World}{p:Option Addr}{vs:List Nat}(h:zaZ w p vs)(hb:Below w.heap.size w w'):zaZ w' p vs:=by
 rcases h with h|⟨b,off,e,hl,h⟩
 ·exact .inl h
 ·exact .inr ⟨b,off,e,by have:=hb.size;omega,fun j hj=>by rw[hb.cell (p:=⟨b,_,none⟩) hl];exact h j hj⟩
def keyP(rs:List V3)(ns:List Nat):List V3:=ns.map fun i=>rs.getD i (0,0,⟨#[]⟩)

set_option maxRecDepth 20000 in
theorem key_s(gb:Nat)(p q:Option Addr)(pc c:Nat)(ns:List Nat)(rs:List V3)(w:World)(hg:w.cell? ⟨gb,10,none⟩=some (.slice p ns.length pc))(hn:ns.length≤1000000)(hr:rs.length≤1000000)(hp:zaZ w p ns)(h:zaf w q rs)(hi:∀i∈ns,i<rs.length) :
  Calls Tryz.prog 138 #[.pointer (some ⟨gb,0,none⟩),.slice q rs.length c] w fun e w'=>(∃u,e=.returned u∧Aside (w'.ownsRow w.heap.size 28 3 u ns.length (zao (keyP rs ns))))∧Below w.heap.size w w':=by
 have H:Aside (zaf w q rs):=h
 have HP:Aside (zaZ w p ns):=hp
 have HI:Aside _:=hi
 obtain⟨N,hN⟩:∃N,ns.length=N:=⟨_,rfl⟩
 have HN:Hid (ns.length=N):=hN
 obtain⟨M,hM⟩:∃M,rs.length=M:=⟨_,rfl⟩
 have HM:Hid (rs.length=M):=hM
 rw[hN] at hn hg ⊢
 rw[hM] at hr ⊢
 clear h hp hi hN hM
 have hnz:(N:Int)≤1000000:=by omega
 have hmz:(M:Int)≤1000000:=by omega
 go_enter Tryz.func138,Tryz.ntmps138
 go_wp2
 go_loopg [5,7,13] N (fun gg s5 _ s13 wr=>∃(kk:Nat) (u:Value),kk≤N∧N-kk≤gg∧s13=.int .i64 (kk:Int)∧s5=u∧Aside (wr.ownsRow w.heap.size 28 3 u kk (zao (keyP rs (ns.take kk))))∧Aside (Below w.heap.size w wr))
 case atStart=>exact⟨0,.slice none 0 0,Nat.zero_le _,by omega,rfl,rfl,(show Aside _ from World.ownsRow_nil _ _ _ _),(show Aside _ from Below.refl _ _)⟩
 case round =>
  obtain⟨kk,u,hkk,hg',rfl,hu,OW,BW⟩:=hrel
  obtain rfl:u=_:=hu.symm
  by_cases hlt:kk<N
  ·have hltz:(kk:Int)<(N:Int):=by omega
   have h0z:(0:Int)≤(kk:Int):=by omega
   have hk1:kk<ns.length:=by rw[HN.out];exact hlt
   obtain⟨b0,o0,rfl,l0,r0⟩:=(HP.out.on BW.out).resolve_left (by omega)
   have hpl:=r0 kk hk1
   have hin:=HI.out _ (List.getElem_mem hk1)
   have HT:Hid (keyP rs (ns.take (kk+1))=keyP rs (ns.take kk)++[rs.getD ns[kk] (0,0,⟨#[]⟩)]):=by show _=_;rw[List.take_succ_eq_append_getElem hk1,keyP,keyP,List.map_append];rfl
   clear r0
   generalize ns[kk]=i at hpl hin HT
   obtain⟨b1,o1,rfl,l1,r1⟩:=(H.out.on BW.out).resolve_left (by omega)
   obtain⟨e0,e1,e2⟩:=r1 i hin
   have hgi:rs.getD i (0,0,⟨#[]⟩)=rs[i]:=by rw[List.getD_eq_getElem?_getD,List.getElem?_eq_getElem hin];rfl
   rw[hgi] at HT
   have hiM:i<M:=by rw[←HM.out];exact hin
   clear r1 hgi
   generalize rs[i]=x at e0 e1 e2 HT
   obtain⟨t,n,s⟩:=x
   simp only at e0 e1 e2
   have hiz:(i:Int)<(M:Int):=by omega
   have hi0:(0:Int)≤(i:Int):=by omega
   obtain⟨uq,uc,rfl⟩:=zaa OW.out
   have hbs:=BW.out.size
   have a1:∀(X:World) o,Below X.heap.size X (X.alloc o):=fun X o=>(Below.refl _ _).alloc (Nat.le_refl _) o
   have HO4:=(show Aside _ from zac OW.out (a1 wr (.cells #[.int .i64 t,.int .i64 n,.string s] 28)))
   have HJ4:=(show Aside _ from BW.out.alloc hbs (.cells #[.int .i64 t,.int .i64 n,.string s] 28))
   clear BW OW hin
   go_wp2_with (at_builtin;refine zaz rfl _ _ rfl w.heap.size _ kk (keyP rs (ns.take kk)) rfl HO4.out wr.heap.size 1 t n s rfl (news1 (by simp) _) (by omega) (by simp;omega) ?_)
   intro q' c' w4 ho hgr
   have hown4:∀m,(Value.slice uq kk uc).ownBlock=some m→w.heap.size≤m:=fun m hm=>(World.ownsRow.lt HO4.out m hm).1
   have B6:Aside (Below w.heap.size w w4):=HJ4.out.grown hgr (by simp;omega) hown4
   rw[←HT.out] at ho
   have O6:Aside (w4.ownsRow w.heap.size 28 3 (.slice q' (kk+1) c') (kk+1) (zao (keyP rs (ns.take (kk+1))))):=ho
   clear ho hgr HO4 HJ4 hown4
   go_wp2
   go_roundg (N-(kk+1))
   case measure=>omega
   case rel=>exact⟨kk+1,_,by omega,by omega,by go_num,rfl,O6,B6⟩
  ·have hltz:¬(kk:Int)<(N:Int):=by omega
   obtain rfl:kk=N:=by omega
   have ht:ns.take kk=ns:=List.take_of_length_le (by rw[HN.out];exact Nat.le_refl _)
   rw[ht] at OW
   go_wp2
   go_ret
   exact⟨⟨_,rfl,OW⟩,BW.out⟩
end
section
open Go.ChangeShapes Go.WideShapes Go.ChangeAt Go.Deep
def RowsB(w:World)(p:Option Addr)(rws:List (List V3)):Prop:=rws.length=0∨∃b off,p=some ⟨b,off,none⟩∧b<w.heap.size∧∀j (h:j<rws.length),∃q c,w.cell? ⟨b,off+j,none⟩=some (.slice q rws[j].length c)∧zaf w q rws[j]∧(rws[j].length=0∨∀g o,q=some ⟨g,o,none⟩→g<w.heap.size)
theorem RowsB.on{w w':World}{p:Option Addr}{rws:List (List V3)}(h:RowsB w p rws)(hb:Below w.heap.size w w'):RowsB w' p rws:=by
 rcases h with h|⟨b,off,e,hl,h⟩
 ·exact .inl h
 ·have:=hb.size
  refine .inr ⟨b,off,e,by omega,fun j hj=>?_⟩
  obtain⟨q,c,h1,h2,h3⟩:=h j hj
  refine⟨q,c,by rw[hb.cell (p:=⟨b,_,none⟩) hl];exact h1,h2.on hb,?_⟩
  rcases h3 with h3|h3
  ·exact .inl h3
  ·exact .inr fun g o e=>by have:=h3 g o e;omega
def RowsV(w:World)(v:Value)(rws:List (List V3)):Prop:=∃q c,v=.slice q rws.length c∧rws.length≤maxLen∧RowsB w q rws∧∀r∈rws,zbt r∧r.length≤maxLen
theorem RowsV.on{w w':World}{v:Value}{rws:List (List V3)}(h:RowsV w v rws)(hb:Below w.heap.size w w'):RowsV w' v rws:=by
 obtain⟨q,c,e,h1,h2,h3⟩:=h
 exact⟨q,c,e,h1,h2.on hb,h3⟩
namespace rwO
instance:Inhabited (List V3):=⟨[]⟩
end rwO
end
theorem zrH(z gb gB aB:Nat)(f sz at_:Int)(w:World)(hz:w.cell? ⟨z,0,none⟩=some (.int .i64 f))(hG:w.cell? ⟨gB,0,none⟩=some (.pointer (some ⟨gb,0,none⟩)))(hA:w.cell? ⟨aB,0,none⟩=some (.int .i64 at_))(hg:w.cell? ⟨gb,13,none⟩=some (.int .i64 sz))(h1:-9223372036854775808≤f+sz)(h2:f+sz≤9223372036854775807) :
  Calls Tryz.prog 106 #[.pointer (some ⟨z,0,none⟩),.pointer (some ⟨gB,0,none⟩),.pointer (some ⟨aB,0,none⟩)] w fun e w'=>e=.returned (.bool (decide (f+sz≤at_)))∧Below w.heap.size w w':=by
 have hw:IntKind.i64.wrap (f+sz)=f+sz:=by rw[IntKind.wrap_i64];omega
 go_enter Tryz.func106,Tryz.ntmps106
 go_wp2
 go_quiet (fail)
 go_wp2
 go_ret
 exact⟨rfl,(Below.refl w.heap.size w).trans ⟨rfl,rfl,rfl,Nat.le_refl _,fun _ _=>rfl⟩⟩
theorem zsZ(v:Value)(w:World) :
  Calls Tryz.prog 75 #[v] w fun e w'=>e=.returned (.bool true)∧w'=w:=by
 go_enter Tryz.func75,Tryz.ntmps75
 go_wp2
 go_ret
 exact⟨rfl,rfl⟩
end Go.Proofs.YtbdnccnfidjiaaaGreatDoor
