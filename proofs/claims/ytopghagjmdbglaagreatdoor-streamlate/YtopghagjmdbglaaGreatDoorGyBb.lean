/-
  QrM, QrN, QrO, QrP, QrQ, TreeTx, TreeWs, TreeSz, TreeRt.
-/
import Derived.Test.YtopghagjmdbglaaGreatDoorGyBa
import Derived.Test.YtopghagjmdbglaaGreatDoorGyAc
import Derived.Deep.LoopGhost
import Derived.Laws.AppendOwnNone
import Derived.Test.YtopghagjmdbglaaGreatDoorGyAx
import Derived.Test.YtopghagjmdbglaaGreatDoorGyAi
import Derived.Test.YtopghagjmdbglaaGreatDoorGyAb
import Derived.Test.YtopghagjmdbglaaGreatDoorGyAa
import Derived.Lib.Builder
import Derived.Lib.AppendStr
import Derived.Lib.OthersKept
import Derived.Test.YtopghagjmdbglaaGreatDoorGyAj
import Derived.Lib.ItoaLen
import Derived.Laws.StructEq
import Derived.Deep.RegionWith
import Derived.WalkSmall
namespace Go.Proofs.YtopghagjmdbglaaGreatDoor
open Go.RowKit
set_option linter.unusedVariables false
set_option linter.unusedSimpArgs false
set_option maxHeartbeats 8000000
set_option maxRecDepth 20000
section
open Go.BigFrame
variable {en : Nat}

theorem zsl(m:Int)(W:World):Sem.run Tryz.prog (binOp .eql 42 .nilIface (.iface 35 (.int .i64 m))) W=.ok (.bool false) W:=by kernel_rfl
theorem zrr(m:Int)(W:World)(j k:Nat):Sem.run Tryz.prog (eqGuard .eql 42 (.tmp j) (.tmp k) .nilIface (.iface 35 (.int .i64 m))) W=.ok () W:=by kernel_rfl
theorem zmJ(m:Int)(w:World) :
  Calls Tryz.prog 16 #[.nilIface,.iface 35 (.int .i64 m)] w fun e w'=>e=.returned (.bool false)∧w'=w:=by
 have e1:=zsl m
 have e2:=zrr m
 go_enter Tryz.func16,Tryz.ntmps16
 go_wp2
 go_ret
 exact⟨rfl,rfl⟩
def ckB(x:Ex):Bool:=ckP x == 4
theorem zpc(x:Ex)(lo:Nat→Prop)(v:Value)(w:World)(henv:TEnv w)(hx:ExIn w lo v x)(hsz:(x.pre 1).length≤1048576) :
  Calls Tryz.prog 15 #[v] w fun e w'=>e=.returned (.bool (ckB x))∧Below w.heap.size w w':=by
 have b1:=fun o=>(Below.refl w.heap.size w).alloc (Nat.le_refl _) o
 have cC:=fun o=>zgn x lo v (w.alloc o) (henv.on (b1 o)) (hx.on (b1 o)) hsz
 obtain⟨xp,xc,hxe,-⟩:=id hx.whole
 subst hxe
 rw[ckB]
 clear hx henv
 generalize ckP x=K at cC
 obtain⟨op,nm,vt,vn,vs,pos,l⟩:=x
 simp only[Ex.op,Ex.nm,Ex.vt,Ex.vn,Ex.vs,Ex.args,Ex.pos] at cC ⊢
 generalize l.length=NL at cC ⊢
 by_cases hK:K=0
 ·subst hK
  have cI:=fun W=>zmJ 4 W
  rw[errV,if_pos rfl] at cC
  go_enter Tryz.func15,Tryz.ntmps15
  go_wp2_with fail
  refine (cC _).mono ?_
  rintro e w1 ⟨rfl,b2⟩
  go_wp2_with fail
  refine (cI _).mono ?_
  rintro e w2 ⟨rfl,rfl⟩
  clear cC cI
  go_wp2
  go_ret
  exact⟨rfl,(b1 _).trans (b2.mono (by simp))⟩
 ·have cI:=fun W=>zbX K 4 W
  rw[errV,if_neg hK] at cC
  go_enter Tryz.func15,Tryz.ntmps15
  go_wp2_with fail
  refine (cC _).mono ?_
  rintro e w1 ⟨rfl,b2⟩
  go_wp2_with fail
  refine (cI _).mono ?_
  rintro e w2 ⟨rfl,rfl⟩
  clear cC cI
  go_wp2
  go_ret
  exact⟨rfl,(b1 _).trans (b2.mono (by simp))⟩
theorem zpn(args:Array Value)(W:World):Sem.run Tryz.prog (callFunc 15 args) W=.ok (.enter 15 args) W:=by kernel_rfl
theorem znS(lo:Nat→Prop)(p:Option Addr)(n c:Nat)(l:List Ex)(w:World)(henv:TEnv w)(hn:l.length=n)(h:zat w lo (.slice p n c) l)(hz:∀x∈l,(x.pre 1).length≤1048576)(h100:n≤2000) :
  Calls Tryz.prog 37 #[.slice p n c,.func (.func 15) #[] #[]] w fun e w'=>(∃k:Int,e=.returned (.int .i64 k)∧Hid (decide (0≤k)=l.any ckB))∧Below w.heap.size w w':=by
 have HS:Aside (zat w lo (.slice p n c) l):=h
 have HN:Hid (l.length=n):=hn
 have HE:Aside (TEnv w):=henv
 have HZ:=(show Aside _ from hz)
 obtain⟨R,hR⟩:∃R,l.any ckB=R:=⟨_,rfl⟩
 have HR:Hid (l.any ckB=R):=hR
 have hent:=zpn
 rw[hR]
 clear h hn hR henv hz
 go_enter Tryz.func37,Tryz.ntmps37
 go_wp2
 go_loopg [5,8] n (fun gg _ s8 wr=>∃kk:Nat,kk≤n∧n-kk≤gg∧s8=.int .i64 kk∧Aside (Below w.heap.size w wr)∧Hid ((l.drop kk).any ckB=R))
 case atStart=>exact⟨0,Nat.zero_le _,by omega,rfl,(show Aside _ from Below.refl _ _),HR⟩
 case round =>
  obtain⟨kk,hkk,hg,rfl,BW,A⟩:=hrel
  clear HR
  by_cases hlt:kk<n
  ·have hltz:(kk:Int)<(n:Int):=by omega
   have h0z:(0:Int)≤(kk:Int):=by omega
   have hk2:kk<l.length:=by rw[HN.out];exact hlt
   obtain⟨ba,oa,yp,yc,rfl,hbl,-,hrg,hx⟩:=zfn HS.out hk2
   have hrg2:=zdu hrg hbl BW.out
   have cP:=zpc l[kk] lo _ wr (HE.out.on BW.out) (hx.on BW.out) (HZ.out _ (List.getElem_mem hk2))
   have hd:l.drop kk=l[kk]::l.drop (kk+1):=List.drop_eq_getElem_cons hk2
   have HD:Hid ((ckB l[kk]||(l.drop (kk+1)).any ckB)=R):=by show _=_;rw[←A.out,hd,List.any_cons]
   clear hd A hx hrg
   generalize ckB l[kk]=CB at cP HD
   generalize l[kk]=x at cP hrg2
   obtain⟨op,nm,vt,vn,vs,pos,as'⟩:=x
   simp only[exV,Ex.op,Ex.nm,Ex.vt,Ex.vn,Ex.vs,Ex.args,Ex.pos] at cP hrg2
   generalize as'.length=NL at cP hrg2
   have hld:∀{ops:Array Oper} {rest:List Oper} {op':Oper} {a:Act} {Q:Exit→Act→World→Prop} (hgd:op'.guard=none) (x:Operand) (ho:op'.op=.load 30 x) (hx:a.eval x=.pointer (some ⟨ba,oa+kk*7,none⟩)),wpList Tryz.prog ops Q rest (a.put op'.dst (.agg #[.string op,.string nm,.int .i64 vt,.int .i64 vn,.string vs,.slice yp NL yc,.int .i64 pos])) wr→wpList Tryz.prog ops Q (op'::rest) a wr:=fun hgd x ho hx=>wpList_load_mid hgd 30 x ho ba (oa+kk*7) hx _ _ hrg2 Tryz.underlying30 rfl zaM
   clear hrg2
   go_wp2_with (refine hld rfl _ rfl rfl ?_)
   go_wp2_with fail
   refine cP.mono ?_
   rintro e w1 ⟨rfl,b1⟩
   have B1:Aside (Below w.heap.size w w1):=BW.out.trans (b1.mono BW.out.size)
   clear hld cP BW b1
   cases CB
   ·have HD2:Hid ((l.drop (kk+1)).any ckB=R):=by show _=_;rw[←HD.out];rfl
    clear HD
    go_wp2
    go_roundg (n-(kk+1))
    case measure=>omega
    case rel=>exact⟨kk+1,by omega,by omega,by go_num,B1,HD2⟩
   ·have hR:R=true:=by rw[←HD.out];rfl
    subst hR
    clear HD
    go_wp2
    go_ret
    exact⟨⟨kk,rfl,by show _=_;simp⟩,B1.out⟩
  ·have hltz:¬(kk:Int)<(n:Int):=by omega
   have hR:R=false:=by rw[←A.out,List.drop_eq_nil_of_le (by rw[HN.out];omega)];rfl
   subst hR
   clear A
   go_wp2
   go_ret
   exact⟨⟨-1,rfl,(show ((-1:Int)<0) by decide)⟩,BW.out⟩
theorem zhu(lo:Nat→Prop)(p:Option Addr)(n c:Nat)(l:List Ex)(w:World)(henv:TEnv w)(hn:l.length=n)(h:zat w lo (.slice p n c) l)(hz:∀x∈l,(x.pre 1).length≤1048576)(h100:n≤2000) :
  Calls Tryz.prog 18 #[.slice p n c,.func (.func 15) #[] #[]] w fun e w'=>e=.returned (.bool (l.any ckB))∧Below w.heap.size w w':=by
 have cI:=znS lo p n c l w henv hn h hz h100
 generalize l.any ckB=R at cI
 clear h hn henv hz
 go_enter Tryz.func18,Tryz.ntmps18
 go_wp2_with fail
 refine cI.mono ?_
 rintro e w' ⟨⟨k,rfl,HR⟩,b1⟩
 go_wp2
 go_ret
 exact⟨zaJ HR.out,b1⟩
end
section
open Go.BigFrame
variable {en : Nat}

def ExCs(w:World)(lo:Nat→Prop)(cs:List Value)(l:List Ex):Prop:=cs.length=l.length*7∧∀j (h:j<l.length),∃yp yc,(∀d v,(exL l[j] yp yc)[d]?=some v→cs[j*7+d]?=some v)∧ExIn w lo (exV l[j] yp yc) l[j]
theorem ExCs.nil(w:World)(lo:Nat→Prop):ExCs w lo [] []:=⟨rfl,fun j h=>absurd h (Nat.not_lt_zero _)⟩
theorem ExCs.one{w:World}{lo:Nat→Prop}{x:Ex}{xp:Option Addr}{xc:Nat}(h:ExIn w lo (exV x xp xc) x):ExCs w lo (exL x xp xc) [x]:=⟨rfl,fun j hj=>by
 obtain rfl:j=0:=by simp at hj;omega
 exact⟨xp,xc,fun d v hv=>by simpa using hv,h⟩⟩
theorem ExCs.app{w:World}{lo:Nat→Prop}{c1 c2:List Value}{l1 l2:List Ex}(h1:ExCs w lo c1 l1)(h2:ExCs w lo c2 l2):ExCs w lo (c1++c2) (l1++l2):=by
 refine⟨by rw[List.length_append,List.length_append,h1.1,h2.1];omega,fun j hj=>?_⟩
 rw[List.length_append] at hj
 have e7:∀(x:Ex) (yp:Option Addr) (yc d:Nat) (v:Value),(exL x yp yc)[d]?=some v→d<7:=fun x yp yc d v hv=>by have:=(List.getElem?_eq_some_iff.1 hv).1;simpa using this
 by_cases hl:j<l1.length
 ·obtain⟨yp,yc,h3,h4⟩:=h1.2 j hl
  simp only[List.getElem_append_left hl]
  refine⟨yp,yc,fun d v hv=>?_,h4⟩
  have:=e7 _ _ _ _ _ hv
  rw[List.getElem?_append_left (by have:=h1.1;omega)]
  exact h3 d v hv
 ·obtain⟨yp,yc,h3,h4⟩:=h2.2 (j-l1.length) (by omega)
  simp only[List.getElem_append_right (by omega:l1.length≤j)]
  refine⟨yp,yc,fun d v hv=>?_,h4⟩
  have hq:=h3 d v hv
  rw[List.getElem?_append_right (by have:=h1.1;omega)]
  rw[show j*7+d-c1.length=(j-l1.length)*7+d by have:=h1.1;omega]
  exact hq
theorem zia{w:World}{lo:Nat→Prop}{b:Nat}:∀(l:List Ex) (off:Nat),ExsIn w lo b off l→∃news:List Value,ExCs w lo news l∧(∀j u,news[j]?=some u→w.cell? ⟨b,off+j,none⟩=some u)∧(∀u∈news,u.oneCell'=true)
 | [],off,h=>⟨[],ExCs.nil _ _,fun j u hu=>by simp at hu,fun u hu=>by cases hu⟩
 | x::xs,off,h=>by
  rw[ExsIn] at h
  obtain⟨⟨v0,v1,v2,v3,v4,v5,v6,c0,c1,c2,c3,c4,c5,c6,hx⟩,hr⟩:=h
  obtain⟨yp,yc,hw,-⟩:=hx.whole
  injection hw with hw
  simp only[Array.mk.injEq,List.cons.injEq,and_true] at hw
  obtain⟨rfl,rfl,rfl,rfl,rfl,rfl,rfl⟩:=hw
  obtain⟨news,h1,h2,h3⟩:=zia xs (off+7) hr
  refine⟨exL x yp yc++news,(ExCs.one hx).app h1,fun j u hu=>?_,fun u hu=>?_⟩
  ·by_cases hj:j<7
   ·rw[List.getElem?_append_left (by simpa using hj)] at hu
    have:j=0∨j=1∨j=2∨j=3∨j=4∨j=5∨j=6:=by omega
    rcases this with rfl|rfl|rfl|rfl|rfl|rfl|rfl
    all_goals (simp at hu;subst hu;assumption)
   ·rw[List.getElem?_append_right (by simp;omega)] at hu
    have:=h2 _ u hu
    rw[show off+7+(j-(exL x yp yc).length)=off+j by simp;omega] at this
    exact this
  ·rcases List.mem_append.1 hu with h|h
   ·exact zeg _ _ _ u h
   ·exact h3 u h
theorem ExCs.is{w W:World}{lo:Nat→Prop}{B:Nat}{v:Value}{cs:List Value}{l:List Ex}(h:ExCs w lo cs l)(hb:Below w.heap.size w W)(ho:W.ownsRow B 30 7 v l.length cs):zat W (fun b=>lo b∨B≤b) v l:=by
 rcases id ho.2 with ⟨rfl,e⟩|⟨g,cap,cur,rfl,hB,hg,hm,hx,hs,ht⟩
 ·exact⟨none,0,by rw[e],⟨by omega,by omega⟩,.inl e⟩
 ·refine⟨some ⟨g,0,none⟩,cap,rfl,⟨by omega,hm⟩,.inr ⟨g,0,rfl,(Array.getElem?_eq_some_iff.1 hg).1,.inr hB,zbR _ _ _ _ _ fun j hj=>?_⟩⟩
  obtain⟨yp,yc,h1,h2⟩:=h.2 j hj
  have k:∀d u,(exL l[j] yp yc)[d]?=some u→W.cell? ⟨g,0+(j*7+d),none⟩=some u:=fun d u hu=>by
   have:=ho.cells (g:=g) rfl _ u (h1 d u hu)
   rw[Go.WideShapes.add_plain] at this
   exact this
  have k':∀d u,(exL l[j] yp yc)[d]?=some u→W.cell? ⟨g,0+j*7+d,none⟩=some u:=fun d u hu=>by rw[Nat.add_assoc];exact k d u hu
  exact⟨_,_,_,_,_,_,_,k' 0 _ rfl,k' 1 _ rfl,k' 2 _ rfl,k' 3 _ rfl,k' 4 _ rfl,k' 5 _ rfl,k' 6 _ rfl,ExIn.low (fun b _ hb=>.inl hb) _ _ (h2.on hb)⟩
theorem zui(w:World)(B:Nat)(x:Ex)(xp:Option Addr)(xc g:Nat)(hg:g=w.heap.size)(hB:B≤g):(w.alloc (.cells (exL x xp xc).toArray 30)).ownsRow B 30 7 (.slice (some ⟨g,0,none⟩) 1 1) 1 (exL x xp xc):=by
 subst hg
 exact⟨rfl,.inr ⟨w.heap.size,1,_,rfl,hB,zaW w _ _,Nat.le_refl _,by decide,rfl,rfl⟩⟩
end
section
open Go.BigFrame
variable {en : Nat}

theorem zmK(ad:Addr)(j:Nat):(ad.add j).block=ad.block:=by
 unfold Addr.add
 split<;>rfl
theorem zth{w:World}{B:Nat}{e:TypeId}{sz n g m:Nat}{xs:List Value}(h:w.ownsRow B e sz (.slice (some ⟨g+1,0,none⟩) n m) n xs):some g≠(Value.slice (some ⟨g+1,0,none⟩) n m).ownBlock:=by
 simp[Value.ownBlock]
theorem zgy(q:Qy)(lo:Nat→Prop)(wp:Option Addr)(wc:Nat)(cp:Option Addr)(cc:Nat)(np:Option Addr)(nc:Nat)(gp:Option Addr)(gc:Nat)(ap:Option Addr)(ac:Nat)(QC:Array Value)(hQ:QV QC q cp cc np nc gp gc ap ac)(hW:∀(j:Nat) (v:Value),(exL q.whr wp wc)[j]?=some v→QC[1+j]?=some v)(w:World)(hB:QyBe w lo q wp wc cp cc np nc gp gc ap ac)(hcn:cp=none→cc=0)(hl1:q.cols.length≤401)(hl2:q.aggs.length≤401) :
  Calls Tryz.prog 19 #[.agg QC] w fun e w'=>(∃p n c,e=.returned (.slice p n c)∧Aside (zat w' (fun b=>lo b∨w.heap.size≤b) (.slice p n c) (exsQ q))∧Hid ((exsQ q).length=n))∧Below w.heap.size w w':=by
 have b1:=(Below.refl w.heap.size w).alloc (Nat.le_refl _) (.cells QC 34)
 obtain⟨hs,h8,h9,h10,h11,h12,h13⟩:=hQ
 clear hs h9 h10 h11 h12
 have HAG:Aside (AgsIs w lo ap q.aggs):=hB.aggs
 have hblk:=zaW w QC 34
 have hlw:∀{ops:Array Oper} {rest:List Oper} {op:Oper} {a:Act} {Q:Exit→Act→World→Prop} (hgd:op.guard=none) (x:Operand) (ho:op.op=.load 30 x) (hx:a.eval x=.pointer (some ⟨w.heap.size,1,none⟩)),wpList Tryz.prog ops Q rest (a.put op.dst (.agg (exL q.whr wp wc).toArray)) (w.alloc (.cells QC 34))→wpList Tryz.prog ops Q (op::rest) a (w.alloc (.cells QC 34)):=fun hgd x ho hx=>wpList_load_mid hgd 30 x ho w.heap.size 1 hx _ _ (fun j v hv=>by
  have:=hW j v hv
  simp only[World.cell?,hblk]
  exact this) Tryz.underlying30 rfl zaM
 obtain⟨i0,hi,hz0,hz1,hzz⟩:=info_parts zkk
 have bV:Below w.heap.size w ((w.alloc (.cells QC 34)).alloc (.cells (exL q.whr wp wc).toArray 30)):=b1.alloc (by simp) _
 have own1:=zui (w.alloc (.cells QC 34)) w.heap.size q.whr wp wc (w.heap.size+1) (by simp) (by omega)
 have hC1:=ExCs.one hB.whr
 obtain⟨NC,hNC⟩:∃NC,q.cols.length=NC:=⟨_,rfl⟩
 obtain⟨NA,hNA⟩:∃NA,q.aggs.length=NA:=⟨_,rfl⟩
 have HNA:Hid (q.aggs.length=NA):=hNA
 have HNC:Hid (q.cols.length=NC):=hNC
 have hCols:(cp=none∧NC=0∧cc=0)∨∃(ad:Addr) (news:List Value),cp=some ad∧ExCs w lo news q.cols∧(∀(j:Nat) (u:Value),news[j]?=some u→w.cell? (ad.add j)=some u)∧(∀u∈news,u.oneCell'=true)∧(∀(j:Nat) (u:Value),news[j]?=some u→ad.block<w.heap.size):=by
  cases cp with
  | none =>
   left
   obtain⟨p,c,e,-,h⟩:=hB.cols
   rcases h with h|⟨b,off,e2,-⟩
   ·exact⟨rfl,by rw[←hNC];exact h,hcn rfl⟩
   ·simp only[Value.slice.injEq] at e
    rw[←e.1] at e2
    exact absurd e2 (by simp)
  | some ad =>
   right
   obtain⟨p,c,e,-,h⟩:=hB.cols
   simp only[Value.slice.injEq] at e
   rcases h with h|⟨b,off,e2,hbl,-,hE⟩
   ·have:q.cols=[]:=List.length_eq_zero_iff.1 h
    exact⟨ad,[],rfl,(by rw[this];exact ExCs.nil _ _),(fun j u hu=>by simp at hu),(fun u hu=>by cases hu),(fun j u hu=>by simp at hu)⟩
   ·rw[←e.1] at e2
    injection e2 with e2
    subst e2
    obtain⟨news,n1,n2,n3⟩:=zia q.cols off hE
    exact⟨_,news,rfl,n1,fun j u hu=>by rw[Go.WideShapes.add_plain];exact n2 j u hu,n3,fun _ _ _=>hbl⟩
 rw[hNC] at h8 hl1
 rw[hNA] at h13 hl2
 have hap:∀{ops:Array Oper} {rest:List Oper} {o:Oper} {a:Act} {Q:Exit→Act→World→Prop} (hgd:o.guard=none) (s x:Operand) (ho:o.op=.call { callee:=.builtin .append,args:=#[s,x],argTypes:=#[28,28] }) (hs:a.eval s=.slice (some ⟨w.heap.size+1,0,none⟩) 1 1) (hx:a.eval x=.slice cp NC cc),(∀v' w' CS,w'.ownsRow w.heap.size 30 7 v' (1+NC) CS→ExCs w lo CS (q.whr::q.cols)→Below w.heap.size w w'→w.heap.size+2≤w'.heap.size→w'.cell? ⟨w.heap.size,13,none⟩=some (.slice ap NA ac)→wpList Tryz.prog ops Q rest (a.put o.dst v') w')→wpList Tryz.prog ops Q (o::rest) a ((w.alloc (.cells QC 34)).alloc (.cells (exL q.whr wp wc).toArray 30)):=fun {ops rest o a Q} hgd s x ho hs hx hK=>by
  have h13V:((w.alloc (.cells QC 34)).alloc (.cells (exL q.whr wp wc).toArray 30)).cell? ⟨w.heap.size,13,none⟩=some (.slice ap NA ac):=by
   rw[World.cell?_alloc_past _ _ _ (by simp),World.cell?_alloc_at _ _ _ _ rfl];exact h13
  rcases hCols with ⟨rfl,rfl,rfl⟩|⟨ad,news,rfl,n1,n2,n3,n4⟩
  ·have hc0:q.cols=[]:=List.length_eq_zero_iff.1 HNC.out
   refine wpList_append_own_none hgd s x 28 ho w.heap.size 30 i0 7 Tryz.underlying28 hi _ 1 _ hs own1 hx (hK _ _ _ own1 (by rw[hc0];exact hC1) bV (by simp) h13V)
  ·have hln:news.length=NC*7:=by rw[n1.1,HNC.out]
   refine wpList_append_own _ hgd s x 28 ho w.heap.size 30 i0 _ 7 96 Tryz.underlying28 hi hz0 hz1 hzz rfl (by decide) _ 1 _ hs own1 ad NC cc news hx hln (fun j u hu=>by
    have h1:=n2 j u hu
    have h2:=n4 j u hu
    rw[bV.cell (p:=ad.add j) (by rw[zmK];exact h2)];exact h1) n3 (by unfold maxLen;omega) (by omega) (by simp;omega) (fun v' w' o1 o2 _=>?_)
   refine hK v' w' _ o1 (hC1.app n1) (bV.grown o2 (by simp;omega) (fun j hj=>(own1.lt j hj).1)) (by have:=o2.size;simp at this;omega) ?_
   have hb:=o2.block w.heap.size (by simp;omega) (zth own1)
   simp only[World.cell?,hb]
   exact h13V
 have hl13:w.heap.size<w.heap.size+2:=by omega
 have HL:Hid ((exsQ q).length=1+NC+NA):=by show _=_;rw[exsQ,List.length_cons,List.length_append,List.length_map,HNC.out,HNA.out];omega
 clear hB hW hblk hcn hNC hNA hCols own1 hC1 bV
 go_enter Tryz.func19,Tryz.ntmps19
 go_wp2_with (first|(refine hlw rfl _ rfl rfl ?_)|(at_builtin;refine hap rfl _ _ rfl rfl rfl ?_;intro v' w1 CS o1 x1 bw1 hs1 k13))
 have OW1:Aside (w1.ownsRow w.heap.size 30 7 v' (1+NC) CS):=o1
 have X1:Aside (ExCs w lo CS (q.whr::q.cols)):=x1
 have hl1w:w.heap.size<w1.heap.size:=by omega
 clear hlw hap o1 x1
 go_loopg [3,5,15] NA (fun gg s3 _ s15 wr=>∃(kk:Nat) (u:Value) (CK:List Value),kk≤NA∧NA-kk≤gg∧s15=.int .i64 (kk:Int)∧s3=u∧Aside (wr.ownsRow w.heap.size 30 7 u (1+NC+kk) CK)∧Aside (ExCs w lo CK ((q.whr::q.cols)++(q.aggs.take kk).map (·.arg)))∧Aside (Below w.heap.size w wr)∧w.heap.size≤wr.heap.size)
 case atStart=>exact⟨0,v',CS,Nat.zero_le _,by omega,rfl,rfl,(show Aside _ from OW1.out),(show Aside _ from (by simpa using X1.out:ExCs w lo CS ((q.whr::q.cols)++(q.aggs.take 0).map (·.arg)))),(show Aside _ from bw1),by omega⟩
 case round =>
  obtain⟨kk,u,CK,hkk,hgk,rfl,hu,OJ,XJ,BJ,hsz⟩:=hrel
  obtain rfl:u=_:=hu.symm
  clear OW1 X1 bw1 hs1 k13 hl1w
  by_cases hlt:kk<NA
  ·have hltz:(kk:Int)<(NA:Int):=by omega
   have h0z:(0:Int)≤(kk:Int):=by omega
   have hk2:kk<q.aggs.length:=by rw[HNA.out];exact hlt
   obtain⟨ba,oa,yp,yc,rfl,hbl,-,hrg,hx⟩:=zps HAG.out hk2
   have hrg2:=zdu hrg hbl BJ.out
   have XN:Aside (ExCs w lo (CK++exL q.aggs[kk].arg yp yc) ((q.whr::q.cols)++(q.aggs.take (kk+1)).map (·.arg))):=by
    have:=XJ.out.app (ExCs.one hx)
    rw[List.take_succ_eq_append_getElem hk2,List.map_append,←List.append_assoc]
    exact this
   clear hrg hx XJ
   generalize q.aggs[kk]=x at hrg2 XN
   obtain⟨what,⟨op,nm,vt,vn,vs,pos,l⟩,name⟩:=x
   simp only[exL,Ex.op,Ex.nm,Ex.vt,Ex.vn,Ex.vs,Ex.args,Ex.pos] at hrg2 XN
   generalize l.length=NL at hrg2 XN
   have hld:∀{ops:Array Oper} {rest:List Oper} {op':Oper} {a:Act} {Q:Exit→Act→World→Prop} (hgd:op'.guard=none) (x:Operand) (ho:op'.op=.load 92 x) (hx:a.eval x=.pointer (some ⟨ba,oa+kk*9,none⟩)),wpList Tryz.prog ops Q rest (a.put op'.dst (.agg #[.string what,.string op,.string nm,.int .i64 vt,.int .i64 vn,.string vs,.slice yp NL yc,.int .i64 pos,.string name])) wr→wpList Tryz.prog ops Q (op'::rest) a wr:=fun hgd x ho hx=>wpList_load_mid hgd 92 x ho ba (oa+kk*9) hx _ _ hrg2 Tryz.underlying92 rfl zgX
   clear hrg2
   have O2:=(OJ.out.alloc (.cells #[.string what,.string op,.string nm,.int .i64 vt,.int .i64 vn,.string vs,.slice yp NL yc,.int .i64 pos,.string name] 92)).alloc (.cells #[.string op,.string nm,.int .i64 vt,.int .i64 vn,.string vs,.slice yp NL yc,.int .i64 pos] 30)
   have bb:=((Below.refl wr.heap.size wr).alloc (Nat.le_refl _) (.cells #[.string what,.string op,.string nm,.int .i64 vt,.int .i64 vn,.string vs,.slice yp NL yc,.int .i64 pos,.string name] 92)).alloc (by simp) (.cells #[.string op,.string nm,.int .i64 vt,.int .i64 vn,.string vs,.slice yp NL yc,.int .i64 pos] 30)
   have BW:=BJ.out.trans (bb.mono BJ.out.size)
   obtain⟨uq,uc,rfl⟩:=zaa O2
   have hnews:∀j u,([.string op,.string nm,.int .i64 vt,.int .i64 vn,.string vs,.slice yp NL yc,.int .i64 pos]:List Value)[j]?=some u→((wr.alloc (.cells #[.string what,.string op,.string nm,.int .i64 vt,.int .i64 vn,.string vs,.slice yp NL yc,.int .i64 pos,.string name] 92)).alloc (.cells #[.string op,.string nm,.int .i64 vt,.int .i64 vn,.string vs,.slice yp NL yc,.int .i64 pos] 30)).cell? ((⟨wr.heap.size+1,0,none⟩:Addr).add j)=some u:=fun j u hu=>by
    rw[Go.WideShapes.add_plain,World.cell?_alloc_at _ _ _ _ (by simp)]
    simpa using hu
   go_wp2_with (first|(at_builtin;refine zae rfl _ _ 28 rfl w.heap.size 30 i0 _ 7 96 Tryz.underlying28 hi hz0 hz1 hzz rfl (by decide) _ (1+NC+kk) CK rfl O2 ⟨wr.heap.size+1,0,none⟩ 1 1 _ rfl rfl hnews (by intro u hu;simp at hu;rcases hu with rfl|rfl|rfl|rfl|rfl|rfl|rfl<;>rfl) (by decide) (by unfold maxLen;omega) (by omega) (by simp;omega) ?_)|(refine hld rfl _ rfl rfl ?_))
   intro v2 w2 ho hgr _
   have O3:Aside (w2.ownsRow w.heap.size 30 7 v2 (1+NC+(kk+1)) (CK++[.string op,.string nm,.int .i64 vt,.int .i64 vn,.string vs,.slice yp NL yc,.int .i64 pos])):=ho
   have B3:Aside (Below w.heap.size w w2):=BW.grown hgr (by simp;omega) (fun j hj=>(O2.lt j hj).1)
   have hs2:w.heap.size≤w2.heap.size:=B3.out.size
   clear ho hgr OJ BJ O2 hld BW bb hnews
   go_wp2
   go_roundg (NA-(kk+1))
   case measure=>omega
   case rel=>exact⟨kk+1,v2,_,by omega,by omega,by go_num,rfl,O3,XN,B3,hs2⟩
  ·have hltz:¬(kk:Int)<(NA:Int):=by omega
   obtain rfl:kk=NA:=by omega
   have hall:(q.whr::q.cols)++(q.aggs.take kk).map (·.arg)=exsQ q:=by
    rw[List.take_of_length_le (by rw[HNA.out];exact Nat.le_refl _)];rfl
   have XF:=XJ.out
   rw[hall] at XF
   have OF:=OJ.out
   rw[←HL.out] at OF
   have AI:Aside (zat wr (fun b=>lo b∨w.heap.size≤b) u (exsQ q)):=XF.is BJ.out OF
   obtain⟨uq,uc,rfl⟩:=zaa OJ.out
   have B2:=BJ.out
   clear OJ BJ XJ XF OF hall
   go_wp2
   go_ret
   exact⟨⟨uq,_,uc,rfl,AI,HL⟩,B2⟩
end
section
open Go.BigFrame
variable {en : Nat}

theorem zrT{t:Tok}(h:tokAt t.2.1.data.toList=(t.1,t.2.1.data.toList.length,0))(hk:isNum t=true):Lib.atoiAll t.2.1.data.toList=.ok (nuI t.2.1.data.toList):=by
 have hk:t.1=2:=by simpa [isNum] using hk
 rw[hk] at h
 generalize t.2.1.data.toList=l at h ⊢
 cases l with
 | nil=>simp[tokAt] at h
 | cons c l =>
  rw[tokAt] at h
  split at h
  ·simp at h
  ·split at h
   ·simp only[Prod.mk.injEq,true_and] at h
    obtain⟨h1,h2⟩:(zaU (c::l)).1=(c::l).length∧(zaU (c::l)).2=0:=by rw[h];exact⟨rfl,rfl⟩
    rw[zaU] at h1 h2
    split at h1
    ·simp at h1
    ·rename_i hz
     split at h1
     ·simp at h1
     ·rename_i hv
      have hg:goN digB (c::l)=(c::l).length:=h1
      have ha:=zcP digB (c::l)
      rw[hg,List.take_length] at ha hv
      rw[hg] at hz
      exact (zkg (by simp) ha (fun e=>hz (.inr e))).1 (by omega)
   ·split at h<;>simp at h
theorem zkN{s:List UInt8}{R:List Tok}(h:zaC s=(R,0,0)):NumT R:=fun t ht hk=>by
 obtain⟨_,_,_,hg⟩:=zcX h
 have:=(hg t ht).again [] rfl
 rw[List.append_nil] at this
 exact zrT this hk
end
section
open Go.BigFrame
def qpC(l:List UInt8):Qy×Int×Nat :=
 if (zaC l).2.1≠0 then (qyZ,(zaC l).2.1,(zaC l).2.2)
 else match qU (zaC l).1 with
  | (some q,[])=>if (exsQ q).any ckB=true then (qyZ,4,0) else (q,0,0)
  | (_,r)=>(qyZ,2,zgI r l.length)
theorem zas{α β:Type}{a:Option α×List Tok}{f:α→List Tok→Option β×List Tok}{y:β}(h:(thU a f).1=some y):∃x,a.1=some x∧(f x a.2).1=some y:=by
 obtain⟨o,rs⟩:=a
 cases o with
 | none=>simp[thU] at h
 | some x=>exact⟨x,rfl,h⟩
theorem zgY{α:Type}{part:List Tok→Option α×List Tok}(P:α→Prop)(N:Nat)(hsuf:∀ts,(part ts).2 <:+ ts)(hp:∀ts x,ts.length≤N→(part ts).1=some x→P x):∀(k:Nat) (acc:List α) (ts:List Tok) (l:List α),ts.length≤N→(∀x∈acc,P x)→(sevU part k acc ts).1=some l→∀x∈l,P x
 | 0,acc,ts,l,hN,ha,h=>by simp[sevU] at h
 | k+1,acc,ts,l,hN,ha,h=>by
  rw[sevU] at h
  have hs:=(hsuf ts).length_le
  split at h
  ·simp at h
  ·rename_i x rs e
   rw[e] at hs
   simp only at hs
   have hx:P x:=hp ts x hN (by rw[e])
   have ha':∀y∈acc++[x],P y:=fun y hy=>by
    rcases List.mem_append.1 hy with hy|hy
    ·exact ha y hy
    ·rw[List.mem_singleton.1 hy];exact hx
   split at h
   ·rename_i t rs' e2
    have:=(zcF e2).length_le
    exact zgY P N hsuf hp k _ rs' l (by omega) ha' h
   ·simp only[Option.some.injEq] at h
    subst h
    exact ha'
theorem zcL{ts:List Tok}{x:Ex}{N:Nat}(hN:ts.length≤N)(h:(readE ts).1=some x):x.size≤N+1:=by
 have:=zsB _ _ ts x h
 omega
theorem zir(N:Nat):ex0.size≤N+1:=by
 have:ex0.size=1:=rfl
 omega
theorem zjP{ts:List Tok}{x:Ex×ByteArray}{N:Nat}(hN:ts.length≤N)(h:(colU ts).1=some x):x.1.size≤N+1:=by
 rw[colU] at h
 obtain⟨y,h1,h2⟩:=zas h
 obtain⟨n,-,h3⟩:=zas h2
 simp only[Option.some.injEq] at h3
 subst h3
 exact zcL hN h1
theorem zlM{ts:List Tok}{x:Ag}{N:Nat}(hN:ts.length≤N)(h:(aggU ts).1=some x):x.arg.size≤N+1:=by
 rw[aggU] at h
 split at h
 ·rename_i t rs e
  have h0:=(zcF e).length_le
  obtain⟨y,h1,h2⟩:=zas h
  obtain⟨n,-,h3⟩:=zas h2
  simp only[Option.some.injEq] at h3
  subst h3
  rw[argU] at h1
  split at h1
  ·simp only[Option.some.injEq] at h1
   subst h1
   exact zir N
  ·rw[brU] at h1
   obtain⟨u,-,h4⟩:=zas h1
   obtain⟨z,h5,h6⟩:=zas h4
   obtain⟨u2,-,h7⟩:=zas h6
   simp only[Option.some.injEq] at h7
   subst h7
   have:=(zaV [40] rs).length_le
   exact zcL (by omega) h5
 ·simp at h
theorem ziL{ts:List Tok}{x:ByteArray×Ex}{N:Nat}(hN:ts.length≤N)(h:(frU ts).1=some x):x.2.size≤N+1:=by
 rw[frU] at h
 obtain⟨u,-,h1⟩:=zas h
 obtain⟨f,-,h2⟩:=zas h1
 obtain⟨y,h3,h4⟩:=zas h2
 simp only[Option.some.injEq] at h4
 subst h4
 have l1:=(zaV wFrom ts).length_le
 have l2:=(zdO (jU wFrom ts).2).length_le
 rw[whU] at h3
 split at h3
 ·rename_i t rs e
  have h0:=(zcF e).length_le
  exact zcL (by omega) h3
 ·simp only[Option.some.injEq] at h3
  subst h3
  exact zir N
theorem zqE{ts:List Tok}{q:Qy}{N:Nat}(hN:ts.length≤N)(h:(qU ts).1=some q):∀x∈exsQ q,x.size≤N+1:=by
 rw[qU] at h
 obtain⟨u,-,h⟩:=zas h
 have l1:=(zaV zaR ts).length_le
 generalize (jU zaR ts).2=rs at h l1
 have hrs:rs.length≤N:=by omega
 split at h
 ·rw[qTwoU] at h
  obtain⟨a,ha,h⟩:=zas h
  obtain⟨f,hf,h⟩:=zas h
  obtain⟨g,hg,h⟩:=zas h
  simp only[Option.some.injEq] at h
  subst h
  have l2:=(zby zbJ (rs.length+1) [] rs).length_le
  have hA:=zgY (fun x:Ag=>x.arg.size≤N+1) N zbJ (fun ts x hN h=>zlM hN h) _ [] rs a hrs (by simp) ha
  intro x hx
  simp only[exsQ,List.nil_append,List.mem_cons,List.mem_map] at hx
  rcases hx with rfl|⟨y,hy,rfl⟩
  ·exact ziL (by omega) hf
  ·exact hA y hy
 ·rw[qOneU] at h
  obtain⟨a,ha,h⟩:=zas h
  obtain⟨f,hf,h⟩:=zas h
  simp only[Option.some.injEq] at h
  subst h
  have l2:=(zby zbO (rs.length+1) [] rs).length_le
  have hA:=zgY (fun x:Ex×ByteArray=>x.1.size≤N+1) N zbO (fun ts x hN h=>zjP hN h) _ [] rs a hrs (by simp) ha
  intro x hx
  simp only[exsQ,List.map_nil,List.append_nil,List.mem_cons,List.mem_map] at hx
  rcases hx with rfl|⟨y,hy,rfl⟩
  ·exact ziL (by omega) hf
  ·exact hA y hy
end
def inter(bt:List UInt8):List (List UInt8)→List UInt8
 | []=>[]
 | [t]=>t
 | t::u::ts=>t++bt++inter bt (u::ts)
theorem zgp(bt t:List UInt8):∀ts:List (List UInt8),inter bt (ts++[t])=if ts.length=0 then t else inter bt ts++bt++t
 | []=>rfl
 | [u]=>by simp[inter]
 | u::v::ts=>by
  have ih:=zgp bt t (v::ts)
  simp only[List.cons_append,inter,List.length_cons] at ih ⊢
  rw[ih]
  simp
def argsT(bt:List UInt8)(ts:List (List UInt8)):List UInt8:=40::(inter bt ts++[41])
def znX(s t:List UInt8):List UInt8:=40::(s++32::(t++[41]))
mutual
def txP:Ex→List UInt8
 | .node op nm vt vn vs _ l =>
  if op.data.toList=[118,97,108] then prS vt vn vs.data.toList
  else if op.data.toList=[99,111,108] then nm.data.toList
  else if op.data.toList=[108,101,110]∨op.data.toList=[105,102] then op.data.toList++argsT [44,32] (txsP l)
  else if op.data.toList=[110,111,116] then znX [110,111,116] ((txsP l).headD [])
  else if op.data.toList=[110,101,103] then znX [45] ((txsP l).headD [])
  else argsT (32::(op.data.toList++[32])) (txsP l)
def txsP:List Ex→List (List UInt8)
 | []=>[]
 | x::xs=>txP x::txsP xs
end
section
open Go.BigFrame
def inI(n:Int):Prop:=-9223372036854775808≤n∧n≤9223372036854775807
end
def Ex.small(x:Ex):Bool:=decide (x.size≤200)&&decide (x.deep≤30)
def bin14:List (List UInt8):=[[111,114],[97,110,100],[61],[60,62],[60],[60,61],[62],[62,61],[43],[45],[42],[47],[37]]
end Go.Proofs.YtopghagjmdbglaaGreatDoor
