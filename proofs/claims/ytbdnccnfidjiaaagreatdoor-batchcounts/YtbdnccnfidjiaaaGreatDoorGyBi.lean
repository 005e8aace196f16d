/-
  QrO, QrP, QwB, QwE, QrR, QrS, QrT, BcQ, BcR.
-/
import Derived.Test.YtbdnccnfidjiaaaGreatDoorGyAs
import Derived.Test.YtbdnccnfidjiaaaGreatDoorYLex5
import Derived.Test.YtbdnccnfidjiaaaGreatDoorGyAr
import Derived.Test.YtbdnccnfidjiaaaGreatDoorGyAt
import Derived.Test.YtbdnccnfidjiaaaGreatDoorGyAm
import Derived.Test.YtbdnccnfidjiaaaGreatDoorYQuC7
import Derived.Test.YtbdnccnfidjiaaaGreatDoorGyBh
import Derived.Test.YtbdnccnfidjiaaaGreatDoorGyAj
import Derived.Test.YtbdnccnfidjiaaaGreatDoorGyAi
import Derived.Test.YtbdnccnfidjiaaaGreatDoorGyAw
namespace Go.Proofs.YtbdnccnfidjiaaaGreatDoor
open Go.RowKit
set_option linter.unusedVariables false
set_option linter.unusedSimpArgs false
set_option maxHeartbeats 8000000
section
open Go.BigFrame
variable {en : Nat}

theorem zlw(ad:Addr)(j:Nat):(ad.add j).block=ad.block:=by
 unfold Addr.add
 split<;>rfl
theorem zrx{w:World}{B:Nat}{e:TypeId}{sz n g m:Nat}{xs:List Value}(h:w.ownsRow B e sz (.slice (some ⟨g+1,0,none⟩) n m) n xs):some g≠(Value.slice (some ⟨g+1,0,none⟩) n m).ownBlock:=by
 simp[Value.ownBlock]
set_option maxRecDepth 20000 in
theorem zfm(q:Qy)(lo:Nat→Prop)(wp:Option Addr)(wc:Nat)(cp:Option Addr)(cc:Nat)(np:Option Addr)(nc:Nat)(gp:Option Addr)(gc:Nat)(ap:Option Addr)(ac:Nat)(QC:Array Value)(hQ:QV QC q cp cc np nc gp gc ap ac)(hW:∀(j:Nat) (v:Value),(exL q.whr wp wc)[j]?=some v→QC[1+j]?=some v)(w:World)(hB:QyBe w lo q wp wc cp cc np nc gp gc ap ac)(hcn:cp=none→cc=0)(hl1:q.cols.length≤401)(hl2:q.aggs.length≤401) :
  Calls Tryz.prog 15 #[.agg QC] w fun e w'=>(∃p n c,e=.returned (.slice p n c)∧Aside (zaq w' (fun b=>lo b∨w.heap.size≤b) (.slice p n c) (exsQ q))∧Hid ((exsQ q).length=n))∧Below w.heap.size w w':=by
 have b1:=(Below.refl w.heap.size w).alloc (Nat.le_refl _) (.cells QC 34)
 obtain⟨hs,h8,h9,h10,h11,h12,h13⟩:=hQ
 clear hs h9 h10 h11 h12
 have HAG:Aside (AgsIs w lo ap q.aggs):=hB.aggs
 have hblk:=zbb w QC 34
 have hlw:∀{ops:Array Oper} {rest:List Oper} {op:Oper} {a:Act} {Q:Exit→Act→World→Prop} (hgd:op.guard=none) (x:Operand) (ho:op.op=.load 31 x) (hx:a.eval x=.pointer (some ⟨w.heap.size,1,none⟩)),wpList Tryz.prog ops Q rest (a.put op.dst (.agg (exL q.whr wp wc).toArray)) (w.alloc (.cells QC 34))→wpList Tryz.prog ops Q (op::rest) a (w.alloc (.cells QC 34)):=fun hgd x ho hx=>wpList_load_mid hgd 31 x ho w.heap.size 1 hx _ _ (fun j v hv=>by
  have:=hW j v hv
  simp only[World.cell?,hblk]
  exact this) Tryz.underlying31 rfl zbf
 obtain⟨i0,hi,hz0,hz1,hzz⟩:=info_parts zoG
 have bV:Below w.heap.size w ((w.alloc (.cells QC 34)).alloc (.cells (exL q.whr wp wc).toArray 31)):=b1.alloc (by simp) _
 have own1:=zry (w.alloc (.cells QC 34)) w.heap.size q.whr wp wc (w.heap.size+1) (by simp) (by omega)
 have hC1:=ExCs.one hB.whr
 obtain⟨NC,hNC⟩:∃NC,q.cols.length=NC:=⟨_,rfl⟩
 obtain⟨NA,hNA⟩:∃NA,q.aggs.length=NA:=⟨_,rfl⟩
 have HNA:Hid (q.aggs.length=NA):=hNA
 have HNC:Hid (q.cols.length=NC):=hNC
 have hCols:(cp=none∧NC=0∧cc=0)∨∃(ad:Addr) (news:List Value),cp=some ad∧ExCs w lo news q.cols∧(∀(j:Nat) (u:Value),news[j]?=some u→w.cell? (ad.add j)=some u)∧(∀u∈news,u.oneCell'=true)∧(∀(j:Nat) (u:Value),news[j]?=some u→ad.block<w.heap.size):=by
  cases cp with
  | none =>
   left
   obtain⟨p,c,e,-,h⟩:=hB.cols
   rcases h with h|⟨b,off,e2,-⟩
   ·exact⟨rfl,by rw[←hNC];exact h,hcn rfl⟩
   ·simp only[Value.slice.injEq] at e
    rw[←e.1] at e2
    exact absurd e2 (by simp)
  | some ad =>
   right
   obtain⟨p,c,e,-,h⟩:=hB.cols
   simp only[Value.slice.injEq] at e
   rcases h with h|⟨b,off,e2,hbl,-,hE⟩
   ·have:q.cols=[]:=List.length_eq_zero_iff.1 h
    exact⟨ad,[],rfl,(by rw[this];exact ExCs.nil _ _),(fun j u hu=>by simp at hu),(fun u hu=>by cases hu),(fun j u hu=>by simp at hu)⟩
   ·rw[←e.1] at e2
    injection e2 with e2
    subst e2
    obtain⟨news,n1,n2,n3⟩:=zho q.cols off hE
    exact⟨_,news,rfl,n1,fun j u hu=>by rw[Go.WideShapes.add_plain];exact n2 j u hu,n3,fun _ _ _=>hbl⟩
 rw[hNC] at h8 hl1
 rw[hNA] at h13 hl2
 have hap:∀{ops:Array Oper} {rest:List Oper} {o:Oper} {a:Act} {Q:Exit→Act→World→Prop} (hgd:o.guard=none) (s x:Operand) (ho:o.op=.call { callee:=.builtin .append,args:=#[s,x],argTypes:=#[29,29] }) (hs:a.eval s=.slice (some ⟨w.heap.size+1,0,none⟩) 1 1) (hx:a.eval x=.slice cp NC cc),(∀v' w' CS,w'.ownsRow w.heap.size 31 7 v' (1+NC) CS→ExCs w lo CS (q.whr::q.cols)→Below w.heap.size w w'→w.heap.size+2≤w'.heap.size→w'.cell? ⟨w.heap.size,13,none⟩=some (.slice ap NA ac)→wpList Tryz.prog ops Q rest (a.put o.dst v') w')→wpList Tryz.prog ops Q (o::rest) a ((w.alloc (.cells QC 34)).alloc (.cells (exL q.whr wp wc).toArray 31)):=fun {ops rest o a Q} hgd s x ho hs hx hK=>by
  have h13V:((w.alloc (.cells QC 34)).alloc (.cells (exL q.whr wp wc).toArray 31)).cell? ⟨w.heap.size,13,none⟩=some (.slice ap NA ac):=by
   rw[World.cell?_alloc_past _ _ _ (by simp),World.cell?_alloc_at _ _ _ _ rfl];exact h13
  rcases hCols with ⟨rfl,rfl,rfl⟩|⟨ad,news,rfl,n1,n2,n3,n4⟩
  ·have hc0:q.cols=[]:=List.length_eq_zero_iff.1 HNC.out
   refine wpList_append_own_none hgd s x 29 ho w.heap.size 31 i0 7 Tryz.underlying29 hi _ 1 _ hs own1 hx (hK _ _ _ own1 (by rw[hc0];exact hC1) bV (by simp) h13V)
  ·have hln:news.length=NC*7:=by rw[n1.1,HNC.out]
   refine wpList_append_own _ hgd s x 29 ho w.heap.size 31 i0 _ 7 96 Tryz.underlying29 hi hz0 hz1 hzz rfl (by decide) _ 1 _ hs own1 ad NC cc news hx hln (fun j u hu=>by
    have h1:=n2 j u hu
    have h2:=n4 j u hu
    rw[bV.cell (p:=ad.add j) (by rw[zlw];exact h2)];exact h1) n3 (by unfold maxLen;omega) (by omega) (by simp;omega) (fun v' w' o1 o2 _=>?_)
   refine hK v' w' _ o1 (hC1.app n1) (bV.grown o2 (by simp;omega) (fun j hj=>(own1.lt j hj).1)) (by have:=o2.size;simp at this;omega) ?_
   have hb:=o2.block w.heap.size (by simp;omega) (zrx own1)
   simp only[World.cell?,hb]
   exact h13V
 have hl13:w.heap.size<w.heap.size+2:=by omega
 have HL:Hid ((exsQ q).length=1+NC+NA):=by show _=_;rw[exsQ,List.length_cons,List.length_append,List.length_map,HNC.out,HNA.out];omega
 clear hB hW hblk hcn hNC hNA hCols own1 hC1 bV
 go_enter Tryz.func15,Tryz.ntmps15
 go_wp2_with (first|(refine hlw rfl _ rfl rfl ?_)|(at_builtin;refine hap rfl _ _ rfl rfl rfl ?_;intro v' w1 CS o1 x1 bw1 hs1 k13))
 have OW1:Aside (w1.ownsRow w.heap.size 31 7 v' (1+NC) CS):=o1
 have X1:Aside (ExCs w lo CS (q.whr::q.cols)):=x1
 have hl1w:w.heap.size<w1.heap.size:=by omega
 clear hlw hap o1 x1
 go_loopg [3,5,15] NA (fun gg s3 _ s15 wr=>∃(kk:Nat) (u:Value) (CK:List Value),kk≤NA∧NA-kk≤gg∧s15=.int .i64 (kk:Int)∧s3=u∧Aside (wr.ownsRow w.heap.size 31 7 u (1+NC+kk) CK)∧Aside (ExCs w lo CK ((q.whr::q.cols)++(q.aggs.take kk).map (·.arg)))∧Aside (Below w.heap.size w wr)∧w.heap.size≤wr.heap.size)
 case atStart=>exact⟨0,v',CS,Nat.zero_le _,by omega,rfl,rfl,(show Aside _ from OW1.out),(show Aside _ from (by simpa using X1.out:ExCs w lo CS ((q.whr::q.cols)++(q.aggs.take 0).map (·.arg)))),(show Aside _ from bw1),by omega⟩
 case round =>
  obtain⟨kk,u,CK,hkk,hgk,rfl,hu,OJ,XJ,BJ,hsz⟩:=hrel
  obtain rfl:u=_:=hu.symm
  clear OW1 X1 bw1 hs1 k13 hl1w
  by_cases hlt:kk<NA
  ·have hltz:(kk:Int)<(NA:Int):=by omega
   have h0z:(0:Int)≤(kk:Int):=by omega
   have hk2:kk<q.aggs.length:=by rw[HNA.out];exact hlt
   obtain⟨ba,oa,yp,yc,rfl,hbl,-,hrg,hx⟩:=znM HAG.out hk2
   have hrg2:=zdn hrg hbl BJ.out
   have XN:Aside (ExCs w lo (CK++exL q.aggs[kk].arg yp yc) ((q.whr::q.cols)++(q.aggs.take (kk+1)).map (·.arg))):=by
    have:=XJ.out.app (ExCs.one hx)
    rw[List.take_succ_eq_append_getElem hk2,List.map_append,←List.append_assoc]
    exact this
   clear hrg hx XJ
   generalize q.aggs[kk]=x at hrg2 XN
   obtain⟨what,⟨op,nm,vt,vn,vs,pos,l⟩,name⟩:=x
   simp only[exL,Ex.op,Ex.nm,Ex.vt,Ex.vn,Ex.vs,Ex.args,Ex.pos] at hrg2 XN
   generalize l.length=NL at hrg2 XN
   have hld:∀{ops:Array Oper} {rest:List Oper} {op':Oper} {a:Act} {Q:Exit→Act→World→Prop} (hgd:op'.guard=none) (x:Operand) (ho:op'.op=.load 87 x) (hx:a.eval x=.pointer (some ⟨ba,oa+kk*9,none⟩)),wpList Tryz.prog ops Q rest (a.put op'.dst (.agg #[.string what,.string op,.string nm,.int .i64 vt,.int .i64 vn,.string vs,.slice yp NL yc,.int .i64 pos,.string name])) wr→wpList Tryz.prog ops Q (op'::rest) a wr:=fun hgd x ho hx=>wpList_load_mid hgd 87 x ho ba (oa+kk*9) hx _ _ hrg2 Tryz.underlying87 rfl zgR
   clear hrg2
   have O2:=(OJ.out.alloc (.cells #[.string what,.string op,.string nm,.int .i64 vt,.int .i64 vn,.string vs,.slice yp NL yc,.int .i64 pos,.string name] 87)).alloc (.cells #[.string op,.string nm,.int .i64 vt,.int .i64 vn,.string vs,.slice yp NL yc,.int .i64 pos] 31)
   have bb:=((Below.refl wr.heap.size wr).alloc (Nat.le_refl _) (.cells #[.string what,.string op,.string nm,.int .i64 vt,.int .i64 vn,.string vs,.slice yp NL yc,.int .i64 pos,.string name] 87)).alloc (by simp) (.cells #[.string op,.string nm,.int .i64 vt,.int .i64 vn,.string vs,.slice yp NL yc,.int .i64 pos] 31)
   have BW:=BJ.out.trans (bb.mono BJ.out.size)
   obtain⟨uq,uc,rfl⟩:=zaa O2
   have hnews:∀j u,([.string op,.string nm,.int .i64 vt,.int .i64 vn,.string vs,.slice yp NL yc,.int .i64 pos]:List Value)[j]?=some u→((wr.alloc (.cells #[.string what,.string op,.string nm,.int .i64 vt,.int .i64 vn,.string vs,.slice yp NL yc,.int .i64 pos,.string name] 87)).alloc (.cells #[.string op,.string nm,.int .i64 vt,.int .i64 vn,.string vs,.slice yp NL yc,.int .i64 pos] 31)).cell? ((⟨wr.heap.size+1,0,none⟩:Addr).add j)=some u:=fun j u hu=>by
    rw[Go.WideShapes.add_plain,World.cell?_alloc_at _ _ _ _ (by simp)]
    simpa using hu
   go_wp2_with (first|(at_builtin;refine zad rfl _ _ 29 rfl w.heap.size 31 i0 _ 7 96 Tryz.underlying29 hi hz0 hz1 hzz rfl (by decide) _ (1+NC+kk) CK rfl O2 ⟨wr.heap.size+1,0,none⟩ 1 1 _ rfl rfl hnews (by intro u hu;simp at hu;rcases hu with rfl|rfl|rfl|rfl|rfl|rfl|rfl<;>rfl) (by decide) (by unfold maxLen;omega) (by omega) (by simp;omega) ?_)|(refine hld rfl _ rfl rfl ?_))
   intro v2 w2 ho hgr _
   have O3:Aside (w2.ownsRow w.heap.size 31 7 v2 (1+NC+(kk+1)) (CK++[.string op,.string nm,.int .i64 vt,.int .i64 vn,.string vs,.slice yp NL yc,.int .i64 pos])):=ho
   have B3:Aside (Below w.heap.size w w2):=BW.grown hgr (by simp;omega) (fun j hj=>(O2.lt j hj).1)
   have hs2:w.heap.size≤w2.heap.size:=B3.out.size
   clear ho hgr OJ BJ O2 hld BW bb hnews
   go_wp2
   go_roundg (NA-(kk+1))
   case measure=>omega
   case rel=>exact⟨kk+1,v2,_,by omega,by omega,by go_num,rfl,O3,XN,B3,hs2⟩
  ·have hltz:¬(kk:Int)<(NA:Int):=by omega
   obtain rfl:kk=NA:=by omega
   have hall:(q.whr::q.cols)++(q.aggs.take kk).map (·.arg)=exsQ q:=by
    rw[List.take_of_length_le (by rw[HNA.out];exact Nat.le_refl _)];rfl
   have XF:=XJ.out
   rw[hall] at XF
   have OF:=OJ.out
   rw[←HL.out] at OF
   have AI:Aside (zaq wr (fun b=>lo b∨w.heap.size≤b) u (exsQ q)):=XF.is BJ.out OF
   obtain⟨uq,uc,rfl⟩:=zaa OJ.out
   have B2:=BJ.out
   clear OJ BJ XJ XF OF hall
   go_wp2
   go_ret
   exact⟨⟨uq,_,uc,rfl,AI,HL⟩,B2⟩
end
section
open Go.BigFrame
variable {en : Nat}

theorem zrn{t:Tok}(h:tokAt t.2.1.data.toList=(t.1,t.2.1.data.toList.length,0))(hk:isNum t=true):Lib.atoiAll t.2.1.data.toList=.ok (nuI t.2.1.data.toList):=by
 have hk:t.1=2:=by simpa [isNum] using hk
 rw[hk] at h
 generalize t.2.1.data.toList=l at h ⊢
 cases l with
 | nil=>simp[tokAt] at h
 | cons c l =>
  rw[tokAt] at h
  split at h
  ·simp at h
  ·split at h
   ·simp only[Prod.mk.injEq,true_and] at h
    obtain⟨h1,h2⟩:(zaU (c::l)).1=(c::l).length∧(zaU (c::l)).2=0:=by rw[h];exact⟨rfl,rfl⟩
    rw[zaU] at h1 h2
    split at h1
    ·simp at h1
    ·rename_i hz
     split at h1
     ·simp at h1
     ·rename_i hv
      have hg:goN digB (c::l)=(c::l).length:=h1
      have ha:=zcV digB (c::l)
      rw[hg,List.take_length] at ha hv
      rw[hg] at hz
      exact (ziU (by simp) ha (fun e=>hz (.inr e))).1 (by omega)
   ·split at h<;>simp at h
theorem zkd{s:List UInt8}{R:List Tok}(h:zaY s=(R,0,0)):NumT R:=fun t ht hk=>by
 obtain⟨_,_,_,hg⟩:=zhz h
 have:=(hg t ht).again [] rfl
 rw[List.append_nil] at this
 exact zrn this hk
end
def OkAq(a:Ag):Prop:=isAg a.what.data.toList=true∧((a.what.data.toList=zcb∧a.arg=ex0)∨(a.what.data.toList≠zcb∧OkN a.arg))∧nameT a.name.data.toList=true
def OkW(x:Ex):Prop:=x=ex0∨OkN x
def inN(z:Int):Prop:=0≤z∧z≤9223372036854775807
def OkQ(q:Qy):Prop:=nameT q.frm.data.toList=true∧OkW q.whr ∧
 ((q.aggs=[]∧q.group=[]∧q.size=0∧q.slide=0∧∃c:List (Ex×ByteArray),c≠[]∧q.cols=c.map (·.1)∧q.names=c.map (·.2)∧∀p∈c,OkN p.1∧nameT p.2.data.toList=true) ∨
  (q.cols=[]∧q.names=[]∧q.aggs≠[]∧(∀a∈q.aggs,OkAq a)∧(∀n∈q.group,nameT n.data.toList=true)∧q.group≠[]∧inN q.size∧inN q.slide))
theorem zsV:ckB ex0=false:=by
 have h:tgB ex0=false:=by
  rw[zpz]
  simp[ex0,Ex.small,Ex.size,Ex.sizes,Ex.deep,Ex.deeps]
 rw[ckB,ckP,h,if_neg (by decide)]
 have:(foldP fck 0 (ex0.pre 1)).1=2:=by
  have hn:nodeE (Ex.node ⟨#[]⟩ ⟨#[]⟩ 0 0 ⟨#[]⟩ 0 [])=2:=by
   rw[nodeE,show (apL (Ex.node ⟨#[]⟩ ⟨#[]⟩ 0 0 ⟨#[]⟩ 0 []).op.data.toList opsL).2=false from by decide]
   simp[nodeB]
  simp[ex0,Ex.pre,Ex.pres,foldP,fck,hn]
 rw[this]
 rfl
section
open Go.BigFrame
abbrev q0D:Array Value:=#[.string ⟨#[]⟩,.string ⟨#[]⟩,.string ⟨#[]⟩,.int .i64 0,.int .i64 0,.string ⟨#[]⟩,.slice none 0 0,.int .i64 0,.slice none 0 0,.slice none 0 0,.slice none 0 0,.int .i64 0,.int .i64 0,.slice none 0 0]
theorem zeL:(Tryz.prog.info? 34).map (·.size)=some 14:=by kernel_rfl
theorem ztC{w:World}{b:Nat}{cs:Array Value}{t:TypeId}(h:Blk w b cs t)(o n:Nat)(hn:o+n≤cs.size):w.there b o n:=fun j hj=>by
 refine⟨?_,h.frozen _⟩
 rw[h.cell,Array.getElem?_eq_getElem (by omega)]
 rfl
def putD:Array Value→Nat→List Value→Array Value
 | cs,_,[]=>cs
 | cs,o,v::r=>putD (cs.setIfInBounds o v) (o+1) r
theorem zeZ{b:Nat}{t:TypeId}:∀(vs:List Value) (o:Nat) (w:World) (cs:Array Value),Blk w b cs t→Blk (w.setCells b o vs) b (putD cs o vs) t
 | [],_,_,_,h=>h
 | v::r,o,_,_,h=>zeZ r (o+1) _ _ (h.set o v)
theorem ztv{a0 a1 a2 a3 a4 a5 a6 a7 a8 a9 a10 a11 a12 a13:Value}(v0 v1 v2 v3 v4 v5 v6 v7 v8 v9 v10 v11 v12 v13:Value):putD #[a0,a1,a2,a3,a4,a5,a6,a7,a8,a9,a10,a11,a12,a13] 0 [v0,v1,v2,v3,v4,v5,v6,v7,v8,v9,v10,v11,v12,v13]=#[v0,v1,v2,v3,v4,v5,v6,v7,v8,v9,v10,v11,v12,v13]:=by
 simp only[putD,List.setIfInBounds_toArray,List.set_cons_zero,List.set_cons_succ,Nat.zero_add,Nat.reduceAdd]
theorem zaL{B b:Nat}{a:World}(hb:B≤b):∀(vs:List Value) (o:Nat) (w:World),Below B a w→Below B a (w.setCells b o vs)
 | [],_,_,h=>h
 | v::r,o,w,h=>zaL hb r (o+1) _ (h.setCell (p:=⟨b,o,none⟩) hb v)
theorem zbG{b:Nat}:∀(vs:List Value) (o:Nat) (w:World) (c:Nat),c≠b→(w.setCells b o vs).heap[c]?=w.heap[c]?
 | [],_,_,_,_=>rfl
 | v::r,o,w,c,h=>by
  show ((w.setCell ⟨b,o,none⟩ v).setCells b (o+1) r).heap[c]?=_
  rw[zbG r (o+1) _ c h]
  exact heap_setCell_other w _ c v h
theorem zmm(a:Act)(w W:World)(QC:Array Value)(E:Int)(P:Nat)(q:Qy)(hsz:QC.size=14)(h2:a.tmps[2]?=some (.pointer (some ⟨w.heap.size,0,none⟩)))(h3:a.tmps[3]?=some (.pointer (some ⟨w.heap.size+1,0,none⟩)))(hd:a.defers=[])
  (hq:QyIn W (fun _=>True) (.agg QC) q)(X:Blk W w.heap.size QC 34)(Y:Blk W (w.heap.size+1) #[.int .i64 E,.int .i64 (P:Nat)] 37)(B:Below w.heap.size w W) :
  bodyPost Tryz.prog Tryz.f4 (fun e w'=>(∃v,e=.returned (.tuple #[v,.agg #[.int .i64 E,.int .i64 (P:Nat)]])∧QyIn w' (fun _=>True) v q)∧Below w.heap.size w w') .ret a W:=by
 have hl:=run_loadVar_mid (P:=Tryz.prog) W w.heap.size 0 34 QC.toList _ (fun j v hv=>by rw[X.cell,Nat.zero_add];simpa using hv) Tryz.underlying34 rfl (by rw[zeL,Array.length_toList,hsz])
 have hl2:=run_loadVar_mid (P:=Tryz.prog) W (w.heap.size+1) 0 37 [.int .i64 E,.int .i64 (P:Nat)] _ (fun j v hv=>by rw[Y.cell,Nat.zero_add];simpa using hv) Tryz.underlying37 rfl (by kernel_rfl)
 refine bodyPost_ret (v:=.tuple #[.agg QC,.agg #[.int .i64 E,.int .i64 (P:Nat)]]) ?_ ?_ ⟨⟨_,rfl,hq⟩,B⟩
 ·rw[Array.toArray_toList] at hl
  simp[results,Tryz.results4,h2,h3,hl,hl2,asAddr,Sem.run_bind,Sem.run_pure]
 ·exact hd
theorem st14{V:World}{b:Nat}{CS QC:Array Value}(X:Blk V b CS 34)(hcs:CS.size=14)(hq:QC.size=14)(h1:QC.all (·.oneCell')=true)(W9:World)(h9:V.setCells b 0 QC.toList=W9){ops:Array Oper}{rest:List Oper}{op:Oper}{a:Act}{Q:Exit→Act→World→Prop}(hgd:op.guard=none)(p y:Operand)(ho:op.op=.store 34 p y)(hx:a.eval p=.pointer (some ⟨b,0,none⟩))(hy:a.eval y=.agg QC)(h:wpList Tryz.prog ops Q rest (a.put op.dst undef) W9):wpList Tryz.prog ops Q (op::rest) a V:=by
 subst h9
 exact wpList_store_mid hgd 34 p y ho b 0 QC hx hy (ztC X 0 QC.size (by omega)) (by rw[zeL,hq]) h1 h
theorem AgsIs.keepL{w w':World}{lo:Nat→Prop}{p:Option Addr}{l:List Ag}(h:AgsIs w lo p l)(hz:w.heap.size≤w'.heap.size)(hk:∀b o:Nat,lo b→b<w.heap.size→w'.cell? ⟨b,o,none⟩=w.cell? ⟨b,o,none⟩):AgsIs w' lo p l:=by
 obtain⟨h1,h2⟩:=h
 refine⟨h1,?_⟩
 rcases h2 with h2|⟨b,off,e,hl,hlo,h3⟩
 ·exact .inl h2
 ·refine .inr ⟨b,off,e,by omega,hlo,fun j hj=>?_⟩
  obtain⟨ap,ac,c0,c1,c2,c3,c4,c5,c6,c7,c8,hx⟩:=h3 j hj
  have k:∀o,w'.cell? ⟨b,o,none⟩=w.cell? ⟨b,o,none⟩:=fun o=>hk b o hlo hl
  exact⟨ap,ac,by rw[k];exact c0,by rw[k];exact c1,by rw[k];exact c2,by rw[k];exact c3,by rw[k];exact c4,by rw[k];exact c5,by rw[k];exact c6,by rw[k];exact c7,by rw[k];exact c8,ExIn.keep hz hk _ _ hx⟩
theorem AgsIs.lowT{w:World}{lo:Nat→Prop}{p:Option Addr}{l:List Ag}(h:AgsIs w lo p l):AgsIs w (fun _=>True) p l:=by
 obtain⟨h1,h2⟩:=h
 refine⟨h1,?_⟩
 rcases h2 with h2|⟨b,off,e,hl,hlo,h3⟩
 ·exact .inl h2
 ·refine .inr ⟨b,off,e,hl,trivial,fun j hj=>?_⟩
  obtain⟨ap,ac,c0,c1,c2,c3,c4,c5,c6,c7,c8,hx⟩:=h3 j hj
  exact⟨ap,ac,c0,c1,c2,c3,c4,c5,c6,c7,c8,ExIn.low (fun _ _ _=>trivial) _ _ hx⟩
theorem zaq.lowT{w:World}{lo:Nat→Prop}{v:Value}{l:List Ex}(h:zaq w lo v l):zaq w (fun _=>True) v l:=by
 obtain⟨p,c,e,hc,h⟩:=h
 refine⟨p,c,e,hc,?_⟩
 rcases h with h|⟨b,off,e2,hb,hlo,hE⟩
 ·exact .inl h
 ·refine .inr ⟨b,off,e2,hb,trivial,zby _ _ _ _ _ fun j hj=>?_⟩
  obtain⟨v0,v1,v2,v3,v4,v5,v6,c0,c1,c2,c3,c4,c5,c6,hx⟩:=zcj _ _ _ _ _ hE j hj
  exact⟨v0,v1,v2,v3,v4,v5,v6,c0,c1,c2,c3,c4,c5,c6,ExIn.low (fun _ _ _=>trivial) _ _ hx⟩
theorem StsA.apart{w w':World}{b:Nat}{v:Value}{ts:List ByteArray}(h:StsA w v ts)(hn:∀s∈ts,nameT s.data.toList=true)(X:Blk w b q0D 34)(Y:Blk w (b+1) #[.int .i64 0,.int .i64 0] 37)(hz:w.heap.size≤w'.heap.size)(hk:∀c,c≠b→c≠b+1→c<w.heap.size→w'.heap[c]?=w.heap[c]?):StsA w' v ts:=by
 obtain⟨p,c,e,h1,h2,h3⟩:=h
 refine⟨p,c,e,h1,h2,fun a ha=>?_⟩
 rcases h3 a ha with h0|⟨g,off,e2,h5,h6⟩
 ·exact .inl h0
 ·by_cases hl:ts.length=0
  ·exact .inl hl
  have h7:=h6 0 (by omega)
  have hne:ts[0].data.toList≠[]:=fun e=>by
   have:=hn ts[0] (List.getElem_mem _)
   rw[e] at this
   exact absurd this (by decide)
  have g1:g≠b:=fun e=>by
   subst e
   rw[X.cell] at h7
   have key:∀(i:Nat) (s:ByteArray),q0D[i]?=some (.string s)→s.data.toList=[]:=fun i s hs=>by
    have hi:i<14:=by
     have:=(Array.getElem?_eq_some_iff.1 hs).1
     exact this
    have hi':i=0∨i=1∨i=2∨i=3∨i=4∨i=5∨i=6∨i=7∨i=8∨i=9∨i=10∨i=11∨i=12∨i=13:=by omega
    rcases hi' with rfl|rfl|rfl|rfl|rfl|rfl|rfl|rfl|rfl|rfl|rfl|rfl|rfl|rfl
    all_goals
     simp at hs
     try (rw[←hs])
   exact hne (key _ _ h7)
  have g2:g≠b+1:=fun e=>by
   subst e
   rw[Y.cell] at h7
   have hi:off+0<2:=(Array.getElem?_eq_some_iff.1 h7).1
   have hi':off=0∨off=1:=by omega
   rcases hi' with rfl|rfl<;>simp at h7
  refine .inr ⟨g,off,e2,by omega,fun j hj=>?_⟩
  have:=hk g g1 g2 h5
  simp only[World.cell?,this]
  exact h6 j hj
theorem QyBe.boxed{w w':World}{b B:Nat}{q:Qy}{wp:Option Addr}{wc:Nat}{cp:Option Addr}{cc:Nat}{np:Option Addr}{nc:Nat}{gp:Option Addr}{gc:Nat}{ap:Option Addr}{ac:Nat}(h:QyBe w (B≤·) q wp wc cp cc np nc gp gc ap ac)(hB:b+1<B)(hq:OkQ q)(X:Blk w b q0D 34)(Y:Blk w (b+1) #[.int .i64 0,.int .i64 0] 37)(hz:w.heap.size≤w'.heap.size)(hk:∀c,c≠b→c≠b+1→c<w.heap.size→w'.heap[c]?=w.heap[c]?):QyBe w' (fun _=>True) q wp wc cp cc np nc gp gc ap ac:=by
 have hc:∀c o:Nat,B≤c→c<w.heap.size→w'.cell? ⟨c,o,none⟩=w.cell? ⟨c,o,none⟩:=fun c o h1 h2=>by
  have:=hk c (by omega) (by omega) h2
  simp only[World.cell?,this]
 have hn:(∀s∈q.names,nameT s.data.toList=true)∧(∀s∈q.group,nameT s.data.toList=true):=by
  rcases hq.2.2 with ⟨_,h2,_,_,c,_,_,h7,h8⟩|⟨_,h2,_,_,h5,_⟩
  ·rw[h7,h2]
   refine⟨fun s hs=>?_,fun s hs=>absurd hs (by simp)⟩
   obtain⟨p,hp,rfl⟩:=List.mem_map.1 hs
   exact (h8 p hp).2
  ·rw[h2]
   exact⟨fun s hs=>absurd hs (by simp),h5⟩
 exact⟨ExIn.low (fun _ _ _=>trivial) _ _ (ExIn.keep hz hc _ _ h.whr),(h.cols.keep hz hc).lowT,h.clen,h.names.apart hn.1 X Y hz hk,h.group.apart hn.2 X Y hz hk,(h.aggs.keepL hz hc).lowT⟩
end
section
open Go.BigFrame
variable {en : Nat} {WZ : World}

theorem one14(q:Qy)(wp:Option Addr)(wc:Nat)(cp:Option Addr)(cc:Nat)(np:Option Addr)(nc:Nat)(gp:Option Addr)(gc:Nat)(ap:Option Addr)(ac:Nat):(qyC q wp wc cp cc np nc gp gc ap ac).all (·.oneCell')=true:=by simp[Value.oneCell']
theorem hw14(q:Qy)(wp:Option Addr)(wc:Nat)(cp:Option Addr)(cc:Nat)(np:Option Addr)(nc:Nat)(gp:Option Addr)(gc:Nat)(ap:Option Addr)(ac:Nat):∀(j:Nat) (v:Value),(exL q.whr wp wc)[j]?=some v→(qyC q wp wc cp cc np nc gp gc ap ac)[1+j]?=some v:=fun j v hv=>by
 have hj:j<7:=by have:=(List.getElem?_eq_some_iff.1 hv).1;simpa using this
 have:j=0∨j=1∨j=2∨j=3∨j=4∨j=5∨j=6:=by omega
 rcases this with rfl|rfl|rfl|rfl|rfl|rfl|rfl
 all_goals (simp at hv;subst hv;rfl)
theorem blk14{V W9:World}{b:Nat}{v0 v1 v2 v3 v4 v5 v6 v7 v8 v9 v10 v11 v12 v13:Value}(X:Blk V b q0D 34)(h9:V.setCells b 0 [v0,v1,v2,v3,v4,v5,v6,v7,v8,v9,v10,v11,v12,v13]=W9):Blk W9 b #[v0,v1,v2,v3,v4,v5,v6,v7,v8,v9,v10,v11,v12,v13] 34:=by
 subst h9
 have:=zeZ [v0,v1,v2,v3,v4,v5,v6,v7,v8,v9,v10,v11,v12,v13] 0 V _ X
 rwa [show putD q0D 0 [v0,v1,v2,v3,v4,v5,v6,v7,v8,v9,v10,v11,v12,v13]=_ from ztv _ _ _ _ _ _ _ _ _ _ _ _ _ _] at this
theorem zdG{b:Nat}:∀(vs:List Value) (o:Nat) (w:World),(w.setCells b o vs).heap.size=w.heap.size
 | [],_,_=>rfl
 | v::r,o,w=>by
  show ((w.setCell ⟨b,o,none⟩ v).setCells b (o+1) r).heap.size=_
  rw[zdG r (o+1) _]
  simp[World.setCell]
theorem zlN{w V W9:World}{v0 v1 v2 v3 v4 v5 v6 v7 v8 v9 v10 v11 v12 v13:Value}(X:Blk V w.heap.size q0D 34)(Y:Blk V (w.heap.size+1) #[.int .i64 0,.int .i64 0] 37)(B:Below w.heap.size w V)(h9:V.setCells w.heap.size 0 [v0,v1,v2,v3,v4,v5,v6,v7,v8,v9,v10,v11,v12,v13]=W9) :
  Blk W9 w.heap.size #[v0,v1,v2,v3,v4,v5,v6,v7,v8,v9,v10,v11,v12,v13] 34∧Blk W9 (w.heap.size+1) #[.int .i64 0,.int .i64 0] 37∧Below w.heap.size w W9∧V.heap.size=W9.heap.size∧∀c,c≠w.heap.size→W9.heap[c]?=V.heap[c]?:=by
 refine⟨blk14 X h9,?_,?_,?_,?_⟩
 ·rw[←h9];exact Y.keep (zbG _ _ _ _ (by omega))
 ·rw[←h9];exact zaL (Nat.le_refl _) _ _ _ B
 ·rw[←h9,zdG]
 ·intro c hc;rw[←h9];exact zbG _ _ _ _ hc
theorem zqG{w W9:World}{QC:Array Value}(E:Int)(P:Nat)(X:Blk W9 w.heap.size QC 34)(Y:Blk W9 (w.heap.size+1) #[.int .i64 0,.int .i64 0] 37)(B:Below w.heap.size w W9) :
  Blk ((W9.setCell ⟨w.heap.size+1,0,none⟩ (.int .i64 E)).setCell ⟨w.heap.size+1,1,none⟩ (.int .i64 (P:Nat))) w.heap.size QC 34∧Blk ((W9.setCell ⟨w.heap.size+1,0,none⟩ (.int .i64 E)).setCell ⟨w.heap.size+1,1,none⟩ (.int .i64 (P:Nat))) (w.heap.size+1) #[.int .i64 E,.int .i64 (P:Nat)] 37∧Below w.heap.size w ((W9.setCell ⟨w.heap.size+1,0,none⟩ (.int .i64 E)).setCell ⟨w.heap.size+1,1,none⟩ (.int .i64 (P:Nat))) :=
 ⟨(X.far (by omega) 0 _).far (by omega) 1 _,(Y.set 0 _).set 1 _,(B.setCell (p:=⟨w.heap.size+1,0,none⟩) (by simp) _).setCell (p:=⟨w.heap.size+1,1,none⟩) (by simp) _⟩
end
section
open Go.BigFrame
set_option maxRecDepth 20000 in
theorem zkp(s:ByteArray)(w:World)(henv:TEnv w)(haenv:AEnv w)(hw:SG w)(R rs1:List Tok)(hL:zaY s.data.toList=(R,0,0))(hs:s.size≤maxLen)(q:Qy)(hj:jU zdV R=(some (),rs1))(hb:nextB agB rs1=true)(hqT:qTwoU rs1=(some q,[]))(hok:OkQ q)(hany:(exsQ q).any ckB=false)(hsm:∀x∈exsQ q,(x.pre 1).length≤1048576)(hne:(exsQ q).length≤2000) :
  Calls Tryz.prog 4 #[.string s] w fun e w'=>(∃v,e=.returned (.tuple #[v,.agg #[.int .i64 0,.int .i64 ((0:Nat):Int)]])∧QyIn w' (fun _=>True) v q)∧Below w.heap.size w w':=by
 have X0:Aside (Blk ((w.alloc (.cells q0D 34)).alloc (.cells #[.int .i64 0,.int .i64 0] 37)) w.heap.size q0D 34):=(zab w _ _).on (al _ _)
 have Y0:Aside (Blk ((w.alloc (.cells q0D 34)).alloc (.cells #[.int .i64 0,.int .i64 0] 37)) (w.heap.size+1) #[.int .i64 0,.int .i64 0] 37):=by
  have:=zab (w.alloc (.cells q0D 34)) #[.int .i64 0,.int .i64 0] 37
  rwa [show (w.alloc (.cells q0D 34)).heap.size=w.heap.size+1 by simp] at this
 have b0:Below w.heap.size w ((w.alloc (.cells q0D 34)).alloc (.cells #[.int .i64 0,.int .i64 0] 37)):=(al w _).alloc (by simp) _
 have cN:=zep s _ (henv.on b0) (hw.on b0) R hL hs
 have HE:Aside (TEnv w∧AEnv w):=⟨henv,haenv⟩
 obtain⟨hlen,hfit⟩:=zim hL
 have HF:Aside (Fit R∧NumT R∧R.length≤400):=⟨hfit,zkd hL,hlen⟩
 have HJ:=(show Aside _ from And.intro hj (And.intro hb (And.intro hqT (And.intro hok (And.intro hany (And.intro hsm hne))))))
 have hG:=henv.big
 clear henv hw haenv hlen hfit hL hj hb hqT hok hany hsm hne
 go_enter Tryz.func4,Tryz.ntmps4
 go_wp2_with fail
 refine cN.mono ?_
 rintro e w1 ⟨⟨r,rfl,hr,hrd⟩,b1⟩
 have X1:Aside (Blk w1 w.heap.size q0D 34):=X0.out.on b1
 have Y1:Aside (Blk w1 (w.heap.size+1) #[.int .i64 0,.int .i64 0] 37):=Y0.out.on b1
 have B1:Aside (Below w.heap.size w w1):=b0.trans (b1.mono b0.size)
 have hz:w.heap.size+2≤w1.heap.size:=by have:=Y1.out.lt;omega
 have hr2:w.heap.size+2≤r:=by simpa using hr
 have hrl:=hrd.lt
 clear cN b1 X0 Y0 b0 hr
 have bW:Below w1.heap.size w1 ((w1.alloc (.cells #[.int .i64 0,.int .i64 0] 37)).alloc (.cells (qb0 r) 55)):=(al w1 _).alloc (by simp) _
 have box:Blk ((w1.alloc (.cells #[.int .i64 0,.int .i64 0] 37)).alloc (.cells (qb0 r) 55)) (w1.heap.size+1) (qb0 r) 55:=by
  have:=zab (w1.alloc (.cells #[.int .i64 0,.int .i64 0] 37)) (qb0 r) 55
  rwa [show (w1.alloc (.cells #[.int .i64 0,.int .i64 0] 37)).heap.size=w1.heap.size+1 by simp] at this
 have bw2:=B1.out.trans (bW.mono B1.out.size)
 have hQH:QH w1 s.size ((w1.alloc (.cells #[.int .i64 0,.int .i64 0] 37)).alloc (.cells (qb0 r) 55)) r (w1.heap.size+1) R:=⟨hrd.on bW,box.cell 0,box.lt,by omega,HE.out.1.on bw2,HE.out.2.onB bw2 hG bw2.size,by omega,HF.out.1,HF.out.2.1,bW.mono (by omega)⟩
 have cQ:=zmq (WZ:=w1) (en:=s.size) _ r (w1.heap.size+1) R rs1 ⟨hQH,box,trivial⟩ HF.out.2.2 HJ.out.1 HJ.out.2.1
 rw[HJ.out.2.2.1] at cQ
 clear hQH bW box bw2 hrd
 go_wp2_with fail
 refine cQ.mono ?_
 rintro e w3 ⟨RB,rfl,Q3,HQ⟩
 clear cQ
 have O3:Below r w1 w3:=Q3.out.old
 have X3:Aside (Blk w3 w.heap.size q0D 34):=X1.out.keep (O3.block _ (by omega))
 have Y3:Aside (Blk w3 (w.heap.size+1) #[.int .i64 0,.int .i64 0] 37):=Y1.out.keep (O3.block _ (by omega))
 have B3:Aside (Below w.heap.size w w3):=B1.out.trans (O3.mono (by omega))
 have p3:=Q3.out.p0
 have l3:=Q3.out.lt
 clear O3 X1 Y1 B1
 obtain⟨rfl,q',hq',hfin⟩:=HQ.out.resolve_left fun h=>by have:=h.2;simp at this
 obtain rfl:q=q':=Option.some.inj hq'
 clear hq'
 have hrd3:=Q3.out.rd
 have cE:=zfj w3 r hrd3
 have HOK:Aside (OkQ q):=HJ.out.2.2.2.1
 obtain⟨wp,wc,cp,cc,np,nc,gp,gc,ap,ac,hbx,hbe,hcn,hl1,hl2⟩:=hfin
 have cX:=zfm q _ wp wc cp cc np nc gp gc ap ac _ (qv_of q wp wc cp cc np nc gp gc ap ac) (hw14 q wp wc cp cc np nc gp gc ap ac) w3 hbe hcn hl1 hl2
 have cC:=fun (w4:World) (b4:Below w3.heap.size w3 w4) (p:Option Addr) (n c:Nat) (lo:Nat→Prop) (h1:zaq w4 lo (.slice p n c) (exsQ q)) (h2:(exsQ q).length=n)=>zgl lo p n c (exsQ q) w4 (Q3.out.env.on b4) h2 h1 HJ.out.2.2.2.2.2.1 (by rw[←h2];exact HJ.out.2.2.2.2.2.2)
 have HB3:Aside (Blk w3 (w1.heap.size+1) (qbC r q wp wc cp cc np nc gp gc ap ac) 55):=hbx
 have HBE:Aside (QyBe w3 (w1.heap.size+1+1≤·) q wp wc cp cc np nc gp gc ap ac):=hbe
 have hld:=fun (W:World) (bW:Below w3.heap.size w3 W) {ops:Array Oper} {rest:List Oper} {op:Oper} {a:Act} {Q:Exit→Act→World→Prop} (hgd:op.guard=none) (x:Operand) (ho:op.op=.load 34 x) (hx:a.eval x=.pointer (some ⟨w1.heap.size+1,1,none⟩)) (h:wpList Tryz.prog ops Q rest (a.put op.dst (.agg (qyC q wp wc cp cc np nc gp gc ap ac))) W)=>wpList_load_mid (P:=Tryz.prog) hgd 34 x ho (w1.heap.size+1) 1 hx (qyC q wp wc cp cc np nc gp gc ap ac).toList _ (fun j v hv=>by rw[(HB3.out.on bW).cell,Nat.add_comm];simpa using hv) Tryz.underlying34 rfl zeL h
 have hany:(exsQ q).any ckB=false:=HJ.out.2.2.2.2.1
 clear HQ hrd3 hbx hbe hcn HJ
 go_wp2_with fail
 refine cE.mono ?_
 rintro e w4 ⟨rfl,hw4⟩
 obtain rfl:w3=w4:=hw4.symm
 clear cE hw4
 go_wp2_with (refine hld w3 (Below.refl _ _) rfl _ rfl rfl ?_)
 refine cX.mono ?_
 rintro e w4 ⟨⟨ep,en,ec,rfl,AE,HE2⟩,b4⟩
 have cC2:=cC w4 b4 ep en ec _ AE.out HE2.out
 clear cX cC
 go_wp2_with fail
 refine cC2.mono ?_
 rintro e w5 ⟨rfl,b5⟩
 have b35:Below w3.heap.size w3 w5:=b4.trans (b5.mono b4.size)
 have X5:Blk w5 w.heap.size q0D 34:=X3.out.on b35
 have Y5:Blk w5 (w.heap.size+1) #[.int .i64 0,.int .i64 0] 37:=Y3.out.on b35
 have B5:Below w.heap.size w w5:=B3.out.trans (b35.mono B3.out.size)
 clear cC2 AE HE2 b4 b5 p3
 rw[hany] at *
 obtain⟨W9,h9⟩:∃W9,w5.setCells w.heap.size 0 (qyC q wp wc cp cc np nc gp gc ap ac).toList=W9:=⟨_,rfl⟩
 obtain⟨X9,Y9,B9,hs9,hk9⟩:=zlN X5 Y5 B5 h9
 have hst:=fun {ops:Array Oper} {rest:List Oper} {op:Oper} {a:Act} {Q:Exit→Act→World→Prop}=>st14 (ops:=ops) (rest:=rest) (op:=op) (a:=a) (Q:=Q) X5 rfl rfl (one14 q wp wc cp cc np nc gp gc ap ac) W9 h9
 have hbe5:=HBE.out.on b35
 have hfin:QyBe ((W9.setCell ⟨w.heap.size+1,0,none⟩ (.int .i64 0)).setCell ⟨w.heap.size+1,1,none⟩ (.int .i64 0)) (fun _=>True) q wp wc cp cc np nc gp gc ap ac:=hbe5.boxed (b:=w.heap.size) (by omega) HOK.out X5 Y5 (by simp[World.setCell];omega) (fun c h1 h2 h3=>by
  rw[heap_setCell_other _ _ _ _ h2,heap_setCell_other _ _ _ _ h2];exact hk9 c h1)
 have HFI:=(show Aside _ from hfin)
 have hld5:=fun {ops:Array Oper} {rest:List Oper} {op:Oper} {a:Act} {Q:Exit→Act→World→Prop}=>hld w5 b35 (ops:=ops) (rest:=rest) (op:=op) (a:=a) (Q:=Q)
 clear h9 HBE HB3 hbe5 hfin hs9 hk9 hld
 have c0:W9.cell? ⟨w.heap.size+1,0,none⟩=some (.int .i64 0):=Y9.cell 0
 have c1:W9.cell? ⟨w.heap.size+1,1,none⟩=some (.int .i64 0):=Y9.cell 1
 have f0:=Y9.frozen 0
 have f1:=Y9.frozen 1
 have l9:=Y9.lt
 go_wp2_with (first|(refine hld5 rfl _ rfl rfl ?_)|(refine hst rfl _ _ rfl rfl rfl ?_))
 obtain⟨X8,Y8,B8⟩:=zqG 0 0 X9 Y9 B9
 exact zmm _ w _ _ 0 0 q rfl rfl rfl rfl ⟨wp,wc,cp,cc,np,nc,gp,gc,ap,ac,rfl,HFI.out⟩ X8 Y8 B8
end
def bcL:List (ByteArray×Int):=[(⟨#[97,116]⟩,1),(⟨#[107]⟩,3)]
def bcS:ByteArray:=⟨#[115,101,108,101,99,116,32,99,111,117,110,116,32,97,115,32,110,32,102,114,111,109,32,116,32,103,114,111,117,112,32,98,121,32,107,32,119,105,110,100,111,119,32,49,48]⟩
def bcQ(Z Y:Int):Qy:=⟨⟨#[116]⟩,ex0,[],[],[⟨#[107]⟩],Z,Y,[⟨zed,ex0,⟨#[110]⟩⟩]⟩
theorem zsO:(zaY bcS.data.toList).2=(0,0):=by kernel_rfl
def bcTk:List Tok:=(jU zdV (zaY bcS.data.toList).1).2
theorem zpW:jU zdV (zaY bcS.data.toList).1=(some (),bcTk):=by kernel_rfl
theorem zpY:nextB agB bcTk=true:=by kernel_rfl
theorem zpZ:qTwoU bcTk=(some (bcQ 10 10),[]):=by kernel_rfl
theorem bc_ok:OkQ (bcQ 10 10):=⟨by decide,.inl rfl,.inr ⟨rfl,rfl,by simp[bcQ],fun a ha=>by
 rw[bcQ,List.mem_singleton] at ha
 subst ha
 exact⟨by decide,.inl ⟨by decide,rfl⟩,by decide⟩,fun n hn=>by
 rw[bcQ,List.mem_singleton] at hn
 subst hn
 decide,by simp[bcQ],by unfold inN;decide,by unfold inN;decide⟩⟩
theorem zpV(Z Y:Int):exsQ (bcQ Z Y)=[ex0,ex0]:=rfl
theorem zsN:(exsQ (bcQ 10 10)).any ckB=false:=by
 have h1:=zsV
 simp[exsQ,bcQ,h1]
theorem bc_cl(Z Y:Int):clQ bcL (bcQ Z Y) 0 [] (zaT (bcQ Z Y))=([(⟨#[107]⟩,3),(⟨#[110]⟩,1)],0):=rfl
theorem znQ{Z Y:Int}(hw:wdB Z Y):chQ bcL (bcQ Z Y)=([(⟨#[107]⟩,3),(⟨#[110]⟩,1)],0):=by
 have hz:Z≠0:=by have:=hw.1;omega
 have ht:togQ (bcQ Z Y)=true:=by
  rw[togQ,if_pos (show (bcQ Z Y).size≠0 from hz)];rfl
 have hf:formQ (bcQ Z Y)=0:=by
  rw[formQ,if_neg (by rw[ht];simp),if_neg (fun h=>h.2 hw)]
  rfl
 have h0:schE bcL=0:=by decide
 have h1:whQ bcL (bcQ Z Y).whr=0:=rfl
 rw[chQ,if_neg (by rw[h0];simp),if_neg (by rw[hf];simp),if_neg (by rw[h1];simp),bc_cl,if_neg (by simp),if_neg (by decide)]
theorem zsQ(Z Y:Int):TyL (fun _=>False) (bcQ Z Y):=⟨.inl rfl,fun x hx=>by simp[bcQ] at hx,fun a ha=>.inl (by rw[bcQ,List.mem_singleton] at ha;subst ha;decide)⟩
def bcRow(r:Int×ByteArray):List V3:=[(1,r.1,⟨#[]⟩),(3,0,r.2)]
theorem zdD{r:Int×ByteArray}(h1:inB r.1)(h2:chk 3 0 r.2.data.toList=0):zbt (bcRow r):=fun v hv=>by
 simp only[bcRow,List.mem_cons,List.not_mem_nil,or_false] at hv
 rcases hv with rfl|rfl
 ·exact⟨Nat.zero_le _,h1⟩
 ·have:=(zcD h2).1
  refine⟨?_,by show inB 0;unfold inB;decide⟩
  show r.2.size≤maxLen
  have e:r.2.data.toList.length=r.2.size:=Array.length_toList
  unfold maxLen
  omega
def bcC(r:Int×ByteArray):Array Value:=#[.int .i64 1,.int .i64 r.1,.string ⟨#[]⟩,.int .i64 3,.int .i64 0,.string r.2]
theorem zqc{W:World}{g:Nat}{r:Int×ByteArray}(h:Blk W g (bcC r) 28):zaf W (some ⟨g,0,none⟩) (bcRow r):=by
 refine .inr ⟨g,0,rfl,h.lt,fun j hj=>?_⟩
 have:j=0∨j=1:=by rw[bcRow] at hj;simp at hj;omega
 rcases this with rfl|rfl
 ·exact⟨by rw[h.cell];rfl,by rw[h.cell];rfl,by rw[h.cell];rfl⟩
 ·exact⟨by rw[h.cell];rfl,by rw[h.cell];rfl,by rw[h.cell];rfl⟩
structure BcRw(W:World)(B:Nat)(u:Value)(rs:List (Int×ByteArray)):Prop where
 own:∃cs,W.ownsRow B 42 1 u rs.length cs∧∀j (h:j<rs.length),∃g c,cs[j]?=some (.slice (some ⟨g,0,none⟩) 2 c)∧Blk W g (bcC rs[j]) 28
theorem BcRw.nil(W:World)(B:Nat):BcRw W B (.slice none 0 0) []:=⟨[],World.ownsRow_nil _ _ _ _,fun j h=>absurd h (by simp)⟩
theorem BcRw.on{W W':World}{B:Nat}{u:Value}{rs:List (Int×ByteArray)}(h:BcRw W B u rs)(hb:Below W.heap.size W W'):BcRw W' B u rs:=by
 obtain⟨cs,h1,h2⟩:=h.own
 exact⟨cs,zac h1 hb,fun j hj=>by
  obtain⟨g,c,a1,a2⟩:=h2 j hj
  exact⟨g,c,a1,a2.on hb⟩⟩
theorem BcRw.form{W:World}{B:Nat}{u:Value}{rs:List (Int×ByteArray)}(h:BcRw W B u rs):∃q c,u=.slice q rs.length c:=by
 obtain⟨cs,h1,-⟩:=h.own
 exact zaa h1
theorem BcRw.push{W W2:World}{B c' cg:Nat}{u:Value}{q':Option Addr}{rs:List (Int×ByteArray)}{r:Int×ByteArray}{cs:List Value}{g:Nat}(h1:W.ownsRow B 42 1 u rs.length cs)(h2:∀j (h:j<rs.length),∃g c,cs[j]?=some (.slice (some ⟨g,0,none⟩) 2 c)∧Blk W g (bcC rs[j]) 28)(hg:W.grownBy W2 u.ownBlock)(hr:Blk W g (bcC r) 28)(ho:W2.ownsRow B 42 1 (.slice q' (rs.length+1) c') (rs.length+1) (cs++[.slice (some ⟨g,0,none⟩) 2 cg])):BcRw W2 B (.slice q' (rs.length+1) c') (rs++[r]):=by
 have hcl:cs.length=rs.length:=by have:=h1.1;omega
 have keep:∀{k:Nat} {C:Array Value},Blk W k C 28→Blk W2 k C 28:=fun {k C} hk=>hk.keep (hg.block k hk.lt fun e=>by
  rcases h1.2 with ⟨e1,-⟩|⟨g,cap,cur,e1,-,hgg,-⟩
  ·rw[e1] at e;simp[Value.ownBlock] at e
  ·rw[e1] at e
   have:g=k:=by simpa [Value.ownBlock] using e.symm
   subst this
   exact zfa hk (show Blk W g cur _ from hgg) (by decide) rfl)
 refine⟨cs++[.slice (some ⟨g,0,none⟩) 2 cg],by rw[List.length_append];exact ho,fun j hj=>?_⟩
 by_cases hjn:j<rs.length
 ·obtain⟨k,c,u1,u2⟩:=h2 j hjn
  refine⟨k,c,by rw[List.getElem?_append_left (by omega)];exact u1,?_⟩
  rw[List.getElem_append_left hjn]
  exact keep u2
 ·have hj':j=rs.length:=by simp at hj;omega
  subst hj'
  refine⟨g,cg,by rw[List.getElem?_append_right (by omega),hcl];simp,?_⟩
  rw[List.getElem_append_right (Nat.le_refl _)]
  simpa using keep hr
theorem BcRw.v{W:World}{B:Nat}{u:Value}{rs:List (Int×ByteArray)}(h:BcRw W B u rs)(hs:∀r∈rs,inB r.1∧chk 3 0 r.2.data.toList=0)(hl:rs.length≤maxLen):RowsV W u (rs.map bcRow):=by
 obtain⟨cs,h1,h2⟩:=h.own
 obtain⟨q,c,rfl⟩:=h.form
 refine⟨q,c,by rw[List.length_map],by rw[List.length_map];exact hl,?_,fun r hr=>?_⟩
 ·by_cases h0:rs.length=0
  ·exact .inl (by rw[List.length_map];exact h0)
  ·rcases h1.2 with ⟨e1,hn⟩|⟨g,cap,cur,e1,hB,hg,hm,hx,hs,ht⟩
   ·omega
   ·injection e1 with e1 e2 e3
    subst e1
    refine .inr ⟨g,0,rfl,(Array.getElem?_eq_some_iff.1 hg).1,fun j hj=>?_⟩
    have hj2:j<rs.length:=by rw[List.length_map] at hj;exact hj
    obtain⟨k,c',a0,a1⟩:=h2 j hj2
    have h3:=h1.cells (g:=g) rfl _ _ a0
    rw[Go.WideShapes.add_plain] at h3
    rw[List.getElem_map]
    exact⟨_,c',(show W.cell? ⟨g,0+j,none⟩=some (.slice (some ⟨k,0,none⟩) 2 c') by simpa using h3),zqc a1,.inr fun g o e=>by injection e with e;injection e with e _;subst e;exact a1.lt⟩
 ·obtain⟨p,hp,rfl⟩:=List.mem_map.1 hr
  obtain⟨e1,e2⟩:=hs p hp
  exact⟨zdD e1 e2,by show 2≤maxLen;decide⟩
end Go.Proofs.YtbdnccnfidjiaaaGreatDoor
