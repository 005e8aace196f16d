/-
  TreeQs, TreeNw, EvV, TxOpen.
-/
import Derived.Test.YtbdnccnfidjiaaaGreatDoorGyAk
import Derived.Test.YtbdnccnfidjiaaaGreatDoorYLex5
import Derived.Test.YtbdnccnfidjiaaaGreatDoorGyAi
import Derived.RowKit
import Derived.Test.YtbdnccnfidjiaaaGreatDoorGyAc
import Derived.Test.YtbdnccnfidjiaaaGreatDoorGyAg
import Derived.Lib.SmallJoins
import Derived.ProofKit
import Derived.OpenShut
import Derived.Deep.SlicePairs
import Derived.Deep.Strs
namespace Go.Proofs.YtbdnccnfidjiaaaGreatDoor
open Go.RowKit
set_option linter.unusedVariables false
set_option linter.unusedSimpArgs false
set_option maxHeartbeats 8000000
--BEGIN
theorem zit{l:List Ex}(h:∀y∈l,∀d,(y.pre d).length=y.size)(d:Nat):(Ex.pres d l).length=Ex.sizes l:=by
 induction l with
 | nil=>rw[Ex.pres,Ex.sizes];rfl
 | cons x xs ih =>
  rw[Ex.pres,Ex.sizes,List.length_append,h x List.mem_cons_self,ih (fun y hy=>h y (List.mem_cons_of_mem _ hy))]
theorem znq:∀(x:Ex) (d:Nat),(x.pre d).length=x.size:=by
 refine Ex.ind fun op nm vt vn vs pos args ih d=>?_
 rw[Ex.pre,Ex.size,List.length_cons,zit ih];omega
section
open Go.BigFrame
variable {en : Nat}

theorem zim{s:List UInt8}{R:List Tok}{E:Int}{P:Nat}(h:zaY s=(R,E,P)):R.length≤400∧Fit R:=by
 by_cases he:E=0
 ·subst he
  obtain⟨h1,_,h3,_⟩:=zhz h
  obtain⟨h4,h5⟩:=zdR s R 0 (Nat.zero_le _) h3
  exact⟨by omega,fun t ht=>by have:=(h5 t ht).1;omega⟩
 ·obtain⟨rfl,_⟩:=zkc h he
  exact⟨by simp,fun t ht=>absurd ht (by simp)⟩
structure Bx2(w:World)(b:Nat)(a0 a1:Value):Prop where
 c0:w.cell? ⟨b,0,none⟩=some a0
 c1:w.cell? ⟨b,1,none⟩=some a1
 fz:∀o,w.frozen? ⟨b,o,none⟩=false
 lt:b<w.heap.size
theorem Bx2.on{w w':World}{b:Nat}{a0 a1:Value}(h:Bx2 w b a0 a1)(hb:Below w.heap.size w w'):Bx2 w' b a0 a1:=by
 obtain⟨c0,c1,fz,lt⟩:=h
 exact⟨by rw[hb.cell (p:=⟨b,0,none⟩) lt];exact c0,by rw[hb.cell (p:=⟨b,1,none⟩) lt];exact c1,fun o=>by rw[hb.frozen (p:=⟨b,o,none⟩) lt];exact fz o,by have:=hb.size;omega⟩
theorem zeG{w:World}{a:Addr}{v:Value}(h:w.cell? a=some v)(b:Addr):(w.setCell a v).cell? b=w.cell? b:=by
 by_cases e:a=b
 ·subst e
  rw[World.cell?_setCell_same _ _ _ h,h]
 ·exact World.cell?_setCell_other _ _ _ _ e
set_option maxRecDepth 20000 in
theorem zep(s:ByteArray)(w:World)(henv:TEnv w)(hw:SG w)(R:List Tok)(hL:zaY s.data.toList=(R,0,0))(hs:s.size≤maxLen) :
  Calls Tryz.prog 7 #[.string s] w fun e w'=>(∃r,e=.returned (.tuple #[.pointer (some ⟨r,0,none⟩),.agg #[.int .i64 0,.int .i64 0]])∧w.heap.size≤r∧RdAt s.size w' r R)∧Below w.heap.size w w':=by
 have HE:Aside (TEnv w):=henv
 have HW:Aside (SG w):=hw
 have hG:=henv.big
 have b1:Below w.heap.size w (w.alloc (.cells #[.int .i64 0,.int .i64 0] 37)):=al w _
 have Y0:Bx2 (w.alloc (.cells #[.int .i64 0,.int .i64 0] 37)) w.heap.size (.int .i64 0) (.int .i64 0):=⟨by rw[World.cell?_alloc_at _ _ _ _ (by simp)];rfl,by rw[World.cell?_alloc_at _ _ _ _ (by simp)];rfl,fun o=>World.frozen?_alloc_at _ _ _ _ (by simp),by simp⟩
 have cT:=zla s R 0 0 _ ((HE.out.on b1).env) (HW.out.on b1) hL
 unfold maxLen at hs
 clear henv hw
 go_enter Tryz.func7,Tryz.ntmps7
 go_wp2_with fail
 refine cT.mono ?_
 rintro e w2 ⟨⟨vl,rfl,hT,hcap⟩,b2⟩
 have Y2:=Y0.on b2
 have B2:=b1.trans (b2.mono (by simp))
 have hz2:w.heap.size+1≤w2.heap.size:=by have:=b2.size;simpa using this
 obtain⟨lp,lc,rfl,hlm,hT⟩:=hT
 have HT:Aside (R.length=0∨∃b off,lp=some ⟨b,off,none⟩∧zeV w2 b off R):=hT
 have hcap:R.length≤lc:=hcap
 clear cT Y0 b1 b2 hT
 obtain⟨y0,y1,yf,yl⟩:=Y2
 have yf0:=yf 0
 have yf1:=yf 1
 clear yf
 go_wp2
 have hset:∀a:Addr,((w2.setCell ⟨w.heap.size,0,none⟩ (.int .i64 0)).setCell ⟨w.heap.size,1,none⟩ (.int .i64 0)).cell? a=w2.cell? a:=fun a=>by
  rw[zeG (by rw[zeG y0];exact y1),zeG y0]
 have hsz:((w2.setCell ⟨w.heap.size,0,none⟩ (.int .i64 0)).setCell ⟨w.heap.size,1,none⟩ (.int .i64 0)).heap.size=w2.heap.size:=by simp[World.setCell]
 refine bodyPost_ret (v:=.tuple #[.pointer (some ⟨w2.heap.size+1,0,none⟩),.agg #[.int .i64 0,.int .i64 0]]) (by simp[results,Tryz.results7,go_sem,y0,y1,yl,Nat.lt_succ_of_lt yl]) rfl ⟨⟨_,rfl,by omega,?_⟩,?_⟩
 ·have HT:=HT.out
  generalize (w2.setCell ⟨w.heap.size,0,none⟩ (.int .i64 0)).setCell ⟨w.heap.size,1,none⟩ (.int .i64 0)=W at hset hsz ⊢
  have hsz1:(W.alloc (.cells #[.int .i64 0,.int .i64 0] 37)).heap.size=w2.heap.size+1:=by simp[hsz]
  refine⟨⟨lp,lc,?_,hcap,?_⟩,?_,by simp[hsz],?_⟩
  ·rw[World.cell?_alloc_at _ _ _ _ (by simp[hsz])];rfl
  ·rcases HT with h|⟨b,off,e,hb,hT⟩
   ·exact .inl h
   ·refine .inr ⟨b,off,e,by omega,zeV.on (zeV.on (w:=W) ⟨by rw[hsz];exact hb,fun j hj=>?_⟩ (al _ _)) (al _ _)⟩
    rw[hset,hset,hset]
    exact hT j hj
  ·exact World.frozen?_alloc_at _ _ _ _ (by simp[hsz])
  ·rw[World.cell?_alloc_at _ _ _ _ (by simp[hsz])];rfl
 ·exact (((B2.setCell (p:=⟨w.heap.size,0,none⟩) (by simp) _).setCell (p:=⟨w.heap.size,1,none⟩) (by simp) _).alloc (by rw[hsz];omega) _).alloc (by simp[hsz];omega) _
end
--BEGIN
def truP(b:Bool):V3:=(2,if b=true then 1 else 0,⟨#[]⟩)
def overP(n:Int):Int×Int:=if -9223372036854775808≤n∧n≤9223372036854775807 then (n,0) else (0,9)
def rkP(op:List UInt8)(a b:Int):Int×Int :=
 if op=[43] then overP (a+b) else if op=[45] then overP (a-b) else if op=[42] then overP (a*b) else if op=[47] then (if b=0∨(a=-9223372036854775808∧b=-1) then (0,9) else (a.tdiv b,0)) else if b=0 then (0,9) else (a.tmod b,0)
def rkV(op:List UInt8)(a b:Int):V3×Int:=if (rkP op a b).2≠0 then (noV,(rkP op a b).2) else ((1,(rkP op a b).1,⟨#[]⟩),0)
def ztg(op:List UInt8)(o:Int):Bool :=
 if op=[61] then o == 0 else if op=[60,62] then o != 0 else if op=[60] then decide (o<0) else if op=[60,61] then decide (o≤0) else if op=[62] then decide (0<o) else decide (0≤o)
def isY(v:V3):Bool:=v.2.1 == 1
def cmpV(op:List UInt8)(a b:V3):V3×Int :=
 if cmpE a.1 a.2.1 a.2.2.data.toList b.1 b.2.1 b.2.2.data.toList≠0 then (noV,cmpE a.1 a.2.1 a.2.2.data.toList b.1 b.2.1 b.2.2.data.toList)
 else (truP (ztg op (cmpN a.1 a.2.1 a.2.2.data.toList b.1 b.2.1 b.2.2.data.toList)),0)
def ops5:List (List UInt8):=[[43],[45],[42],[47],[37]]
def appP(op:List UInt8)(vs:List V3):V3×Int :=
 if op=[111,114] then (truP (isY (vs[0]?.getD noV)||isY (vs[1]?.getD noV)),0)
 else if op=[97,110,100] then (truP (isY (vs[0]?.getD noV)&&isY (vs[1]?.getD noV)),0)
 else if op=[110,111,116] then (truP (!isY (vs[0]?.getD noV)),0)
 else if ops5.contains op=true then rkV op (vs[0]?.getD noV).2.1 (vs[1]?.getD noV).2.1
 else if op=[110,101,103] then rkV [45] 0 (vs[0]?.getD noV).2.1
 else if op=[108,101,110] then ((1,((vs[0]?.getD noV).2.2.size:Int),⟨#[]⟩),0)
 else if op=[105,102] then (if isY (vs[0]?.getD noV)=true then vs[1]?.getD noV else vs[2]?.getD noV,0)
 else cmpV op (vs[0]?.getD noV) (vs[1]?.getD noV)
def vlE:List V3→Int
 | []=>0
 | r::rs=>if chk r.1 r.2.1 r.2.2.data.toList≠0 then chk r.1 r.2.1 r.2.2.data.toList else vlE rs
def doP(op:List UInt8)(vs:List V3):V3×Int :=
 if vlE vs≠0 then (noV,vlE vs) else if (ruleP op (vs.map (·.1))).2≠0 then (noV,(ruleP op (vs.map (·.1))).2) else appP op vs
def zow:List (V3×Int)→Int
 | []=>0
 | r::rs=>if r.2≠0 then r.2 else zow rs
def combP(op:List UInt8):List (V3×Int)→V3×Int
 | []=>(noV,0)
 | f::rest=>if f.2≠0 then (noV,f.2)
  else if ((decide (op=[97,110,100])&&!isY f.1)||(decide (op=[111,114])&&isY f.1))=true then (f.1,0)
  else if op=[105,102] then (if isY f.1=true then rest[0]?.getD (noV,0) else rest[1]?.getD (noV,0))
  else if zow rest≠0 then (noV,zow rest) else doP op (f.1::rest.map (·.1))
section
open Go.ChangeShapes Go.WideShapes Go.ChangeAt Go.Joins Go.Deep
def zpO(W:World)(q:Option Addr)(ks:List ByteArray):Prop:=ks.length=0∨∃b off,q=some ⟨b,off,none⟩∧b<W.heap.size∧∀j (h:j<ks.length),W.cell? ⟨b,off+j,none⟩=some (.string ks[j])
namespace txOpen
theorem zql:Tryz.prog.cellsOf 9=1:=by kernel_rfl
set_option maxRecDepth 100000 in
theorem open_texts{H:Type}{enc:TypeId×Value→H}{W:World}{base:Nat}{v:Value}{d:DataW H}{p:List MemPlace}(hv:Value.okWide Tryz.prog W .any base 23 v)(h:DataW.Trod enc Tryz.prog W 0 (fun _=>true) true 23 v d p) :
  ∃(q:Option Addr) (N c:Nat) (ks:List ByteArray),v=.slice q N c∧ks.length=N∧N≤maxLen∧zpO W q ks∧∀s∈ks,s.size≤maxLen:=by
 obtain⟨a0,len0,cap0,rfl⟩:=okWide_slice Tryz.underlying23 hv
 obtain⟨fuel,hf⟩:=h
 rcases open_strs Tryz.underlying23 Tryz.underlying9 zql hf with ⟨hcs,hx⟩|⟨a,len,cap,m,Sx,hcs,_,hl,hm,hmeq,hx,hall⟩
 ·simp[Value.cells] at hcs
  obtain⟨rfl,rfl,rfl⟩:=hcs
  exact⟨_,_,_,[],rfl,rfl,Nat.zero_le _,.inl rfl,by simp⟩
 ·simp[Value.cells] at hcs
  obtain⟨rfl,rfl,rfl⟩:=hcs
  by_cases h0:len0=0
  ·subst h0
   exact⟨_,_,_,[],rfl,rfl,Nat.zero_le _,.inl rfl,by simp⟩
  ·simp only[if_true] at hmeq
   subst hmeq
   obtain⟨sb,so,spot⟩:=a
   have hspot:spot=none:=by simpa [Addr.add] using World.cell?_spot (hall 0 (by omega)).1
   subst hspot
   refine⟨_,_,_,(List.range len0).map Sx,rfl,by simp,by omega,.inr ⟨sb,so,rfl,?_,fun j hj=>?_⟩,fun s hs=>?_⟩
   ·have:=(hall 0 (by omega)).1
    exact zbw (o:=so+0) (by simpa [add_plain] using this)
   ·have:=(hall j (by simp at hj;omega)).1
    simp only[List.getElem_map,List.getElem_range]
    simpa [add_plain] using this
   ·obtain⟨i,hi,rfl⟩:=List.mem_map.1 hs
    exact (hall i (by have:=List.mem_range.1 hi;omega)).2
end txOpen
end
end Go.Proofs.YtbdnccnfidjiaaaGreatDoor
