/-
  WdA, BlkB, BsS, KpR, InUp, AgT, FrS, BsG, KcS, FgS, FdS, FnS, GfS, KoS, WdC.
-/
import Derived.Test.YtopghagjmdbglaaGreatDoorGyAc
import Derived.OwnWalk
import Derived.Laws.AppendOwnNone
import Derived.Laws.OwnMore
import Derived.WalkSmall
import Derived.BigQuiet
import Derived.Deep.QuietTactic
import Derived.Deep.LoopGhost
import Derived.Lib.OthersKept
import Derived.Test.YtopghagjmdbglaaGreatDoorGyAk
import Derived.Test.YtopghagjmdbglaaGreatDoorGyAd
import Derived.OneCell
import Derived.Deep.MidRow
import Derived.Laws.CopyOwn
import Derived.Laws.Tables
import Derived.Shelf.Spec.SlicesInsert
import Derived.Test.YtopghagjmdbglaaGreatDoorYAgW
import Derived.Laws.Externs
import Derived.Deep.OwnRows
import Derived.Test.YtopghagjmdbglaaGreatDoorYWdP
namespace Go.Proofs.YtopghagjmdbglaaGreatDoor
open Go.RowKit
set_option linter.unusedVariables false
set_option linter.unusedSimpArgs false
set_option maxHeartbeats 8000000
theorem zhe:(Tryz.prog.info? 3).map (fun i=>(i.zero,i.size,i.bytes))=some (some (.int .i64 0),1,8):=by kernel_rfl
def intC(ts:List Int):List Value:=ts.map fun t=>.int .i64 t
def IntA(w:World)(v:Value)(ts:List Int):Prop:=∃p c,v=.slice p ts.length c∧(ts.length≤c∧ts.length≤1048576)∧(p=none→c=0)∧∀a,p=some a→∃g off,a=⟨g,off,none⟩∧g<w.heap.size∧∀j (h:j<ts.length),w.cell? ⟨g,off+j,none⟩=some (.int .i64 ts[j])
theorem IntA.on{w w':World}{v:Value}{ts:List Int}(h:IntA w v ts)(hb:Below w.heap.size w w'):IntA w' v ts:=by
 obtain⟨p,c,e,h1,h2,h3⟩:=h
 refine⟨p,c,e,h1,h2,fun a ha=>?_⟩
 obtain⟨g,off,e2,h5,h6⟩:=h3 a ha
 exact⟨g,off,e2,by have:=hb.size;omega,fun j hj=>by rw[hb.cell (p:=⟨g,off+j,none⟩) h5];exact h6 j hj⟩
theorem IntA.nil(w:World):IntA w (.slice none 0 0) []:=⟨none,0,rfl,⟨Nat.le_refl _,Nat.zero_le _⟩,fun _=>rfl,fun a h=>nomatch h⟩
theorem zjA{w:World}{B:Nat}{v:Value}{n:Nat}{ts:List Int}(hn:ts.length=n)(hl:n≤1048576)(h:w.ownsRow B 3 1 v n (intC ts)):IntA w v ts:=by
 subst hn
 rcases id h.2 with ⟨rfl,e⟩|⟨g,cap,cur,rfl,hb,hg,hm,hx,hs,ht⟩
 ·exact⟨none,0,by rw[e],⟨by omega,by omega⟩,fun _=>rfl,fun a ha=>nomatch ha⟩
 ·refine⟨some ⟨g,0,none⟩,cap,rfl,⟨by omega,hl⟩,(fun hp=>nomatch hp),fun a ha=>?_⟩
  injection ha with ha
  subst ha
  refine⟨g,0,rfl,(Array.getElem?_eq_some_iff.1 hg).1,fun j hj=>?_⟩
  have:=h.cells (g:=g) rfl j (.int .i64 ts[j]) (by rw[intC,List.getElem?_map,List.getElem?_eq_getElem hj];rfl)
  rw[Go.WideShapes.add_plain] at this
  exact this
def Blk(w:World)(b:Nat)(cs:Array Value)(t:TypeId):Prop:=w.heap[b]?=some (.cells cs t (0,0))
theorem Blk.lt{w:World}{b:Nat}{cs:Array Value}{t:TypeId}(h:Blk w b cs t):b<w.heap.size:=lt_of_block h
theorem Blk.cell{w:World}{b:Nat}{cs:Array Value}{t:TypeId}(h:Blk w b cs t)(i:Nat):w.cell? ⟨b,i,none⟩=cs[i]?:=by unfold Blk at h;simp[World.cell?,h]
theorem Blk.frozen{w:World}{b:Nat}{cs:Array Value}{t:TypeId}(h:Blk w b cs t)(i:Nat):w.frozen? ⟨b,i,none⟩=false:=frozen_of_row w b i cs t h
theorem Blk.keep{w w':World}{b:Nat}{cs:Array Value}{t:TypeId}(h:Blk w b cs t)(hk:w'.heap[b]?=w.heap[b]?):Blk w' b cs t:=by unfold Blk at *;rw[hk];exact h
theorem Blk.set{w:World}{b:Nat}{cs:Array Value}{t:TypeId}(h:Blk w b cs t)(i:Nat)(v:Value):Blk (w.setCell ⟨b,i,none⟩ v) b (cs.setIfInBounds i v) t:=heap_setCell_same w b i cs t v h
theorem Blk.far{w:World}{b z:Nat}{cs:Array Value}{t:TypeId}(h:Blk w b cs t)(hz:b≠z)(i:Nat)(v:Value):Blk (w.setCell ⟨z,i,none⟩ v) b cs t:=h.keep (heap_setCell_other w _ b v hz)
theorem Blk.but{w w':World}{r b:Nat}{cs:Array Value}{t:TypeId}(h:Blk w b cs t)(hb:But r w w')(hr:b≠r):Blk w' b cs t:=h.keep (hb.kept b h.lt hr)
theorem Blk.on{w w':World}{b:Nat}{cs:Array Value}{t:TypeId}(h:Blk w b cs t)(hb:Below w.heap.size w w'):Blk w' b cs t:=h.keep (hb.block b h.lt)
theorem Blk.grown{w w':World}{b:Nat}{cs:Array Value}{t:TypeId}{row:Option Nat}(h:Blk w b cs t)(hg:w.grownBy w' row)(hr:some b≠row):Blk w' b cs t:=h.keep (hg.block b h.lt hr)
theorem zab(w:World)(cs:Array Value)(t:TypeId):Blk (w.alloc (.cells cs t)) w.heap.size cs t:=by
 show (w.heap.push _)[_]?=_
 rw[Array.getElem?_push_size]
def KeepB(B:Nat)(w w':World):Prop:=w.heap.size≤w'.heap.size∧∀b,B≤b→b<w.heap.size→w'.heap[b]?=w.heap[b]?
theorem KeepB.trans{B:Nat}{w w1 w2:World}(h:KeepB B w w1)(k:KeepB B w1 w2):KeepB B w w2:=⟨Nat.le_trans h.1 k.1,fun b h1 h2=>by rw[k.2 b h1 (by have:=h.1;omega),h.2 b h1 h2]⟩
theorem KeepB.but{B r:Nat}{w w':World}(h:But r w w')(hr:r<B):KeepB B w w':=⟨h.size,fun b h1 h2=>h.kept b h2 (by omega)⟩
theorem KeepB.set{B z:Nat}(w:World)(i:Nat)(v:Value)(hz:z<B):KeepB B w (w.setCell ⟨z,i,none⟩ v):=⟨by simp[World.setCell],fun b h1 _=>heap_setCell_other w _ b v (by show b≠z;omega)⟩
theorem zay{w w':World}{B B':Nat}{e:TypeId}{size n:Nat}{v:Value}{xs:List Value}(h:w.ownsRow B e size v n xs)(hk:KeepB B' w w')(hB:B'≤B):w'.ownsRow B e size v n xs:=by
 refine⟨h.1,?_⟩
 rcases h.2 with hn|⟨g,cap,cur,rfl,h1,hgg,rest⟩
 ·exact .inl hn
 ·exact .inr ⟨g,cap,cur,rfl,h1,by rw[hk.2 g (by omega) (Array.getElem?_eq_some_iff.1 hgg).1];exact hgg,rest⟩
structure Kp(S:Nat→Prop)(w w':World):Prop where
 low:Below 0 w w'
 kept:∀k,k<w.heap.size→¬S k→w'.heap[k]?=w.heap[k]?
theorem Kp.size{S:Nat→Prop}{w w':World}(h:Kp S w w'):w.heap.size≤w'.heap.size:=h.low.size
theorem Kp.refl(S:Nat→Prop)(w:World):Kp S w w:=⟨Below.refl _ _,fun _ _ _=>rfl⟩
theorem Kp.trans{S:Nat→Prop}{w w1 w2:World}(h:Kp S w w1)(k:Kp S w1 w2):Kp S w w2 :=
 ⟨h.low.trans k.low,fun b hb hs=>by rw[k.kept b (by have:=h.size;omega) hs,h.kept b hb hs]⟩
theorem Kp.mono{S S':Nat→Prop}{w w1:World}(h:Kp S w w1)(hs:∀k,k<w.heap.size→S k→S' k):Kp S' w w1:=⟨h.low,fun b hb hn=>h.kept b hb (fun e=>hn (hs b hb e))⟩
theorem Kp.of_below{S:Nat→Prop}{w w1:World}(h:Below w.heap.size w w1):Kp S w w1:=⟨h.mono (Nat.zero_le _),fun b hb _=>h.block b hb⟩
theorem Kp.below{S:Nat→Prop}{w w1:World}{B:Nat}(h:Kp S w w1)(hB:B≤w.heap.size)(hs:∀k,k<B→¬S k):Below B w w1 :=
 ⟨h.low.os,h.low.tape,h.low.output,h.low.size,fun k hk=>h.kept k (by omega) (hs k hk)⟩
theorem Kp.on{S:Nat→Prop}{w w1 w2:World}(h:Kp S w w1)(k:Below w1.heap.size w1 w2):Kp S w w2:=h.trans (Kp.of_below k)
theorem Kp.set{S:Nat→Prop}{w w1:World}(h:Kp S w w1){b:Nat}(o:Nat)(v:Value)(hs:b<w.heap.size→S b):Kp S w (w1.setCell ⟨b,o,none⟩ v) :=
 ⟨h.low.setCell (p:=⟨b,o,none⟩) (Nat.zero_le _) v,fun k hk hn=>by rw[Below.heap_setCell _ _ _ _ (fun e=>by simp at e;subst e;exact hn (hs hk))];exact h.kept k hk hn⟩
theorem Kp.drew{S:Nat→Prop}{w w1:World}(h:Kp S w w1):Kp S w w1.drew:=⟨h.low.drew,h.kept⟩
theorem Kp.grown{S:Nat→Prop}{w w1 w2:World}{row:Option Nat}(h:Kp S w w1)(hg:w1.grownBy w2 row)(hr:∀k,row=some k→k<w.heap.size→S k):Kp S w w2 :=
 ⟨h.low.grown hg (Nat.zero_le _) (fun _ _=>Nat.zero_le _),fun k hk hn=>by rw[hg.block k (by have:=h.size;omega) (fun e=>hn (hr k e.symm hk))];exact h.kept k hk hn⟩
theorem Kp.cell{S:Nat→Prop}{w w1:World}(h:Kp S w w1){b:Nat}(o:Nat)(hb:b<w.heap.size)(hs:¬S b):w1.cell? ⟨b,o,none⟩=w.cell? ⟨b,o,none⟩:=by
 simp only[World.cell?,h.kept b hb hs]
theorem Blk.kp{S:Nat→Prop}{w w1:World}{b:Nat}{cs:Array Value}{t:TypeId}(h:Blk w b cs t)(hf:Kp S w w1)(hs:¬S b):Blk w1 b cs t:=h.keep (hf.kept b h.lt hs)
theorem Blk.there{w:World}{b:Nat}{cs:Array Value}{t:TypeId}(h:Blk w b cs t)(o n:Nat)(hn:o+n≤cs.size):w.there b o n:=fun j hj=>by
 refine⟨?_,h.frozen _⟩
 rw[h.cell,Array.getElem?_eq_getElem (by omega)]
 rfl
def putA:Array Value→Nat→List Value→Array Value
 | cs,_,[]=>cs
 | cs,o,v::r=>putA (cs.setIfInBounds o v) (o+1) r
theorem Blk.cells{b:Nat}{t:TypeId}:∀(vs:List Value) (o:Nat) (w:World) (cs:Array Value),Blk w b cs t→Blk (w.setCells b o vs) b (putA cs o vs) t
 | [],_,_,_,h=>h
 | v::r,o,_,_,h=>Blk.cells r (o+1) _ _ (h.set o v)
theorem zeO{w:World}{b o o':Nat}{v:Value}(h:o≠o'):(w.setCell ⟨b,o,none⟩ v).cell? ⟨b,o',none⟩=w.cell? ⟨b,o',none⟩:=by
 rw[World.cell?_setCell_other]
 intro e
 injection e with _ e
 exact h e
theorem zpx{w:World}{b o:Nat}{v u:Value}(h:w.cell? ⟨b,o,none⟩=some u):(w.setCell ⟨b,o,none⟩ v).cell? ⟨b,o,none⟩=some v:=by
 simp[World.cell?_setCell_same,h]
theorem Blk.drew{w:World}{b:Nat}{cs:Array Value}{t:TypeId}(h:Blk w b cs t):Blk w.drew b cs t:=h
theorem But.cells{r:Nat}{w:World}:∀(vs:List Value) (o:Nat) (w1:World),But r w w1→But r w (w1.setCells r o vs)
 | [],_,_,h=>h
 | v::vs,o,_,h=>But.cells vs (o+1) _ (h.set o v)
theorem Kp.of_but{r:Nat}{S:Nat→Prop}{w w1:World}(h:But r w w1)(hS:S r):Kp S w w1:=⟨h.below.mono (Nat.zero_le _),fun k hk hn=>h.kept k hk (fun e=>by subst e;exact hn hS)⟩
theorem zah{P:Program}{ops:Array Oper}{rest:List Oper}{op:Oper}{a:Act}{W:World}{Q:Exit→Act→World→Prop}(hgd:op.guard=none)(ty:TypeId)(x y:Operand)(ho:op.op=.store ty x y)
  (b o:Nat)(cells:Array Value)(hx:a.eval x=.pointer (some ⟨b,o,none⟩))(hy:a.eval y=.agg cells)(cs:Array Value)(T:TypeId)(hb:Blk W b cs T)(hn:o+cells.size≤cs.size)
  (hi:(P.info? ty).map (·.size)=some cells.size)(h1:cells.all (·.oneCell')=true)
  (h:∀W',Blk W' b (putA cs o cells.toList) T→But b W W'→wpList P ops Q rest (a.put op.dst undef) W'):wpList P ops Q (op::rest) a W :=
 wpList_store_mid hgd ty x y ho b o cells hx hy (hb.there o cells.size hn) hi h1 (h _ (Blk.cells _ _ _ _ hb) (But.cells _ _ _ (But.refl _ _)))
theorem zaj{P:Program}{ops:Array Oper}{rest:List Oper}{op:Oper}{a:Act}{W:World}{Q:Exit→Act→World→Prop}(hgd:op.guard=none)(ty:TypeId)(x:Operand)(ho:op.op=.load ty x)
  (b o:Nat)(hx:a.eval x=.pointer (some ⟨b,o,none⟩))(cs:Array Value)(T:TypeId)(hb:Blk W b cs T)(l:List Value)(hr:∀j v,l[j]?=some v→cs[o+j]?=some v)(d:TypeDesc)
  (hu:P.underlying ty=some d)(hd:d.isRow=true)(hi:(P.info? ty).map (·.size)=some l.length)
  (h:wpList P ops Q rest (a.put op.dst (.agg l.toArray)) W):wpList P ops Q (op::rest) a W :=
 wpList_load_mid hgd ty x ho b o hx l d (fun j v hv=>by rw[hb.cell];exact hr j v hv) hu hd hi h
section
open Go.BigFrame
set_option maxRecDepth 20000 in
theorem zno(fn:FuncId)(hent:∀(args:Array Value) (W:World),Sem.run Tryz.prog (callFunc fn args) W=.ok (.enter fn args) W)(caps:Array Value)(b off n c:Nat)(tg:Value)(ps:Nat→Value)(cs:Nat→Int)(w:World)(hn:n≤1000000)
  (hb:b<w.heap.size)(hp:∀j,j<n→w.cell? ⟨b,off+j,none⟩=some (ps j))(k:Nat)(hk:k≤n)(h1:∀j,j<k→cs j<0)(h2:∀j,k≤j→j<n→0≤cs j)
  (hc:∀j,j<n→∀W,Below w.heap.size w W→Calls Tryz.prog fn (#[ps j,tg]++caps) W fun e w'=>e=.returned (.int .i64 (cs j))∧Below W.heap.size W w') :
  Calls Tryz.prog 172 #[.slice (some ⟨b,off,none⟩) n c,tg,.func (.func fn) #[] caps] w fun e w'=>e=.returned (.tuple #[.int .i64 (k:Int),.bool (decide (k<n)&&(cs k == 0))])∧Below w.heap.size w w':=by
 have HP:=(show Aside _ from hp)
 have HC:=(show Aside _ from hc)
 have H1:=(show Aside _ from h1)
 have H2:=(show Aside _ from h2)
 have hnz:(n:Int)≤1000000:=by omega
 clear hp hc h1 h2
 go_enter Tryz.func172,Tryz.ntmps172
 go_wp2
 go_loopg [9,10,11] n (fun gg s9 s10 _ wr=>∃i j:Nat,i≤k∧k≤j∧j≤n∧j-i≤gg∧s9=.int .i64 (i:Int)∧s10=.int .i64 (j:Int)∧Aside (Below w.heap.size w wr))
 case atStart=>exact⟨0,n,Nat.zero_le _,hk,Nat.le_refl _,by omega,rfl,rfl,(show Aside _ from Below.refl _ _)⟩
 case round =>
  obtain⟨i,j,hi,hj,hjn,hg,rfl,rfl,BW⟩:=hrel
  have hiz:(i:Int)≤1000000:=by omega
  have hjz:(j:Int)≤1000000:=by omega
  have hi0:(0:Int)≤(i:Int):=by omega
  have hj0:(0:Int)≤(j:Int):=by omega
  by_cases hlt:i<j
  ·have hltz:(i:Int)<(j:Int):=by omega
   have hm:(i+j) / 2<n:=by omega
   have hcell:=HP.out _ hm
   rw[←BW.out.cell (p:=⟨b,off+(i+j) / 2,none⟩) hb] at hcell
   have cC:=HC.out _ hm wr BW.out
   by_cases hneg:cs ((i+j) / 2)<0
   ·have hk2:(i+j) / 2<k:=by
     rcases Nat.lt_or_ge ((i+j) / 2) k with h|h
     ·exact h
     ·have:=H2.out _ h hm;omega
    generalize cs ((i+j) / 2)=cv at cC hneg
    go_wp2_with fail
    refine cC.mono ?_
    rintro e w1 ⟨rfl,b1⟩
    have BW2:Aside (Below w.heap.size w w1):=BW.out.trans (b1.mono BW.out.size)
    clear cC b1 BW hcell
    go_wp2
    go_roundg (j-((i+j) / 2+1))
    case measure=>omega
    case rel=>exact⟨(i+j) / 2+1,j,by omega,hj,hjn,by omega,by (first|go_num|(congr 1;omega)),rfl,BW2⟩
   ·have hk2:k≤(i+j) / 2:=by
     rcases Nat.lt_or_ge ((i+j) / 2) k with h|h
     ·exact absurd (H1.out _ h) hneg
     ·exact h
    generalize cs ((i+j) / 2)=cv at cC hneg
    go_wp2_with fail
    refine cC.mono ?_
    rintro e w1 ⟨rfl,b1⟩
    have BW2:Aside (Below w.heap.size w w1):=BW.out.trans (b1.mono BW.out.size)
    clear cC b1 BW hcell
    go_wp2
    go_roundg ((i+j) / 2-i)
    case measure=>omega
    case rel=>exact⟨i,(i+j) / 2,hi,hk2,by omega,by omega,rfl,by (first|go_num|(congr 1;omega)),BW2⟩
  ·have hltz:¬(i:Int)<(j:Int):=by omega
   obtain rfl:k=i:=by omega
   obtain rfl:k=j:=by omega
   clear H1 H2
   by_cases hn2:k<n
   ·have hnz2:(k:Int)<(n:Int):=by omega
    have hcell:=HP.out _ hn2
    rw[←BW.out.cell (p:=⟨b,off+k,none⟩) hb] at hcell
    have cC:=HC.out _ hn2 wr BW.out
    have hd:decide (k<n)=true:=by simpa using hn2
    go_wp2_with fail
    refine cC.mono ?_
    rintro e w1 ⟨rfl,b1⟩
    have BW2:=BW.out.trans (b1.mono BW.out.size)
    clear cC b1 BW hcell HP HC
    go_wp2
    go_ret2
    refine⟨?_,BW2⟩
    rw[hd,Bool.true_and]
    rfl
   ·have hnz2:¬(k:Int)<(n:Int):=by omega
    have hd:decide (k<n)=false:=by simpa using hn2
    go_wp2
    go_ret2
    refine⟨?_,BW.out⟩
    first|rfl|(rw[hd,Bool.false_and];rfl)|(simp[hn2];rfl)
end
theorem zbj{S:Nat→Prop}{w w1:World}(h:Kp S w w1){g:Nat}(hg:S g)(c:Array Value):Kp S w (w1.setRow g c) :=
 ⟨below_setRow h.low (Nat.zero_le _) c,fun k hk hn=>by rw[setRow_other w1 g k c (fun e=>hn (by subst e;exact hg))];exact h.kept k hk hn⟩
theorem zjx{L:List Value}{e:Value}{c i n:Nat}(hL:L.length=c)(hi:i<n)(hr:n+1≤c):(splice (splice L (i+1) ((L.drop i).take (n-i))) i [e]).length=L.length:=by
 simp only[splice,List.length_append,List.length_take,List.length_drop,List.length_singleton];omega
theorem zhg{L xs:List Value}{e:Value}{c i n:Nat}(hL:L.length=c)(ht:L.take n=xs)(hi:i<n)(hr:n+1≤c):(splice (splice L (i+1) ((L.drop i).take (n-i))) i [e]).take (n+1)=xs.take i++e::xs.drop i:=by
 subst ht
 refine List.ext_getElem? fun j=>?_
 simp only[splice,List.getElem?_take,List.getElem?_append,List.getElem?_drop,List.length_append,List.length_take,List.length_drop,List.length_singleton,List.getElem?_cons]
 grind
theorem zjy{ROW xs:List Value}{e:Value}{G i n:Nat}(hR:ROW.length=G)(hx:xs.length=n)(hi:i<n)(hG:n+1≤G):(splice (splice ROW i [e]) (i+1) (xs.drop i)).length=G:=by
 simp only[splice,List.length_append,List.length_take,List.length_drop,List.length_singleton];omega
theorem zhh{ROW xs:List Value}{e:Value}{G i n:Nat}(hR:ROW.length=G)(ht:ROW.take i=xs.take i)(hx:xs.length=n)(hi:i<n)(hG:n+1≤G):(splice (splice ROW i [e]) (i+1) (xs.drop i)).take (n+1)=xs.take i++e::xs.drop i:=by
 have hA:splice ROW i [e]=xs.take i++e::ROW.drop (i+1):=by simp[splice,ht]
 rw[hA]
 have hl:(xs.take i).length=i:=by rw[List.length_take];omega
 have h1:(xs.take i++e::ROW.drop (i+1)).take (i+1)=xs.take i++[e]:=by
  rw[List.take_append,hl]
  simp[List.take_of_length_le,hl]
 rw[splice,h1,List.append_assoc,List.take_append]
 simp only[hl,List.singleton_append]
 rw[List.take_of_length_le (by omega),show n+1-i=(n-i)+1 by omega,List.take_succ_cons,List.take_append]
 have h3:n-i-(List.drop i xs).length=0:=by rw[List.length_drop];omega
 rw[h3,List.take_zero,List.append_nil,List.take_of_length_le (l:=List.drop i xs) (by rw[List.length_drop];omega)]
theorem znB{L xs:List Value}{c j n:Nat}{r:List Value}(hL:L.length=c)(ht:L.take n=xs)(hn:n≤c)(hj:j≤n)(hr:r.length=j):(splice (splice L 0 ((L.take n).drop j)) (n-j) r).take (n-j)=xs.drop j∧(splice (splice L 0 ((L.take n).drop j)) (n-j) r).length=c:=by
 subst ht
 have h1:(splice L 0 ((L.take n).drop j))=(L.take n).drop j++L.drop (n-j):=by simp[splice];congr 1;omega
 have h2:((L.take n).drop j).length=n-j:=by rw[List.length_drop,List.length_take];omega
 rw[h1]
 refine⟨?_,?_⟩
 ·refine List.ext_getElem? fun k=>?_
  simp only[splice,List.getElem?_take,List.getElem?_append,List.getElem?_drop,List.length_append,List.length_take,List.length_drop]
  grind
 ·simp only[splice,List.length_append,List.length_take,List.length_drop]
  omega
theorem zoc:(Tryz.prog.info? 267).map (fun i=>(i.zero,i.size,i.bytes))=some (some (.int .u64 0),1,8):=by kernel_rfl
def TotA(w:World)(v:Value)(ws:List Int):Prop:=∃p c,v=.slice p ws.length c∧(ws.length≤c∧ws.length≤1000)∧(p=none→c=0)∧wdR ws∧∀a,p=some a→∃g off,a=⟨g,off,none⟩∧(∃cs,w.heap[g]?=some (.cells cs 267 (0,0)))∧∀j (h:j<ws.length),w.cell? ⟨g,off+j,none⟩=some (.int .u64 ws[j])
theorem TotA.keep{w w':World}{v:Value}{ws:List Int}(h:TotA w v ws)(hk:∀(g:Nat) (cs:Array Value),w.heap[g]?=some (Obj.cells cs 267 (0,0))→w'.heap[g]?=w.heap[g]?):TotA w' v ws:=by
 obtain⟨p,c,e,h1,h2,h3,h4⟩:=h
 refine⟨p,c,e,h1,h2,h3,fun a ha=>?_⟩
 obtain⟨g,off,e2,⟨cs,h5⟩,h6⟩:=h4 a ha
 have:=hk g cs h5
 exact⟨g,off,e2,⟨cs,by rw[this];exact h5⟩,fun j hj=>by rw[World.cell?_of_block (w:=w) (a:=⟨g,off+j,none⟩) this];exact h6 j hj⟩
theorem TotA.on{w w':World}{v:Value}{ws:List Int}(h:TotA w v ws)(hb:Below w.heap.size w w'):TotA w' v ws :=
 h.keep fun g cs hg=>hb.block g (Array.getElem?_eq_some_iff.1 hg).1
theorem TotA.nil(w:World):TotA w (.slice none 0 0) []:=⟨none,0,rfl,⟨Nat.le_refl _,Nat.zero_le _⟩,fun _=>rfl,fun x hx=>absurd hx (by simp),fun a h=>nomatch h⟩
theorem TotA.form{w:World}{v:Value}{ws:List Int}(h:TotA w v ws):∃q c,v=.slice q ws.length c∧ws.length≤1000:=by
 obtain⟨p,c,e,h,_⟩:=h
 exact⟨p,c,e,h.2⟩
theorem TotA.at{w:World}{q:Option Addr}{n c m:Nat}{ws:List Int}(h:TotA w (.slice q n c) ws)(hm:m<ws.length):∃g off,q=some ⟨g,off,none⟩∧g<w.heap.size∧∀j (h:j<ws.length),w.cell? ⟨g,off+j,none⟩=some (.int .u64 ws[j]):=by
 obtain⟨p',c',e,⟨h1,h64⟩,h2,_,h3⟩:=h
 injection e with e1 e2 e3
 subst e1 e3
 cases q with
 | none=>have:=h2 rfl;omega
 | some a =>
  obtain⟨g,off,rfl,⟨cs,h5⟩,h6⟩:=h3 a rfl
  exact⟨g,off,rfl,(Array.getElem?_eq_some_iff.1 h5).1,h6⟩
theorem TotA.R{w:World}{v:Value}{ws:List Int}(h:TotA w v ws):wdR ws:=by
 obtain⟨p,c,e,h,_,h2,_⟩:=h
 exact h2
theorem zdJ{w:World}{p:Option Addr}{n c l:Nat}{ts:List Int}(h:TotA w (.slice p n c) ts)(hn:ts.length=n)(hl:l≤n):(∀W,Sem.run Tryz.prog (Instr.slice 296 (.slice p n c) none (some (.int .i64 (l:Int))) none) W=.ok (.slice p l c) W)∧TotA w (.slice p l c) (ts.take l):=by
 subst hn
 obtain⟨p',c',e,⟨h1,h64⟩,h2,hR,h3⟩:=h
 injection e with e1 e2 e3
 subst e1 e3
 have hr:∀W,Sem.run Tryz.prog (Instr.slice 296 (.slice p ts.length c) none (some (.int .i64 (l:Int))) none) W=.ok (sliced p 0 l c 1) W:=fun W=>by
  have g0:(0:Int)≤(l:Int):=by omega
  have g1:(l:Int)≤(c:Int):=by omega
  have g2:Sem.run Tryz.prog (Go.sizeOf (Tryz.prog.elem 296)) W=.ok 1 W:=by kernel_rfl
  rw[run_slice_h W 296 p ts.length c (by kernel_rfl) .i64 l g0 g1,g2]
  rfl
 have hlen:(ts.take l).length=l:=by rw[List.length_take];omega
 refine⟨fun W=>?_,p,c,by rw[hlen],⟨by omega,by omega⟩,h2,fun x hx=>hR x (List.mem_of_mem_take hx),fun a ha=>?_⟩
 ·rw[hr W,sliced]
  cases p with
  | none=>simp
  | some a =>
   obtain⟨g,off,rfl,-⟩:=h3 a rfl
   simp[Addr.add]
 ·obtain⟨g,off,e2,h5,h6⟩:=h3 a ha
  refine⟨g,off,e2,h5,fun j hj=>?_⟩
  rw[List.getElem_take]
  exact h6 j (by omega)
theorem znq{ws:List Int}{n:Nat}(h:ws.length=n+1):byW ws=if 9223372036854775807<ws[n]'(by omega) then 18446744073709551615 else 0:=by
 rw[byW,List.getLast?_eq_getElem?,show ws.length-1=n by omega,List.getElem?_eq_getElem (by omega)]
 rfl
theorem zeL(v:Value)(ws:List Int)(w:World)(h:TotA w v ws) :
  Calls Tryz.prog 265 #[v] w fun e w'=>e=.returned (.int .u64 (byW ws))∧w'=w:=by
 obtain⟨q,c,rfl,hl⟩:=h.form
 by_cases h0:ws.length=0
 ·have hb:byW ws=0:=by rw[List.length_eq_zero_iff.1 h0];rfl
  rw[h0,hb]
  clear h h0 hb
  go_enter Tryz.func265,Tryz.ntmps265
  go_wp2
  go_ret
  exact⟨rfl,rfl⟩
 ·obtain⟨n,hn⟩:∃n,ws.length=n+1:=⟨ws.length-1,by omega⟩
  obtain⟨g,off,rfl,hg,hc⟩:=h.at (m:=n) (by omega)
  have hx:=hc n (by omega)
  have hw:IntKind.i64.wrap ((ws.length:Int)-1)=(n:Int):=by rw[IntKind.wrap_i64];omega
  have hpos:(0:Int)<(ws.length:Int):=by omega
  have hlt:(n:Int)<(ws.length:Int):=by omega
  have hnn:(0:Int)≤(n:Int):=by omega
  have hl2:(ws.length:Int)≤1000:=by omega
  have hB:Hid (byW ws=if 9223372036854775807<ws[n]'(by omega) then 18446744073709551615 else 0):=znq hn
  generalize ws[n]'(by omega)=x at hx hB
  generalize byW ws=R at hB ⊢
  clear hc hn h0 h
  generalize ws.length=L at *
  by_cases hxx:9223372036854775807<x
  ·have:=hB.out
   rw[if_pos hxx] at this
   subst this
   go_enter Tryz.func265,Tryz.ntmps265
   go_wp2
   go_ret
   exact⟨rfl,rfl⟩
  ·have:=hB.out
   rw[if_neg hxx] at this
   subst this
   go_enter Tryz.func265,Tryz.ntmps265
   go_wp2
   go_ret
   exact⟨rfl,rfl⟩
theorem zgR(v:Value)(ws:List Int)(i:Nat)(w:World)(h:TotA w v ws)(hi:i≤100000) :
  Calls Tryz.prog 257 #[v,.int .i64 (i:Int)] w fun e w'=>e=.returned (.int .u64 (wordW ws i))∧w'=w:=by
 have cB:=zeL v ws w h
 obtain⟨q,c,rfl,hl⟩:=h.form
 by_cases hlt:i<ws.length
 ·obtain⟨g,off,rfl,hg,hc⟩:=h.at hlt
  have hx:=hc i hlt
  have hW:wordW ws i=ws[i]:=by rw[wordW,dif_pos hlt]
  rw[hW]
  generalize ws[i]=x at hx ⊢
  have h1:(i:Int)<(ws.length:Int):=by omega
  have h2:(0:Int)≤(i:Int):=by omega
  clear hc hW cB h
  generalize ws.length=L at *
  go_enter Tryz.func257,Tryz.ntmps257
  go_wp2
  go_ret
  exact⟨rfl,rfl⟩
 ·have hW:wordW ws i=byW ws:=zeG (by omega)
  rw[hW]
  have h1:¬(i:Int)<(ws.length:Int):=by omega
  clear hW h
  generalize byW ws=R at cB ⊢
  generalize ws.length=L at *
  go_enter Tryz.func257,Tryz.ntmps257
  go_wp2_with fail
  refine cB.mono ?_
  rintro e w1 ⟨rfl,rfl⟩
  go_wp2
  go_ret
  exact⟨rfl,rfl⟩
theorem zfo(v:Value)(ws:List Int)(w:World)(h:TotA w v ws)(hs:Short ws)(T E:Int)(hT:(if -9223372036854775808≤sv ws∧sv ws≤9223372036854775807 then (sv ws,(0:Int)) else (0,9))=(T,E)) :
  Calls Tryz.prog 241 #[v] w fun e w'=>e=.returned (.tuple #[.int .i64 T,errV E])∧w'=w:=by
 have cW:=zgR v ws 0 w h (by omega)
 have hR:=h.R
 obtain⟨q,c,rfl,hl⟩:=h.form
 by_cases h1:ws.length≤1
 ·obtain⟨o1,o2,o3⟩:=zsH ws hR h1
  rw[if_pos ⟨o2,o3⟩] at hT
  obtain⟨rfl,rfl⟩:=Prod.mk.inj hT
  have hw0:0≤wordW ws 0∧wordW ws 0<18446744073709551616:=by
   rw[wordW]
   split
   ·exact hR _ (List.getElem_mem _)
   ·exact byW_R ws _ (by simp)
  have hwr:IntKind.i64.wrap (wordW ws 0)=sv ws:=by rw[IntKind.wrap_i64,o1];split<;>omega
  have hg:¬(1:Int)<(ws.length:Int):=by omega
  generalize sv ws=S at *
  generalize wordW ws 0=x at *
  generalize ws.length=L at *
  rw[show errV 0=.nilIface from rfl]
  clear o1 hT h1 h hR
  go_enter Tryz.func241,Tryz.ntmps241
  go_wp2_with fail
  refine cW.mono ?_
  rintro e w1 ⟨rfl,rfl⟩
  clear cW
  go_wp2
  go_ret2
  exact⟨rfl,rfl⟩
 ·rw[if_neg (by have:=zex ws hR hs (by omega);omega)] at hT
  obtain⟨rfl,rfl⟩:=Prod.mk.inj hT
  have hg:(1:Int)<(ws.length:Int):=by omega
  generalize ws.length=L at *
  rw[show errV 9=.iface 35 (.int .i64 9) from rfl]
  clear cW h h1 hT
  go_enter Tryz.func241,Tryz.ntmps241
  go_wp2
  go_ret2
  exact⟨rfl,rfl⟩
section
open Go.BigFrame
set_option maxRecDepth 20000 in
theorem zfb(q:Option Addr)(c:Nat)(ks:List V3)(w:World)(hn:ks.length≤1000000)(h:zaf w q ks)(hs:∀v∈ks,v.2.2.size≤281474976710656) :
  Calls Tryz.prog 202 #[.slice q ks.length c] w fun e w'=>(∃u,e=.returned u∧Aside (w'.ownsRow w.heap.size 27 3 u ks.length (zao ks)))∧Below w.heap.size w w':=by
 have H:Aside (zaf w q ks):=h
 have S:Aside _:=hs
 obtain⟨N,hN⟩:∃N,ks.length=N:=⟨_,rfl⟩
 have HN:Hid (ks.length=N):=hN
 rw[hN] at hn ⊢
 clear h hs hN
 have hnz:(N:Int)≤1000000:=by omega
 go_enter Tryz.func202,Tryz.ntmps202
 go_wp2
 go_loopg [3,5,8] N (fun gg s3 _ s8 wr=>∃(kk:Nat) (u:Value),kk≤N∧N-kk≤gg∧s8=.int .i64 (kk:Int)∧s3=u∧Aside (wr.ownsRow w.heap.size 27 3 u kk (zao (ks.take kk)))∧Aside (Below w.heap.size w wr))
 case atStart=>exact⟨0,.slice none 0 0,Nat.zero_le _,by omega,rfl,rfl,(show Aside _ from World.ownsRow_nil _ _ _ _),(show Aside _ from Below.refl _ _)⟩
 case round =>
  obtain⟨kk,u,hkk,hg,rfl,hu,OW,BW⟩:=hrel
  obtain rfl:u=_:=hu.symm
  by_cases hlt:kk<N
  ·have hltz:(kk:Int)<(N:Int):=by omega
   have h0z:(0:Int)≤(kk:Int):=by omega
   have hk1:kk<ks.length:=by rw[HN.out];exact hlt
   obtain⟨b1,o1,rfl,l1,r1⟩:=(H.out.on BW.out).resolve_left (by omega)
   obtain⟨e0,e1,e2⟩:=r1 kk hk1
   have z1:=S.out _ (List.getElem_mem hk1)
   have HT:Hid (ks.take (kk+1)=ks.take kk++[ks[kk]]):=by show _=_;rw[List.take_succ_eq_append_getElem hk1]
   clear r1
   generalize ks[kk]=x at e0 e1 e2 z1 HT
   obtain⟨t,n,s⟩:=x
   simp only at e0 e1 e2 z1
   have cF:=fun W=>zbA t n s W z1
   obtain⟨uq,uc,rfl⟩:=zaa OW.out
   go_wp2_with fail
   refine (cF _).mono ?_
   rintro e w2 ⟨rfl,b3⟩
   have hs2:=b3.size
   simp at hs2
   have hbs:=BW.out.size
   have a1:∀(X:World) o,Below X.heap.size X (X.alloc o):=fun X o=>(Below.refl _ _).alloc (Nat.le_refl _) o
   have O2:=zac (zac OW.out (a1 wr (.cells #[.int .i64 t,.int .i64 n,.string s] 27))) b3
   have B2:Below w.heap.size w w2:=(BW.out.alloc hbs (.cells #[.int .i64 t,.int .i64 n,.string s] 27)).trans (b3.mono (by simp;omega))
   have HO4:=(show Aside _ from zac O2 (a1 w2 (.cells #[.int .i64 t,.int .i64 n,.string s] 27)))
   have HJ4:=(show Aside _ from B2.alloc (by omega) (.cells #[.int .i64 t,.int .i64 n,.string s] 27))
   clear cF O2 B2 b3 BW OW e0 e1 e2
   go_wp2_with (at_builtin;refine zax rfl _ _ rfl w.heap.size _ kk (ks.take kk) rfl HO4.out w2.heap.size 1 t n s rfl (news1 (by simp) _) (by omega) (by simp;omega) ?_)
   intro q' c' w4 ho hg
   have hown4:∀m,(Value.slice uq kk uc).ownBlock=some m→w.heap.size≤m:=fun m hm=>(World.ownsRow.lt HO4.out m hm).1
   have B6:Aside (Below w.heap.size w w4):=HJ4.out.grown hg (by simp;omega) hown4
   rw[←HT.out] at ho
   have O6:Aside (w4.ownsRow w.heap.size 27 3 (.slice q' (kk+1) c') (kk+1) (zao (ks.take (kk+1)))):=ho
   clear ho hg HO4 HJ4 hown4
   go_wp2
   go_roundg (N-(kk+1))
   case measure=>omega
   case rel=>exact⟨kk+1,_,by omega,by omega,by go_num,rfl,O6,B6⟩
  ·have hltz:¬(kk:Int)<(N:Int):=by omega
   obtain rfl:kk=N:=by omega
   have ht:ks.take kk=ks:=List.take_of_length_le (by rw[HN.out];exact Nat.le_refl _)
   rw[ht] at OW
   go_wp2
   go_ret
   exact⟨⟨_,rfl,OW⟩,BW.out⟩
set_option maxRecDepth 20000 in
theorem zlc(fn:FuncId)(hent:∀(args:Array Value) (W:World),Sem.run Tryz.prog (callFunc fn args) W=.ok (.enter fn args) W)(caps:Array Value)(b off n c:Nat)(tg:Value)(ps:Nat→Value)(cs:Nat→Int)(w:World)(hn:n≤1000000)
  (hb:b<w.heap.size)(hp:∀j,j<n→w.cell? ⟨b,off+j,none⟩=some (ps j))(k:Nat)(hk:k≤n)(h1:∀j,j<k→cs j<0)(h2:∀j,k≤j→j<n→0≤cs j)
  (hc:∀j,j<n→∀W,Below w.heap.size w W→Calls Tryz.prog fn (#[ps j,tg]++caps) W fun e w'=>e=.returned (.int .i64 (cs j))∧Below W.heap.size W w') :
  Calls Tryz.prog 195 #[.slice (some ⟨b,off,none⟩) n c,tg,.func (.func fn) #[] caps] w fun e w'=>e=.returned (.tuple #[.int .i64 (k:Int),.bool (decide (k<n)&&(cs k == 0))])∧Below w.heap.size w w':=by
 have HP:=(show Aside _ from hp)
 have HC:=(show Aside _ from hc)
 have H1:=(show Aside _ from h1)
 have H2:=(show Aside _ from h2)
 have hnz:(n:Int)≤1000000:=by omega
 clear hp hc h1 h2
 go_enter Tryz.func195,Tryz.ntmps195
 go_wp2
 go_loopg [9,10,11] n (fun gg s9 s10 _ wr=>∃i j:Nat,i≤k∧k≤j∧j≤n∧j-i≤gg∧s9=.int .i64 (i:Int)∧s10=.int .i64 (j:Int)∧Aside (Below w.heap.size w wr))
 case atStart=>exact⟨0,n,Nat.zero_le _,hk,Nat.le_refl _,by omega,rfl,rfl,(show Aside _ from Below.refl _ _)⟩
 case round =>
  obtain⟨i,j,hi,hj,hjn,hg,rfl,rfl,BW⟩:=hrel
  have hiz:(i:Int)≤1000000:=by omega
  have hjz:(j:Int)≤1000000:=by omega
  have hi0:(0:Int)≤(i:Int):=by omega
  have hj0:(0:Int)≤(j:Int):=by omega
  by_cases hlt:i<j
  ·have hltz:(i:Int)<(j:Int):=by omega
   have hm:(i+j) / 2<n:=by omega
   have hcell:=HP.out _ hm
   rw[←BW.out.cell (p:=⟨b,off+(i+j) / 2,none⟩) hb] at hcell
   have cC:=HC.out _ hm wr BW.out
   by_cases hneg:cs ((i+j) / 2)<0
   ·have hk2:(i+j) / 2<k:=by
     rcases Nat.lt_or_ge ((i+j) / 2) k with h|h
     ·exact h
     ·have:=H2.out _ h hm;omega
    generalize cs ((i+j) / 2)=cv at cC hneg
    go_wp2_with fail
    refine cC.mono ?_
    rintro e w1 ⟨rfl,b1⟩
    have BW2:Aside (Below w.heap.size w w1):=BW.out.trans (b1.mono BW.out.size)
    clear cC b1 BW hcell
    go_wp2
    go_roundg (j-((i+j) / 2+1))
    case measure=>omega
    case rel=>exact⟨(i+j) / 2+1,j,by omega,hj,hjn,by omega,by (first|go_num|(congr 1;omega)),rfl,BW2⟩
   ·have hk2:k≤(i+j) / 2:=by
     rcases Nat.lt_or_ge ((i+j) / 2) k with h|h
     ·exact absurd (H1.out _ h) hneg
     ·exact h
    generalize cs ((i+j) / 2)=cv at cC hneg
    go_wp2_with fail
    refine cC.mono ?_
    rintro e w1 ⟨rfl,b1⟩
    have BW2:Aside (Below w.heap.size w w1):=BW.out.trans (b1.mono BW.out.size)
    clear cC b1 BW hcell
    go_wp2
    go_roundg ((i+j) / 2-i)
    case measure=>omega
    case rel=>exact⟨i,(i+j) / 2,hi,hk2,by omega,by omega,rfl,by (first|go_num|(congr 1;omega)),BW2⟩
  ·have hltz:¬(i:Int)<(j:Int):=by omega
   obtain rfl:k=i:=by omega
   obtain rfl:k=j:=by omega
   clear H1 H2
   by_cases hn2:k<n
   ·have hnz2:(k:Int)<(n:Int):=by omega
    have hcell:=HP.out _ hn2
    rw[←BW.out.cell (p:=⟨b,off+k,none⟩) hb] at hcell
    have cC:=HC.out _ hn2 wr BW.out
    have hd:decide (k<n)=true:=by simpa using hn2
    go_wp2_with fail
    refine cC.mono ?_
    rintro e w1 ⟨rfl,b1⟩
    have BW2:=BW.out.trans (b1.mono BW.out.size)
    clear cC b1 BW hcell HP HC
    go_wp2
    go_ret2
    refine⟨?_,BW2⟩
    rw[hd,Bool.true_and]
    rfl
   ·have hnz2:¬(k:Int)<(n:Int):=by omega
    have hd:decide (k<n)=false:=by simpa using hn2
    go_wp2
    go_ret2
    refine⟨?_,BW.out⟩
    first|rfl|(rw[hd,Bool.false_and];rfl)|(simp[hn2];rfl)
def cmpV3(a b:V3):Int:=cmpN a.1 a.2.1 a.2.2.data.toList b.1 b.2.1 b.2.2.data.toList
def keyC:List V3→List V3→Int
 | a::l,b::m=>if cmpV3 a b≠0 then cmpV3 a b else keyC l m
 | _,_=>0
theorem zeb(ks ls:List V3)(k:Nat)(h1:k<ks.length)(h2:k<ls.length)(h:cmpV3 ks[k] ls[k]=0):keyC (ks.drop k) (ls.drop k)=keyC (ks.drop (k+1)) (ls.drop (k+1)):=by
 rw[List.drop_eq_getElem_cons h1,List.drop_eq_getElem_cons h2,keyC,if_neg (by simp[h])]
theorem zgn(ks ls:List V3)(k:Nat)(h1:k<ks.length)(h2:k<ls.length)(h:cmpV3 ks[k] ls[k]≠0):keyC (ks.drop k) (ls.drop k)=cmpV3 ks[k] ls[k]:=by
 rw[List.drop_eq_getElem_cons h1,List.drop_eq_getElem_cons h2,keyC,if_pos h]

theorem zdT(t n:Int)(s:ByteArray)(t' n':Int)(s':ByteArray)(w:World)(hs:s.size≤maxLen)(hs':s'.size≤maxLen) :
  Calls Tryz.prog 220 #[.agg #[.int .i64 t,.int .i64 n,.string s],.agg #[.int .i64 t',.int .i64 n',.string s']] w fun e w'=>e=.returned (.int .i64 (cmpN t n s.data.toList t' n' s'.data.toList))∧Below w.heap.size w w':=by
 have hc:=fun W=>zdx t n s t' n' s' W hs hs'
 generalize errV (cmpE t n s.data.toList t' n' s'.data.toList)=ev at hc
 generalize cmpN t n s.data.toList t' n' s'.data.toList=R at hc ⊢
 go_enter Tryz.func220,Tryz.ntmps220
 go_wp2_with fail
 refine (hc _).mono ?_
 rintro e w1 ⟨rfl,b1⟩
 have B1:Aside _:=b1
 clear hc b1
 go_wp2
 go_ret
 exact⟨rfl,((alB w _).trans ((alB _ _).mono (by simp))).trans (B1.out.mono (by simp;omega))⟩

set_option maxRecDepth 20000 in
theorem zcL(q1 q2:Option Addr)(c1 c2:Nat)(ks ls:List V3)(w:World)(hn:ks.length≤1000000)(hl:ls.length=ks.length)(h1:zaf w q1 ks)(h2:zaf w q2 ls)(hs1:∀v∈ks,v.2.2.size≤maxLen)(hs2:∀v∈ls,v.2.2.size≤maxLen) :
  Calls Tryz.prog 219 #[.slice q1 ks.length c1,.slice q2 ls.length c2,.func (.func 220) #[] #[]] w fun e w'=>e=.returned (.int .i64 (keyC ks ls))∧Below w.heap.size w w':=by
 have H1:Aside (zaf w q1 ks):=h1
 have H2:Aside (zaf w q2 ls):=h2
 have S1:Aside _:=hs1
 have S2:Aside _:=hs2
 obtain⟨N,hN⟩:∃N,ks.length=N:=⟨_,rfl⟩
 have HN:Hid (ks.length=N):=hN
 have HM:Hid (ls.length=N):=by show _=_;rw[hl,hN]
 rw[HM.out]
 rw[hN] at hn ⊢
 obtain⟨R,hR⟩:∃R,keyC ks ls=R:=⟨_,rfl⟩
 have HR0:keyC (ks.drop 0) (ls.drop 0)=R:=by rw[List.drop_zero,List.drop_zero,hR]
 have HR:Hid (keyC (ks.drop 0) (ls.drop 0)=R):=HR0
 rw[hR]
 clear h1 h2 hs1 hs2 hN hl hR HR0
 go_enter Tryz.func219,Tryz.ntmps219
 go_wp2
 go_loopg [7,13] N (fun gg _ s13 wr=>∃kk:Nat,kk≤N∧N-kk≤gg∧s13=.int .i64 kk∧Hid (keyC (ks.drop kk) (ls.drop kk)=R)∧Aside (Below w.heap.size w wr))
 case atStart=>exact⟨0,Nat.zero_le _,by omega,rfl,HR,(show Aside _ from Below.refl _ _)⟩
 case round =>
  obtain⟨kk,hkk,hg,rfl,HK,BW⟩:=hrel
  by_cases hlt:kk<N
  ·have hltz:(kk:Int)<(N:Int):=by omega
   have h0z:(0:Int)≤(kk:Int):=by omega
   have hk1:kk<ks.length:=by rw[HN.out];exact hlt
   have hk2:kk<ls.length:=by rw[HM.out];exact hlt
   obtain⟨b1,o1,rfl,l1,r1⟩:=(H1.out.on BW.out).resolve_left (by omega)
   obtain⟨b2,o2,rfl,l2,r2⟩:=(H2.out.on BW.out).resolve_left (by omega)
   obtain⟨e0,e1,e2⟩:=r1 kk hk1
   obtain⟨d0,d1,d2⟩:=r2 kk hk2
   have z1:=S1.out _ (List.getElem_mem hk1)
   have z2:=S2.out _ (List.getElem_mem hk2)
   have D0:Hid (cmpV3 ks[kk] ls[kk]=0→keyC (ks.drop (kk+1)) (ls.drop (kk+1))=R):=fun h=>by
    rw[←zeb ks ls kk hk1 hk2 h];exact HK.out
   have DN:Hid (cmpV3 ks[kk] ls[kk]≠0→cmpV3 ks[kk] ls[kk]=R):=fun h=>by
    rw[←zgn ks ls kk hk1 hk2 h];exact HK.out
   clear r1 r2 HK
   generalize ks[kk]=x at e0 e1 e2 z1 D0 DN
   generalize ls[kk]=y at d0 d1 d2 z2 D0 DN
   obtain⟨xt,xn,xs⟩:=x
   obtain⟨yt,yn,ys⟩:=y
   simp only at e0 e1 e2 d0 d1 d2 z1 z2
   have hc:=fun W=>zdT xt xn xs yt yn ys W z1 z2
   rw[show cmpN xt xn xs.data.toList yt yn ys.data.toList=cmpV3 (xt,xn,xs) (yt,yn,ys) from rfl] at hc
   generalize cmpV3 (xt,xn,xs) (yt,yn,ys)=CV at hc D0 DN
   go_wp2_with fail
   refine (hc _).mono ?_
   rintro e w1 ⟨rfl,b1⟩
   have bC:Below wr.heap.size wr ((wr.alloc (.cells #[.int .i64 xt,.int .i64 xn,.string xs] 27)).alloc (.cells #[.int .i64 yt,.int .i64 yn,.string ys] 27)):=(alB wr _).alloc (by simp) _
   have B1:Aside (Below w.heap.size w w1):=BW.out.trans ((bC.trans (b1.mono bC.size)).mono BW.out.size)
   clear hc BW b1 bC e0 e1 e2 d0 d1 d2
   by_cases hcv:CV=0
   ·have HK2:Hid (keyC (ks.drop (kk+1)) (ls.drop (kk+1))=R):=D0.out hcv
    subst hcv
    clear D0 DN
    go_wp2
    go_roundg (N-(kk+1))
    case measure=>omega
    case rel=>exact⟨kk+1,by omega,by omega,by go_num,HK2,B1⟩
   ·have he:=DN.out hcv
    subst he
    clear D0 DN
    have hcv2:(CV == 0)=false:=by simpa using hcv
    go_wp2
    go_ret
    exact⟨rfl,B1.out⟩
  ·have hltz:¬(kk:Int)<(N:Int):=by omega
   obtain rfl:kk=N:=by omega
   have hz:(0:Int)=R:=by
    have h:=HK.out
    rw[List.drop_eq_nil_of_le (by rw[HN.out];exact Nat.le_refl _),List.drop_eq_nil_of_le (by rw[HM.out];exact Nat.le_refl _)] at h
    simpa [keyC] using h
   subst hz
   clear HK
   go_wp2
   go_ret
   exact⟨rfl,BW.out⟩

theorem zeT(q1 q2:Option Addr)(c1 c2:Nat)(ks ls:List V3)(w:World)(hn:ks.length≤1000000)(hl:ls.length=ks.length)(h1:zaf w q1 ks)(h2:zaf w q2 ls)(hs1:∀v∈ks,v.2.2.size≤maxLen)(hs2:∀v∈ls,v.2.2.size≤maxLen) :
  Calls Tryz.prog 197 #[.slice q1 ks.length c1,.slice q2 ls.length c2] w fun e w'=>e=.returned (.int .i64 (keyC ks ls))∧Below w.heap.size w w':=by
 have hc:=zcL q1 q2 c1 c2 ks ls w hn hl h1 h2 hs1 hs2
 generalize keyC ks ls=R at hc ⊢
 clear h1 h2 hs1 hs2 hl hn
 generalize ks.length=n1 at hc ⊢
 generalize ls.length=n2 at hc ⊢
 go_enter Tryz.func197,Tryz.ntmps197
 go_wp2_with fail
 refine hc.mono ?_
 rintro e w1 ⟨rfl,b1⟩
 have B1:Aside _:=b1
 clear hc b1
 go_wp2
 go_ret
 exact⟨rfl,B1.out⟩
theorem znM(z:Nat)(q1 q2:Option Addr)(c1 c2:Nat)(ks ls:List V3)(w:World)(hz:w.cell? ⟨z,0,none⟩=some (.slice q1 ks.length c1))(hn:ks.length≤1000000)(hl:ls.length=ks.length)(h1:zaf w q1 ks)(h2:zaf w q2 ls)(hs1:∀v∈ks,v.2.2.size≤maxLen)(hs2:∀v∈ls,v.2.2.size≤maxLen) :
  Calls Tryz.prog 196 #[.pointer (some ⟨z,0,none⟩),.slice q2 ls.length c2] w fun e w'=>e=.returned (.int .i64 (keyC ks ls))∧Below w.heap.size w w':=by
 have hc:=zeT q1 q2 c1 c2 ks ls w hn hl h1 h2 hs1 hs2
 generalize keyC ks ls=R at hc ⊢
 clear h1 h2 hs1 hs2 hl hn
 generalize ks.length=n1 at hc hz ⊢
 generalize ls.length=n2 at hc ⊢
 go_enter Tryz.func196,Tryz.ntmps196
 go_wp2_with fail
 refine hc.mono ?_
 rintro e w1 ⟨rfl,b1⟩
 have B1:Aside _:=b1
 clear hc b1
 go_wp2
 go_ret
 exact⟨rfl,B1.out⟩

structure zkV(w:World)(b n m:Nat)(zs:Nat→Nat)(K:Nat→List V3):Prop where
 lt:b<w.heap.size
 le:n≤1000000
 wide:m≤1000000
 ptr:∀j,j<n→w.cell? ⟨b,j,none⟩=some (.pointer (some ⟨zs j,0,none⟩))
 key:∀j,j<n→(K j).length=m∧∃q c,w.cell? ⟨zs j,0,none⟩=some (.slice q m c)∧zaf w q (K j)
 small:∀j,j<n→∀v∈K j,v.2.2.size≤maxLen

theorem znN(sb b n c m:Nat)(zs:Nat→Nat)(K:Nat→List V3)(q2:Option Addr)(c2:Nat)(ls:List V3)(w:World)(hs:w.cell? ⟨sb,1,none⟩=some (.slice (some ⟨b,0,none⟩) n c))(hK:zkV w b n m zs K)(hl:ls.length=m)(h2:zaf w q2 ls)(hs2:∀v∈ls,v.2.2.size≤maxLen)
  (k:Nat)(hk:k≤n)(hb1:∀j,j<k→keyC (K j) ls<0)(hb2:∀j,k≤j→j<n→0≤keyC (K j) ls) :
  Calls Tryz.prog 175 #[.pointer (some ⟨sb,0,none⟩),.slice q2 m c2] w fun e w'=>e=.returned (.tuple #[.int .i64 (k:Int),.bool (decide (k<n)&&(keyC (K k) ls == 0))])∧Below w.heap.size w w':=by
 subst hl
 have hlt:∀j,j<n→zs j<w.heap.size:=fun j hj=>by
  obtain⟨_,q,c,hz,_⟩:=hK.key j hj
  rcases Nat.lt_or_ge (zs j) w.heap.size with h|h
  ·exact h
  ·simp[World.cell?,Array.getElem?_eq_none h] at hz
 have hC:=zlc 196 (fun args W=>by kernel_rfl) #[] b 0 n c (.slice q2 ls.length c2) (fun j=>.pointer (some ⟨zs j,0,none⟩)) (fun j=>keyC (K j) ls) w hK.le hK.lt (fun j hj=>by rw[Nat.zero_add];exact hK.ptr j hj) k hk hb1 hb2 (fun j hj W hW=>by
   obtain⟨hm,q,cc,hz,hv⟩:=hK.key j hj
   have hcell:W.cell? ⟨zs j,0,none⟩=some (.slice q (K j).length cc):=by rw[hW.cell (p:=⟨zs j,0,none⟩) (hlt j hj),hm];exact hz
   exact znM (zs j) q q2 cc c2 (K j) ls W hcell (by rw[hm];exact hK.wide) hm.symm (hv.on hW) (h2.on hW) (hK.small j hj) hs2)
 generalize (decide (k<n)&&(keyC (K k) ls == 0))=r at hC ⊢
 have hw:=w.heap.size
 clear hb1 hb2 hlt hK h2 hs2
 generalize ls.length=m at hC ⊢
 go_enter Tryz.func175,Tryz.ntmps175
 go_wp2_with fail
 refine hC.mono ?_
 rintro e w' ⟨rfl,hB⟩
 have HB:=(show Aside _ from hB)
 clear hC hB hs
 go_wp2
 go_ret2
 exact⟨rfl,HB.out⟩

theorem zls(sb b n c m:Nat)(zs:Nat→Nat)(K:Nat→List V3)(q2:Option Addr)(c2:Nat)(ls:List V3)(w:World)(hs:w.cell? ⟨sb,1,none⟩=some (.slice (some ⟨b,0,none⟩) n c))(hK:zkV w b n m zs K)(hl:ls.length=m)(h2:zaf w q2 ls)(hs2:∀v∈ls,v.2.2.size≤maxLen)
  (k:Nat)(hk:k≤n)(hb1:∀j,j<k→keyC (K j) ls<0)(hb2:∀j,k≤j→j<n→0≤keyC (K j) ls) :
  Calls Tryz.prog 146 #[.pointer (some ⟨sb,0,none⟩),.slice q2 m c2] w fun e w'=>e=.returned (.bool ((decide (k<n)&&(keyC (K k) ls == 0))||decide (n<40)))∧Below w.heap.size w w':=by
 have hsl:sb<w.heap.size:=by
  rcases Nat.lt_or_ge sb w.heap.size with h|h
  ·exact h
  ·simp[World.cell?,Array.getElem?_eq_none h] at hs
 have hC:=znN sb b n c m zs K q2 c2 ls w hs hK hl h2 hs2 k hk hb1 hb2
 have hn:=hK.le
 generalize (decide (k<n)&&(keyC (K k) ls == 0))=r at hC ⊢
 clear hb1 hb2 hK h2 hs2 hl hk
 have hS:Aside _:=hs
 have hnz:(n:Int)≤1000000:=by omega
 go_enter Tryz.func146,Tryz.ntmps146
 go_wp2_with fail
 refine hC.mono ?_
 rintro e w' ⟨rfl,hB⟩
 have hs':w'.cell? ⟨sb,1,none⟩=some (.slice (some ⟨b,0,none⟩) n c):=by rw[hB.cell (p:=⟨sb,1,none⟩) hsl];exact hs
 have HB:=(show Aside _ from hB)
 clear hC hB hs
 by_cases hr:r=true
 ·subst hr
  go_wp2
  go_ret
  exact⟨rfl,HB.out⟩
 ·have hr:r=false:=by simpa using hr
  subst hr
  by_cases h4:n<40
  ·have h4z:(n:Int)<40:=by omega
   go_wp2
   go_ret
   exact⟨by simp[h4],HB.out⟩
  ·have h4z:¬(n:Int)<40:=by omega
   go_wp2
   go_ret
   exact⟨by simp[h4];omega,HB.out⟩
theorem zqa(z:Nat)(f t:Int)(w:World)(hz:w.cell? ⟨z,0,none⟩=some (.int .i64 f)) :
  Calls Tryz.prog 173 #[.pointer (some ⟨z,0,none⟩),.int .i64 t] w fun e w'=>e=.returned (.int .i64 (cmpI f t))∧Below w.heap.size w w':=by
 have hc:=zmu f t w
 go_enter Tryz.func173,Tryz.ntmps173
 go_wp2_with fail
 refine hc.mono ?_
 rintro e w' ⟨rfl,rfl⟩
 clear hc
 go_wp2
 go_ret
 exact⟨rfl,Below.refl _ _⟩

theorem zmt{x y:Int}:cmpI x y<0↔x<y:=by
 unfold cmpI
 split
 ·simp_all
 ·split<;>simp_all
theorem znw{x y:Int}:(cmpI x y == 0)=(x == y):=by
 unfold cmpI
 split
 ·next h =>
  have:¬x=y:=by omega
  simp[this]
 ·split
  ·next h =>
   have:¬x=y:=by omega
   simp[this]
  ·have:x=y:=by omega
   simp[this]

theorem zsv(gb b n c:Nat)(zs:Nat→Nat)(fs:Nat→Int)(t:Int)(w:World)(hg:w.cell? ⟨gb,16,none⟩=some (.slice (some ⟨b,0,none⟩) n c))(hn:n≤1000000)(hb:b<w.heap.size)
  (hp:∀j,j<n→w.cell? ⟨b,j,none⟩=some (.pointer (some ⟨zs j,0,none⟩)))(hz:∀j,j<n→w.cell? ⟨zs j,0,none⟩=some (.int .i64 (fs j)))
  (k:Nat)(hk:k≤n)(h1:∀j,j<k→fs j<t)(h2:∀j,k≤j→j<n→t≤fs j) :
  Calls Tryz.prog 145 #[.pointer (some ⟨gb,0,none⟩),.int .i64 t] w fun e w'=>e=.returned (.tuple #[.int .i64 (k:Int),.bool (decide (k<n)&&(fs k == t))])∧Below w.heap.size w w':=by
 have hlt:∀j,j<n→zs j<w.heap.size:=fun j hj=>by
  rcases Nat.lt_or_ge (zs j) w.heap.size with h|h
  ·exact h
  ·have:=hz j hj
   simp[World.cell?,Array.getElem?_eq_none h] at this
 have hC:=zno 173 (fun args W=>by kernel_rfl) #[] b 0 n c (.int .i64 t) (fun j=>.pointer (some ⟨zs j,0,none⟩)) (fun j=>cmpI (fs j) t) w hn hb (fun j hj=>by rw[Nat.zero_add];exact hp j hj) k hk (fun j hj=>zmt.2 (h1 j hj)) (fun j hj hjn=>by
   have:=h2 j hj hjn
   rcases Int.lt_or_le (cmpI (fs j) t) 0 with h|h
   ·have:=zmt.1 h;omega
   ·exact h) (fun j hj W hW=>by
   have hcell:W.cell? ⟨zs j,0,none⟩=some (.int .i64 (fs j)):=by rw[hW.cell (p:=⟨zs j,0,none⟩) (hlt j hj)];exact hz j hj
   exact zqa (zs j) (fs j) t W hcell)
 have hk0:(cmpI (fs k) t == 0)=(fs k == t):=znw
 rw[hk0] at hC
 generalize (decide (k<n)&&(fs k == t))=r at hC
 have hw:=w.heap.size
 clear hp hz h1 h2 hlt hk0
 go_enter Tryz.func145,Tryz.ntmps145
 go_wp2_with fail
 refine hC.mono ?_
 rintro e w' ⟨rfl,hB⟩
 have HB:=(show Aside _ from hB)
 clear hC hB hg
 go_wp2
 go_ret2
 exact⟨rfl,HB.out⟩
theorem zld(a:Option Addr)(c:Nat)(tg:Value)(f:Value)(w:World) :
  Calls Tryz.prog 172 #[.slice a 0 c,tg,f] w fun e w'=>e=.returned (.tuple #[.int .i64 0,.bool false])∧w'=w:=by
 go_enter Tryz.func172,Tryz.ntmps172
 go_wp2
 go_loopg [9,10,11] 0 (fun gg s9 s10 _ wr=>s9=.int .i64 0∧s10=.int .i64 0∧wr=w)
 case atStart=>exact⟨rfl,rfl,rfl⟩
 case round =>
  obtain⟨rfl,rfl,rfl⟩:=hrel
  go_wp2
  go_ret2
  exact⟨rfl,rfl⟩
theorem ziG(a:Option Addr)(c:Nat)(tg:Value)(f:Value)(w:World) :
  Calls Tryz.prog 195 #[.slice a 0 c,tg,f] w fun e w'=>e=.returned (.tuple #[.int .i64 0,.bool false])∧w'=w:=by
 go_enter Tryz.func195,Tryz.ntmps195
 go_wp2
 go_loopg [9,10,11] 0 (fun gg s9 s10 _ wr=>s9=.int .i64 0∧s10=.int .i64 0∧wr=w)
 case atStart=>exact⟨rfl,rfl,rfl⟩
 case round =>
  obtain⟨rfl,rfl,rfl⟩:=hrel
  go_wp2
  go_ret2
  exact⟨rfl,rfl⟩
theorem zqb(gb:Nat)(a:Option Addr)(c:Nat)(t:Int)(w:World)(hg:w.cell? ⟨gb,16,none⟩=some (.slice a 0 c)) :
  Calls Tryz.prog 145 #[.pointer (some ⟨gb,0,none⟩),.int .i64 t] w fun e w'=>e=.returned (.tuple #[.int .i64 0,.bool false])∧w'=w:=by
 have hC:=zld a c (.int .i64 t) (.func (.func 173) #[] #[]) w
 go_enter Tryz.func145,Tryz.ntmps145
 go_wp2_with fail
 refine hC.mono ?_
 rintro e w' ⟨rfl,rfl⟩
 clear hC
 go_wp2
 go_ret2
 exact⟨rfl,rfl⟩
theorem zmz(sb:Nat)(a:Option Addr)(c:Nat)(u:Value)(w:World)(hs:w.cell? ⟨sb,1,none⟩=some (.slice a 0 c)) :
  Calls Tryz.prog 175 #[.pointer (some ⟨sb,0,none⟩),u] w fun e w'=>e=.returned (.tuple #[.int .i64 0,.bool false])∧w'=w:=by
 have hC:=ziG a c u (.func (.func 196) #[] #[]) w
 go_enter Tryz.func175,Tryz.ntmps175
 go_wp2_with fail
 refine hC.mono ?_
 rintro e w' ⟨rfl,rfl⟩
 clear hC
 go_wp2
 go_ret2
 exact⟨rfl,rfl⟩
theorem zjs(sb:Nat)(a:Option Addr)(c:Nat)(u:Value)(w:World)(hs:w.cell? ⟨sb,1,none⟩=some (.slice a 0 c)) :
  Calls Tryz.prog 146 #[.pointer (some ⟨sb,0,none⟩),u] w fun e w'=>e=.returned (.bool true)∧w'=w:=by
 have hC:=zmz sb a c u w hs
 go_enter Tryz.func146,Tryz.ntmps146
 go_wp2_with fail
 refine hC.mono ?_
 rintro e w' ⟨rfl,rfl⟩
 clear hC
 go_wp2
 go_ret
 exact⟨rfl,rfl⟩
theorem zfc(sb b n c m:Nat)(zs:Nat→Nat)(K:Nat→List V3)(q2:Option Addr)(c2:Nat)(ls:List V3)(av tv:Value)(w:World)(hs:w.cell? ⟨sb,1,none⟩=some (.slice (some ⟨b,0,none⟩) n c))(hK:zkV w b n m zs K)(hl:ls.length=m)(h2:zaf w q2 ls)(hs2:∀v∈ls,v.2.2.size≤maxLen)
  (k:Nat)(hk:k<n)(hb1:∀j,j<k→keyC (K j) ls<0)(hb2:∀j,k≤j→j<n→0≤keyC (K j) ls)(h0:keyC (K k) ls=0) :
  Calls Tryz.prog 178 #[.pointer (some ⟨sb,0,none⟩),.slice q2 m c2,av,tv] w fun e w'=>e=.returned (.tuple #[.pointer (some ⟨zs k,0,none⟩),.nilIface])∧Below w.heap.size w w':=by
 have hsl:sb<w.heap.size:=by
  rcases Nat.lt_or_ge sb w.heap.size with h|h
  ·exact h
  ·simp[World.cell?,Array.getElem?_eq_none h] at hs
 have hC:=znN sb b n c m zs K q2 c2 ls w hs hK hl h2 hs2 k (by omega) hb1 hb2
 rw[h0,show (decide (k<n)&&((0:Int) == 0))=true by simp[hk]] at hC
 have hp:=hK.ptr k hk
 have hbl:=hK.lt
 have hn:=hK.le
 generalize zs k=z at hp ⊢
 clear hb1 hb2 hK h2 hs2 hl h0
 have hkz:(k:Int)<(n:Int):=by omega
 have hk0:(0:Int)≤(k:Int):=by omega
 go_enter Tryz.func178,Tryz.ntmps178
 go_wp2_with fail
 refine hC.mono ?_
 rintro e w' ⟨rfl,hB⟩
 have hs':w'.cell? ⟨sb,1,none⟩=some (.slice (some ⟨b,0,none⟩) n c):=by rw[hB.cell (p:=⟨sb,1,none⟩) hsl];exact hs
 have hp':w'.cell? ⟨b,k,none⟩=some (.pointer (some ⟨z,0,none⟩)):=by rw[hB.cell (p:=⟨b,k,none⟩) hbl];exact hp
 have HB:=(show Aside _ from hB)
 clear hC hB hs hp
 go_wp2
 go_ret2
 exact⟨rfl,HB.out⟩
end
def OkV(t:Int)(v:V3):Prop:=v.1=t∧chk v.1 v.2.1 v.2.2.data.toList=0
theorem OkV.text{v:V3}(h:OkV 3 v):v.2.1=0:=by
 obtain⟨h1,h2⟩:=h
 rw[h1] at h2
 unfold chk at h2
 split at h2
 ·cases h2
 ·split at h2
  ·cases h2
  ·split at h2
   ·cases h2
   ·split at h2
    ·cases h2
    ·next h=>simp at h;exact h
theorem OkV.other{t:Int}{v:V3}(h:OkV t v)(ht:t≠3):v.2.2.data.toList=[]:=by
 obtain⟨h1,h2⟩:=h
 rw[h1] at h2
 unfold chk at h2
 split at h2
 ·cases h2
 ·split at h2
  ·cases h2
  ·split at h2
   ·cases h2
   ·split at h2
    ·cases h2
    ·next h=>simp[ht] at h;simpa using h
theorem zcK{t:Int}{a b:V3}(ha:OkV t a)(hb:OkV t b):cmpV3 a b=if t=3 then cmpS a.2.2.data.toList b.2.2.data.toList else cmpI a.2.1 b.2.1:=by
 obtain⟨h1,h2⟩:=ha
 obtain⟨h3,h4⟩:=hb
 unfold cmpV3 cmpN cmpE
 rw[if_neg (by rw[if_neg (by simp[h2]),if_neg (by simp[h4]),if_neg (by simp[h1,h3])];simp),h1]
theorem zgT{a b:ByteArray}(h:a.data.toList=b.data.toList):a=b:=by
 obtain⟨a⟩:=a
 obtain⟨b⟩:=b
 congr 1
 exact Array.ext' h
theorem zcd(x y:List UInt8):(x<y∧cmpS x y=-1∧cmpS y x=1)∨(x=y∧cmpS x y=0)∨(y<x∧cmpS x y=1∧cmpS y x=-1):=by
 by_cases h1:x<y
 ·have h2:¬y<x:=fun h=>List.lt_irrefl _ (List.lt_trans h1 h)
  exact .inl ⟨h1,by rw[cmpS,if_pos h1],by rw[cmpS,if_neg h2,if_pos h1]⟩
 ·by_cases h2:y<x
  ·exact .inr (.inr ⟨h2,by rw[cmpS,if_neg h1,if_pos h2],by rw[cmpS,if_pos h2]⟩)
  ·exact .inr (.inl ⟨List.le_antisymm (List.not_lt.1 h2) (List.not_lt.1 h1),by rw[cmpS,if_neg h1,if_neg h2]⟩)
theorem zcc(x y:Int):(x<y∧cmpI x y=-1∧cmpI y x=1)∨(x=y∧cmpI x y=0)∨(y<x∧cmpI x y=1∧cmpI y x=-1):=by
 by_cases h1:x<y
 ·exact .inl ⟨h1,by rw[cmpI,if_pos h1],by rw[cmpI,if_neg (by omega),if_pos h1]⟩
 ·by_cases h2:y<x
  ·exact .inr (.inr ⟨h2,by rw[cmpI,if_neg h1,if_pos h2],by rw[cmpI,if_pos h2]⟩)
  ·exact .inr (.inl ⟨by omega,by rw[cmpI,if_neg h1,if_neg h2]⟩)
theorem zce{t:Int}{a b:V3}(ha:OkV t a)(hb:OkV t b):(cmpV3 a b=-1∧cmpV3 b a=1)∨(a=b∧cmpV3 a b=0)∨(cmpV3 a b=1∧cmpV3 b a=-1):=by
 rw[zcK ha hb,zcK hb ha]
 have e1:=ha.1
 have e2:=hb.1
 by_cases ht:t=3
 ·subst ht
  rw[if_pos rfl,if_pos rfl]
  rcases zcd a.2.2.data.toList b.2.2.data.toList with h|h|h
  ·exact .inl h.2
  ·refine .inr (.inl ⟨?_,h.2⟩)
   exact Prod.ext (e1.trans e2.symm) (Prod.ext (ha.text.trans hb.text.symm) (zgT h.1))
  ·exact .inr (.inr h.2)
 ·rw[if_neg ht,if_neg ht]
  rcases zcc a.2.1 b.2.1 with h|h|h
  ·exact .inl h.2
  ·refine .inr (.inl ⟨?_,h.2⟩)
   exact Prod.ext (e1.trans e2.symm) (Prod.ext h.1 (zgT ((ha.other ht).trans (hb.other ht).symm)))
  ·exact .inr (.inr h.2)
theorem zhJ{t:Int}{a b c:V3}(ha:OkV t a)(hb:OkV t b)(hc:OkV t c)(h1:cmpV3 a b<0)(h2:cmpV3 b c<0):cmpV3 a c<0:=by
 rw[zcK ha hb] at h1
 rw[zcK hb hc] at h2
 rw[zcK ha hc]
 by_cases ht:t=3
 ·subst ht
  rw[if_pos rfl] at *
  rcases zcd a.2.2.data.toList b.2.2.data.toList with h|h|h<;>rcases zcd b.2.2.data.toList c.2.2.data.toList with k|k|k<;>first|omega|(rw[cmpS,if_pos (List.lt_trans h.1 k.1)];decide)
 ·rw[if_neg ht] at *
  rcases zcc a.2.1 b.2.1 with h|h|h<;>rcases zcc b.2.1 c.2.1 with k|k|k<;>first|omega|(rw[cmpI,if_pos (Int.lt_trans h.1 k.1)];decide)
def OkK:List Int→List V3→Prop
 | [],[]=>True
 | t::ts,v::vs=>OkV t v∧OkK ts vs
 | _,_=>False
theorem zbJ:∀{ts:List Int} {a b:List V3},OkK ts a→OkK ts b→(keyC a b<0∧0<keyC b a)∨(a=b∧keyC a b=0)∨(0<keyC a b∧keyC b a<0)
 | [],[],[],_,_=>.inr (.inl ⟨rfl,rfl⟩)
 | t::ts,x::l,y::m,ha,hb=>by
  have ih:=zbJ ha.2 hb.2
  rcases zce ha.1 hb.1 with h|h|h
  ·left
   rw[keyC,keyC,if_pos (by omega),if_pos (by omega)]
   omega
  ·obtain⟨rfl,h⟩:=h
   rw[keyC,keyC,if_neg (by omega),if_neg (by omega)]
   rcases ih with k|k|k
   ·exact .inl k
   ·exact .inr (.inl ⟨by rw[k.1],k.2⟩)
   ·exact .inr (.inr k)
  ·right;right
   rw[keyC,keyC,if_pos (by omega),if_pos (by omega)]
   omega
 | [],_::_,_,ha,_=>ha.elim
 | [],[],_::_,_,hb=>hb.elim
 | _::_,[],_,ha,_=>ha.elim
 | _::_,_::_,[],_,hb=>hb.elim
theorem zfj:∀{ts:List Int} {a b c:List V3},OkK ts a→OkK ts b→OkK ts c→keyC a b<0→keyC b c<0→keyC a c<0
 | [],[],[],[],_,_,_,h,_=>by simp[keyC] at h
 | t::ts,x::l,y::m,z::n,ha,hb,hc,h1,h2=>by
  rw[keyC] at h1 h2 ⊢
  rcases zce ha.1 hb.1 with h|h|h
  ·rcases zce hb.1 hc.1 with k|k|k
   ·have:=zhJ ha.1 hb.1 hc.1 (by omega) (by omega)
    rw[if_pos (by omega)];exact this
   ·obtain⟨rfl,k⟩:=k
    rw[if_pos (by omega)];omega
   ·rw[if_pos (by omega)] at h2;omega
  ·obtain⟨rfl,h⟩:=h
   rw[if_neg (by omega)] at h1
   by_cases hz:cmpV3 x z=0
   ·rw[if_neg (by omega)] at h2 ⊢
    exact zfj ha.2 hb.2 hc.2 h1 h2
   ·rw[if_pos hz] at h2 ⊢
    exact h2
  ·rw[if_pos (by omega)] at h1;omega
 | [],_::_,_,_,ha,_,_,_,_=>ha.elim
 | [],[],_::_,_,_,hb,_,_,_=>hb.elim
 | [],[],[],_::_,_,_,hc,_,_=>hc.elim
 | _::_,[],_,_,ha,_,_,_,_=>ha.elim
 | _::_,_::_,[],_,_,hb,_,_,_=>hb.elim
 | _::_,_::_,_::_,[],_,_,hc,_,_=>hc.elim
def inM(x:Int):Prop:=-9223372036854775808≤x∧x≤9223372036854775807
def ChkC:Prop:=∀(size slide:Int) (w:World),inM size→inM slide→Calls Tryz.prog 100 #[.int .i64 size,.int .i64 slide] w fun e w'=>e=.returned (errV (wdE size slide))∧Below w.heap.size w w'
def StC:Prop:=∀(at_ size slide:Int) (w:World),inM at_→inM size→inM slide→Calls Tryz.prog 110 #[.int .i64 at_,.int .i64 size,.int .i64 slide] w fun e w'=>(∃u,e=.returned (.tuple #[u,errV (stE at_ size slide)])∧IntA w' u (if stE at_ size slide=0 then stP at_ size slide else []))∧Below w.heap.size w w'
theorem zot:¬(1:Int)=0:=by decide
theorem zhB{size slide:Int}(h:wdB size slide):wdE size slide=0:=by rw[wdE,if_pos h]
theorem zkR{size slide:Int}(h:¬wdB size slide):wdE size slide=1:=by rw[wdE,if_neg h]
theorem zrA{at_ size slide:Int}(h:wdB size slide)(h2:0≤at_∧at_≤1000000):stE at_ size slide=0:=by rw[stE,if_pos ⟨h,h2⟩]
theorem zoT{at_ size slide:Int}(h:¬(wdB size slide∧0≤at_∧at_≤1000000)):stE at_ size slide=1:=by rw[stE,if_neg h]
end Go.Proofs.YtopghagjmdbglaaGreatDoor
