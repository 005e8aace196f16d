/-
  TreeEx, Reckon, TreeSz.
-/
import Derived.Test.YtopghagjmdbglaaGreatDoorProg
import Derived.WalkKit
import Derived.Below
import Derived.Lib.Strings
import Derived.Laws.RangeAny
import Derived.Deep.DeepCutAuto
import Derived.RowKit
namespace Go.Proofs.YtopghagjmdbglaaGreatDoor
open Go.RowKit
set_option linter.unusedVariables false
set_option linter.unusedSimpArgs false
set_option maxHeartbeats 8000000
--BEGIN
inductive Ex where
 | node (op nm:ByteArray) (vt vn:Int) (vs:ByteArray) (pos:Int) (args:List Ex)
theorem Ex.ind{P:Ex→Prop}(h:∀op nm vt vn vs pos args,(∀y∈args,P y)→P (.node op nm vt vn vs pos args)):∀x,P x
 | .node op nm vt vn vs pos args=>h op nm vt vn vs pos args (fun y hy=>Ex.ind h y)
termination_by x=>SizeOf.sizeOf x
decreasing_by
 have:=List.sizeOf_lt_of_mem hy
 simp
 omega
def Ex.args:Ex→List Ex
 | .node _ _ _ _ _ _ l=>l
def Ex.op:Ex→ByteArray
 | .node o _ _ _ _ _ _=>o
def Ex.nm:Ex→ByteArray
 | .node _ o _ _ _ _ _=>o
def Ex.vt:Ex→Int
 | .node _ _ o _ _ _ _=>o
def Ex.vn:Ex→Int
 | .node _ _ _ o _ _ _=>o
def Ex.vs:Ex→ByteArray
 | .node _ _ _ _ o _ _=>o
def Ex.pos:Ex→Int
 | .node _ _ _ _ _ o _=>o
mutual
def ExIn(w:World)(lo:Nat→Prop):Value→Ex→Prop
 | v,.node op nm vt vn vs pos args=>∃p c,v=.agg #[.string op,.string nm,.int .i64 vt,.int .i64 vn,.string vs,.slice p args.length c,.int .i64 pos]∧(args.length≤maxLen∧args.length≤c)∧op.size≤maxLen∧nm.size≤maxLen∧vs.size≤maxLen∧(args.length=0∨∃b off,p=some ⟨b,off,none⟩∧b<w.heap.size∧lo b∧ExsIn w lo b off args)
def ExsIn(w:World)(lo:Nat→Prop)(b:Nat):Nat→List Ex→Prop
 | _,[]=>True
 | off,x::xs=>(∃v0 v1 v2 v3 v4 v5 v6,w.cell? ⟨b,off,none⟩=some v0∧w.cell? ⟨b,off+1,none⟩=some v1∧w.cell? ⟨b,off+2,none⟩=some v2∧w.cell? ⟨b,off+3,none⟩=some v3∧w.cell? ⟨b,off+4,none⟩=some v4∧w.cell? ⟨b,off+5,none⟩=some v5∧w.cell? ⟨b,off+6,none⟩=some v6∧ExIn w lo (.agg #[v0,v1,v2,v3,v4,v5,v6]) x)∧ExsIn w lo b (off+7) xs
end
theorem zcg(w:World)(lo:Nat→Prop)(b:Nat):∀(xs:List Ex) (off:Nat),ExsIn w lo b off xs→∀j (h:j<xs.length),∃v0 v1 v2 v3 v4 v5 v6,w.cell? ⟨b,off+j*7,none⟩=some v0∧w.cell? ⟨b,off+j*7+1,none⟩=some v1∧w.cell? ⟨b,off+j*7+2,none⟩=some v2∧w.cell? ⟨b,off+j*7+3,none⟩=some v3∧w.cell? ⟨b,off+j*7+4,none⟩=some v4∧w.cell? ⟨b,off+j*7+5,none⟩=some v5∧w.cell? ⟨b,off+j*7+6,none⟩=some v6∧ExIn w lo (.agg #[v0,v1,v2,v3,v4,v5,v6]) xs[j]
 | [],_,_,j,h=>absurd h (by simp)
 | x::xs,off,hs,0,_=>by
  rw[ExsIn] at hs
  obtain⟨v0,v1,v2,v3,v4,v5,v6,h⟩:=hs.1
  refine⟨v0,v1,v2,v3,v4,v5,v6,?_⟩
  simp only[Nat.zero_mul,Nat.add_zero,List.getElem_cons_zero]
  exact h
 | x::xs,off,hs,j+1,h=>by
  rw[ExsIn] at hs
  have ih:=zcg w lo b xs (off+7) hs.2 j (by simpa using h)
  simp only[show off+7+j*7=off+(j+1)*7 from by omega] at ih
  simp only[List.getElem_cons_succ]
  exact ih
theorem zbw(w:World)(lo:Nat→Prop)(b:Nat):∀(xs:List Ex) (off:Nat),(∀j (h:j<xs.length),∃v0 v1 v2 v3 v4 v5 v6,w.cell? ⟨b,off+j*7,none⟩=some v0∧w.cell? ⟨b,off+j*7+1,none⟩=some v1∧w.cell? ⟨b,off+j*7+2,none⟩=some v2∧w.cell? ⟨b,off+j*7+3,none⟩=some v3∧w.cell? ⟨b,off+j*7+4,none⟩=some v4∧w.cell? ⟨b,off+j*7+5,none⟩=some v5∧w.cell? ⟨b,off+j*7+6,none⟩=some v6∧ExIn w lo (.agg #[v0,v1,v2,v3,v4,v5,v6]) xs[j])→ExsIn w lo b off xs
 | [],_,_=>by rw[ExsIn];trivial
 | x::xs,off,hs=>by
  rw[ExsIn]
  have h0:=hs 0 (by simp)
  simp only[Nat.zero_mul,Nat.add_zero,List.getElem_cons_zero] at h0
  refine⟨h0,zbw w lo b xs (off+7) fun j hj=>?_⟩
  have:=hs (j+1) (by simpa using hj)
  simp only[show off+(j+1)*7=off+7+j*7 from by omega,List.getElem_cons_succ] at this
  exact this
theorem ExIn.keep{w w':World}{lo:Nat→Prop}(hz:w.heap.size≤w'.heap.size)(hk:∀b o:Nat,lo b→b<w.heap.size→w'.cell? ⟨b,o,none⟩=w.cell? ⟨b,o,none⟩):∀(x:Ex) (v:Value),ExIn w lo v x→ExIn w' lo v x:=by
 refine Ex.ind fun op nm vt vn vs pos args ih v h=>?_
 rw[ExIn] at h ⊢
 obtain⟨p,c,rfl,h1,h2,h3,h4,h5⟩:=h
 refine⟨p,c,rfl,h1,h2,h3,h4,?_⟩
 rcases h5 with h5|⟨b,off,rfl,hbl,hlo,h5⟩
 ·exact .inl h5
 ·refine .inr ⟨b,off,rfl,by omega,hlo,zbw w' lo b args off fun j hj=>?_⟩
  obtain⟨v0,v1,v2,v3,v4,v5,v6,e0,e1,e2,e3,e4,e5,e6,hx⟩:=zcg w lo b args off h5 j hj
  have key:∀o:Nat,w'.cell? ⟨b,o,none⟩=w.cell? ⟨b,o,none⟩:=fun o=>hk b o hlo hbl
  exact⟨v0,v1,v2,v3,v4,v5,v6,by rw[key];exact e0,by rw[key];exact e1,by rw[key];exact e2,by rw[key];exact e3,by rw[key];exact e4,by rw[key];exact e5,by rw[key];exact e6,ih _ (List.getElem_mem hj) _ hx⟩
theorem ExIn.on{w w':World}{lo:Nat→Prop}{x:Ex}{v:Value}(h:ExIn w lo v x)(hb:Below w.heap.size w w'):ExIn w' lo v x :=
 ExIn.keep hb.size (fun b o _ hbl=>hb.cell (p:=⟨b,o,none⟩) hbl) x v h
theorem ExIn.low{w:World}{lo lo':Nat→Prop}(hl:∀b,b<w.heap.size→lo b→lo' b):∀(x:Ex) (v:Value),ExIn w lo v x→ExIn w lo' v x:=by
 refine Ex.ind fun op nm vt vn vs pos args ih v h=>?_
 rw[ExIn] at h ⊢
 obtain⟨p,c,rfl,h1,h2,h3,h4,h5⟩:=h
 refine⟨p,c,rfl,h1,h2,h3,h4,?_⟩
 rcases h5 with h5|⟨b,off,rfl,hbl,hlo,h5⟩
 ·exact .inl h5
 ·refine .inr ⟨b,off,rfl,hbl,hl b hbl hlo,zbw w lo' b args off fun j hj=>?_⟩
  obtain⟨v0,v1,v2,v3,v4,v5,v6,e0,e1,e2,e3,e4,e5,e6,hx⟩:=zcg w lo b args off h5 j hj
  exact⟨v0,v1,v2,v3,v4,v5,v6,e0,e1,e2,e3,e4,e5,e6,ih _ (List.getElem_mem hj) _ hx⟩
mutual
def Ex.size:Ex→Nat
 | .node _ _ _ _ _ _ l=>1+Ex.sizes l
def Ex.sizes:List Ex→Nat
 | []=>0
 | x::xs=>x.size+Ex.sizes xs
end
mutual
def Ex.deep:Ex→Nat
 | .node _ _ _ _ _ _ l=>Ex.deeps l+1
def Ex.deeps:List Ex→Nat
 | []=>0
 | x::xs=>max x.deep (Ex.deeps xs)
end
--END
theorem zsf(a b:Int)(w:World)(ha:-9223372036854775808≤a∧a≤9223372036854775807)(hb:-9223372036854775808≤b∧b≤9223372036854775807)
  (hn:-9223372036854775808≤a+b∧a+b≤9223372036854775807) :
  Calls Tryz.prog 251 #[.int .i64 a,.int .i64 b] w fun e w'=>e=.returned (.tuple #[.int .i64 (a+b),.nilIface])∧w'=w:=by
 go_enter Tryz.func251,Tryz.ntmps251
 go_wp2
 all_goals first|(exfalso;omega)|(go_ret2;exact⟨rfl,rfl⟩)
theorem zsP(a b:Int)(w:World)(ha:-9223372036854775808≤a∧a≤9223372036854775807)(hb:-9223372036854775808≤b∧b≤9223372036854775807)
  (hn:-9223372036854775808≤a+b∧a+b≤9223372036854775807) :
  Calls Tryz.prog 238 #[.string { data:=#[43] },.int .i64 a,.int .i64 b] w fun e w'=>e=.returned (.tuple #[.int .i64 (a+b),.nilIface])∧w'=w:=by
 go_enter Tryz.func238,Tryz.ntmps238
 go_wp2_with (first|(go_at_call 251;refine (zsf a b _ ha hb hn).mono ?_;rintro e w' ⟨rfl,rfl⟩))
 go_ret2;exact⟨rfl,rfl⟩
def Ex.small(x:Ex):Bool:=decide (x.size≤200)&&decide (x.deep≤30)
end Go.Proofs.YtopghagjmdbglaaGreatDoor
