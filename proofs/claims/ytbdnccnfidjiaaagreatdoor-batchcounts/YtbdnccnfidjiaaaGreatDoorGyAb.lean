/-
  ErrIs, TreeEx, ButM, TreeSz.
-/
import Derived.Test.YtbdnccnfidjiaaaGreatDoorProg
import Derived.WalkKit
import Derived.Below
import Derived.LaidEql
import Derived.Stop.Asserts
import Derived.RowKitTokens
import Derived.Lib.Strings
import Derived.Laws.RangeAny
import Derived.Deep.DeepCutAuto
import Derived.WalkSmall
import Derived.Deep.Heap
namespace Go.Proofs.YtbdnccnfidjiaaaGreatDoor
open Go.RowKit
set_option linter.unusedVariables false
set_option linter.unusedSimpArgs false
set_option maxHeartbeats 8000000
section
open Go.Extern.Stop Go.Stop Go.Extern
theorem Is.typeOfE(v:Value)(w:World):(ReflectliteType.typeOf #[.iface 35 v]).run Tryz.prog w=.ok (.iface 119 (.agg #[.pointer (some ⟨12,35,none⟩)])) w:=by kernel_rfl
theorem Is.methodComparable (h : Value) (w : World) : (Go.method 488 119 (.agg #[h]) "Comparable").run Tryz.prog w = .ok (287, .agg #[h]) w := by kernel_rfl
theorem Is.no1(v:Value)(xT:TypeId)(w:World):(Instr.typeAssert (.iface 35 v) xT 121 true).run Tryz.prog w=.ok (.tuple #[.nilIface,.bool false]) w:=run_typeAssert_lacksB Tryz.underlying121 (by kernel_rfl) (by kernel_rfl) v xT w
theorem Is.no2(v:Value)(xT:TypeId)(w:World):(Instr.typeAssert (.iface 35 v) xT 124 true).run Tryz.prog w=.ok (.tuple #[.nilIface,.bool false]) w:=run_typeAssert_lacksB Tryz.underlying124 (by kernel_rfl) (by kernel_rfl) v xT w
theorem Is.no3(v:Value)(xT:TypeId)(w:World):(Instr.typeAssert (.iface 35 v) xT 126 true).run Tryz.prog w=.ok (.tuple #[.nilIface,.bool false]) w:=run_typeAssert_lacksB Tryz.underlying126 (by kernel_rfl) (by kernel_rfl) v xT w
theorem Is.eql(n m:Int)(W:World):Sem.run Tryz.prog (binOp .eql 45 (.iface 35 (.int .i64 n)) (.iface 35 (.int .i64 m))) W=.ok (.bool (n == m)) W:=by kernel_rfl
theorem Is.guard(n m:Int)(W:World)(j k:Nat):Sem.run Tryz.prog (eqGuard .eql 45 (.tmp j) (.tmp k) (.iface 35 (.int .i64 n)) (.iface 35 (.int .i64 m))) W=.ok () W:=by kernel_rfl
set_option maxRecDepth 20000 in
theorem zti(n m:Int)(w:World) :
  Calls Tryz.prog 27 #[.iface 35 (.int .i64 n),.iface 35 (.int .i64 m),.bool true] w fun e w'=>e=.returned (.bool (n == m))∧w'=w:=by
 by_cases h:n=m
 ·have hb:(n == m)=true:=by simpa using h
  rw[hb]
  have q1:=Is.eql n m
  rw[hb] at q1
  have q2:=Is.guard n m
  have a1:=Is.no1
  have a2:=Is.no2
  have a3:=Is.no3
  clear h hb
  go_enter Tryz.func27,Tryz.ntmps27
  go_wp2
  refine wp_loop_rounds 1 ?_
  rw[rounds_succ]
  go_wp2
  go_ret
  exact⟨rfl,rfl⟩
 ·have hb:(n == m)=false:=by simpa using h
  rw[hb]
  have q1:=Is.eql n m
  rw[hb] at q1
  have q2:=Is.guard n m
  have a1:=Is.no1
  have a2:=Is.no2
  have a3:=Is.no3
  clear h hb
  go_enter Tryz.func27,Tryz.ntmps27
  go_wp2
  refine wp_loop_rounds 1 ?_
  rw[rounds_succ]
  go_wp2
  go_ret
  exact⟨rfl,rfl⟩
theorem Is.comparable(w:World):(ReflectliteType.method (fun t=>do
  Rtype.noPackHeld "Comparable" t
  (fun a=>Value.bool a.comparable) <$> typeInfo t) #[.agg #[.pointer (some ⟨12,35,none⟩)]]).run Tryz.prog w=.ok (.bool true) w:=by kernel_rfl
set_option maxRecDepth 20000 in
theorem zbx(n m:Int)(w:World) :
  Calls Tryz.prog 12 #[.iface 35 (.int .i64 n),.iface 35 (.int .i64 m)] w fun e w'=>e=.returned (.bool (n == m))∧w'=w:=by
 have h10:=@run_callFunc_extern Tryz.prog 26 _ ReflectliteType.typeOf Tryz.func26 (by kernel_rfl) (by kernel_rfl) (by kernel_rfl) (by kernel_rfl)
 have h11 := @run_callFunc_extern Tryz.prog 287 _ (ReflectliteType.method (fun t => do Rtype.noPackHeld "Comparable" t; pure (.bool (← typeInfo t).comparable))) Tryz.func287 (by kernel_rfl) (by kernel_rfl) (by kernel_rfl) (by kernel_rfl)
 have tO:=Is.typeOfE
 have mC:=Is.methodComparable
 have cC:=Is.comparable
 go_enter Tryz.func12,Tryz.ntmps12
 go_wp2_with fail
 refine (zti n m _).mono ?_
 rintro e w' ⟨rfl,rfl⟩
 go_wp2
 go_ret
 exact⟨rfl,rfl⟩
end
--BEGIN
inductive Ex where
 | node (op nm:ByteArray) (vt vn:Int) (vs:ByteArray) (pos:Int) (args:List Ex)
theorem Ex.ind{P:Ex→Prop}(h:∀op nm vt vn vs pos args,(∀y∈args,P y)→P (.node op nm vt vn vs pos args)):∀x,P x
 | .node op nm vt vn vs pos args=>h op nm vt vn vs pos args (fun y hy=>Ex.ind h y)
termination_by x=>SizeOf.sizeOf x
decreasing_by
 have:=List.sizeOf_lt_of_mem hy
 simp
 omega
def Ex.args:Ex→List Ex
 | .node _ _ _ _ _ _ l=>l
def Ex.op:Ex→ByteArray
 | .node o _ _ _ _ _ _=>o
def Ex.nm:Ex→ByteArray
 | .node _ o _ _ _ _ _=>o
def Ex.vt:Ex→Int
 | .node _ _ o _ _ _ _=>o
def Ex.vn:Ex→Int
 | .node _ _ _ o _ _ _=>o
def Ex.vs:Ex→ByteArray
 | .node _ _ _ _ o _ _=>o
def Ex.pos:Ex→Int
 | .node _ _ _ _ _ o _=>o
mutual
def ExIn(w:World)(lo:Nat→Prop):Value→Ex→Prop
 | v,.node op nm vt vn vs pos args=>∃p c,v=.agg #[.string op,.string nm,.int .i64 vt,.int .i64 vn,.string vs,.slice p args.length c,.int .i64 pos]∧(args.length≤maxLen∧args.length≤c)∧op.size≤maxLen∧nm.size≤maxLen∧vs.size≤maxLen∧(args.length=0∨∃b off,p=some ⟨b,off,none⟩∧b<w.heap.size∧lo b∧ExsIn w lo b off args)
def ExsIn(w:World)(lo:Nat→Prop)(b:Nat):Nat→List Ex→Prop
 | _,[]=>True
 | off,x::xs=>(∃v0 v1 v2 v3 v4 v5 v6,w.cell? ⟨b,off,none⟩=some v0∧w.cell? ⟨b,off+1,none⟩=some v1∧w.cell? ⟨b,off+2,none⟩=some v2∧w.cell? ⟨b,off+3,none⟩=some v3∧w.cell? ⟨b,off+4,none⟩=some v4∧w.cell? ⟨b,off+5,none⟩=some v5∧w.cell? ⟨b,off+6,none⟩=some v6∧ExIn w lo (.agg #[v0,v1,v2,v3,v4,v5,v6]) x)∧ExsIn w lo b (off+7) xs
end
theorem zcj(w:World)(lo:Nat→Prop)(b:Nat):∀(xs:List Ex) (off:Nat),ExsIn w lo b off xs→∀j (h:j<xs.length),∃v0 v1 v2 v3 v4 v5 v6,w.cell? ⟨b,off+j*7,none⟩=some v0∧w.cell? ⟨b,off+j*7+1,none⟩=some v1∧w.cell? ⟨b,off+j*7+2,none⟩=some v2∧w.cell? ⟨b,off+j*7+3,none⟩=some v3∧w.cell? ⟨b,off+j*7+4,none⟩=some v4∧w.cell? ⟨b,off+j*7+5,none⟩=some v5∧w.cell? ⟨b,off+j*7+6,none⟩=some v6∧ExIn w lo (.agg #[v0,v1,v2,v3,v4,v5,v6]) xs[j]
 | [],_,_,j,h=>absurd h (by simp)
 | x::xs,off,hs,0,_=>by
  rw[ExsIn] at hs
  obtain⟨v0,v1,v2,v3,v4,v5,v6,h⟩:=hs.1
  refine⟨v0,v1,v2,v3,v4,v5,v6,?_⟩
  simp only[Nat.zero_mul,Nat.add_zero,List.getElem_cons_zero]
  exact h
 | x::xs,off,hs,j+1,h=>by
  rw[ExsIn] at hs
  have ih:=zcj w lo b xs (off+7) hs.2 j (by simpa using h)
  simp only[show off+7+j*7=off+(j+1)*7 from by omega] at ih
  simp only[List.getElem_cons_succ]
  exact ih
theorem zby(w:World)(lo:Nat→Prop)(b:Nat):∀(xs:List Ex) (off:Nat),(∀j (h:j<xs.length),∃v0 v1 v2 v3 v4 v5 v6,w.cell? ⟨b,off+j*7,none⟩=some v0∧w.cell? ⟨b,off+j*7+1,none⟩=some v1∧w.cell? ⟨b,off+j*7+2,none⟩=some v2∧w.cell? ⟨b,off+j*7+3,none⟩=some v3∧w.cell? ⟨b,off+j*7+4,none⟩=some v4∧w.cell? ⟨b,off+j*7+5,none⟩=some v5∧w.cell? ⟨b,off+j*7+6,none⟩=some v6∧ExIn w lo (.agg #[v0,v1,v2,v3,v4,v5,v6]) xs[j])→ExsIn w lo b off xs
 | [],_,_=>by rw[ExsIn];trivial
 | x::xs,off,hs=>by
  rw[ExsIn]
  have h0:=hs 0 (by simp)
  simp only[Nat.zero_mul,Nat.add_zero,List.getElem_cons_zero] at h0
  refine⟨h0,zby w lo b xs (off+7) fun j hj=>?_⟩
  have:=hs (j+1) (by simpa using hj)
  simp only[show off+(j+1)*7=off+7+j*7 from by omega,List.getElem_cons_succ] at this
  exact this
theorem ExIn.keep{w w':World}{lo:Nat→Prop}(hz:w.heap.size≤w'.heap.size)(hk:∀b o:Nat,lo b→b<w.heap.size→w'.cell? ⟨b,o,none⟩=w.cell? ⟨b,o,none⟩):∀(x:Ex) (v:Value),ExIn w lo v x→ExIn w' lo v x:=by
 refine Ex.ind fun op nm vt vn vs pos args ih v h=>?_
 rw[ExIn] at h ⊢
 obtain⟨p,c,rfl,h1,h2,h3,h4,h5⟩:=h
 refine⟨p,c,rfl,h1,h2,h3,h4,?_⟩
 rcases h5 with h5|⟨b,off,rfl,hbl,hlo,h5⟩
 ·exact .inl h5
 ·refine .inr ⟨b,off,rfl,by omega,hlo,zby w' lo b args off fun j hj=>?_⟩
  obtain⟨v0,v1,v2,v3,v4,v5,v6,e0,e1,e2,e3,e4,e5,e6,hx⟩:=zcj w lo b args off h5 j hj
  have key:∀o:Nat,w'.cell? ⟨b,o,none⟩=w.cell? ⟨b,o,none⟩:=fun o=>hk b o hlo hbl
  exact⟨v0,v1,v2,v3,v4,v5,v6,by rw[key];exact e0,by rw[key];exact e1,by rw[key];exact e2,by rw[key];exact e3,by rw[key];exact e4,by rw[key];exact e5,by rw[key];exact e6,ih _ (List.getElem_mem hj) _ hx⟩
theorem ExIn.on{w w':World}{lo:Nat→Prop}{x:Ex}{v:Value}(h:ExIn w lo v x)(hb:Below w.heap.size w w'):ExIn w' lo v x :=
 ExIn.keep hb.size (fun b o _ hbl=>hb.cell (p:=⟨b,o,none⟩) hbl) x v h
theorem ExIn.low{w:World}{lo lo':Nat→Prop}(hl:∀b,b<w.heap.size→lo b→lo' b):∀(x:Ex) (v:Value),ExIn w lo v x→ExIn w lo' v x:=by
 refine Ex.ind fun op nm vt vn vs pos args ih v h=>?_
 rw[ExIn] at h ⊢
 obtain⟨p,c,rfl,h1,h2,h3,h4,h5⟩:=h
 refine⟨p,c,rfl,h1,h2,h3,h4,?_⟩
 rcases h5 with h5|⟨b,off,rfl,hbl,hlo,h5⟩
 ·exact .inl h5
 ·refine .inr ⟨b,off,rfl,hbl,hl b hbl hlo,zby w lo' b args off fun j hj=>?_⟩
  obtain⟨v0,v1,v2,v3,v4,v5,v6,e0,e1,e2,e3,e4,e5,e6,hx⟩:=zcj w lo b args off h5 j hj
  exact⟨v0,v1,v2,v3,v4,v5,v6,e0,e1,e2,e3,e4,e5,e6,ih _ (List.getElem_mem hj) _ hx⟩
mutual
def Ex.size:Ex→Nat
 | .node _ _ _ _ _ _ l=>1+Ex.sizes l
def Ex.sizes:List Ex→Nat
 | []=>0
 | x::xs=>x.size+Ex.sizes xs
end
mutual
def Ex.deep:Ex→Nat
 | .node _ _ _ _ _ _ l=>Ex.deeps l+1
def Ex.deeps:List Ex→Nat
 | []=>0
 | x::xs=>max x.deep (Ex.deeps xs)
end
--END
structure But(r:Nat)(w w':World):Prop where
 below:Below r w w'
 size:w.heap.size≤w'.heap.size
 kept:∀k,k<w.heap.size→k≠r→w'.heap[k]?=w.heap[k]?
theorem But.refl(r:Nat)(w:World):But r w w:=⟨Below.refl _ _,Nat.le_refl _,fun _ _ _=>rfl⟩
theorem But.trans{r:Nat}{w w1 w2:World}(h:But r w w1)(k:But r w1 w2):But r w w2 :=
 ⟨h.below.trans k.below,Nat.le_trans h.size k.size,fun b hb hr=>by rw[k.kept b (by have:=h.size;omega) hr,h.kept b hb hr]⟩
theorem But.set{r:Nat}{w w1:World}(h:But r w w1)(o:Nat)(v:Value):But r w (w1.setCell ⟨r,o,none⟩ v) :=
 ⟨h.below.setCell (p:=⟨r,o,none⟩) (Nat.le_refl _) v,by have:=h.size;simpa [World.setCell] using this,fun k hk hr=>by rw[Below.heap_setCell _ _ _ _ (fun e=>hr e)];exact h.kept k hk hr⟩
theorem But.cell{r:Nat}{w w1:World}(h:But r w w1){b:Nat}(o:Nat)(hb:b<w.heap.size)(hr:b≠r):w1.cell? ⟨b,o,none⟩=w.cell? ⟨b,o,none⟩:=by
 simp only[World.cell?,h.kept b hb hr]
theorem But.of_below'{r:Nat}{w w':World}(h:Below w.heap.size w w')(hr:r≤w.heap.size):But r w w':=⟨h.mono hr,h.size,fun k hk _=>h.block k hk⟩
theorem But.setNew{r:Nat}{w w1:World}(h:But r w w1)(z o:Nat)(hz:w.heap.size≤z)(hr:r≤z)(v:Value):But r w (w1.setCell ⟨z,o,none⟩ v) :=
 ⟨h.below.setCell (p:=⟨z,o,none⟩) hr v,by have:=h.size;simpa [World.setCell] using this,fun k hk hkr=>by rw[Below.heap_setCell _ _ _ _ (fun e=>by simp at e;omega)];exact h.kept k hk hkr⟩
theorem But.alloc{r:Nat}{w w1:World}(h:But r w w1)(hr:r≤w1.heap.size)(o:Obj):But r w (w1.alloc o) :=
 ⟨h.below.alloc hr o,by have:=h.size;simp;omega,fun k hk hkr=>by
  rw[((Below.refl w1.heap.size w1).alloc (Nat.le_refl _) o).block k (by have:=h.size;omega)];exact h.kept k hk hkr⟩
def Ex.small(x:Ex):Bool:=decide (x.size≤200)&&decide (x.deep≤30)
end Go.Proofs.YtbdnccnfidjiaaaGreatDoor
