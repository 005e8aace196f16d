/-
  ErrIs, ButM, Clone.
-/
import Derived.Test.YtopghagjmdbglaaGreatDoorProg
import Derived.WalkKit
import Derived.Below
import Derived.LaidEql
import Derived.Stop.Asserts
import Derived.RowKitTokens
import Derived.WalkSmall
import Derived.Deep.Heap
import Derived.Test.YtopghagjmdbglaaGreatDoorYShelf
namespace Go.Proofs.YtopghagjmdbglaaGreatDoor
open Go.RowKit
set_option linter.unusedVariables false
set_option linter.unusedSimpArgs false
set_option maxHeartbeats 8000000
section
open Go.Extern.Stop Go.Stop Go.Extern
theorem Is.typeOfE(v:Value)(w:World):(ReflectliteType.typeOf #[.iface 35 v]).run Tryz.prog w=.ok (.iface 127 (.agg #[.pointer (some ⟨12,35,none⟩)])) w:=by kernel_rfl
theorem Is.methodComparable (h : Value) (w : World) : (Go.method 494 127 (.agg #[h]) "Comparable").run Tryz.prog w = .ok (291, .agg #[h]) w := by kernel_rfl
theorem Is.no1(v:Value)(xT:TypeId)(w:World):(Instr.typeAssert (.iface 35 v) xT 129 true).run Tryz.prog w=.ok (.tuple #[.nilIface,.bool false]) w:=run_typeAssert_lacksB Tryz.underlying129 (by kernel_rfl) (by kernel_rfl) v xT w
theorem Is.no2(v:Value)(xT:TypeId)(w:World):(Instr.typeAssert (.iface 35 v) xT 132 true).run Tryz.prog w=.ok (.tuple #[.nilIface,.bool false]) w:=run_typeAssert_lacksB Tryz.underlying132 (by kernel_rfl) (by kernel_rfl) v xT w
theorem Is.no3(v:Value)(xT:TypeId)(w:World):(Instr.typeAssert (.iface 35 v) xT 134 true).run Tryz.prog w=.ok (.tuple #[.nilIface,.bool false]) w:=run_typeAssert_lacksB Tryz.underlying134 (by kernel_rfl) (by kernel_rfl) v xT w
theorem Is.eql(n m:Int)(W:World):Sem.run Tryz.prog (binOp .eql 42 (.iface 35 (.int .i64 n)) (.iface 35 (.int .i64 m))) W=.ok (.bool (n == m)) W:=by kernel_rfl
theorem Is.guard(n m:Int)(W:World)(j k:Nat):Sem.run Tryz.prog (eqGuard .eql 42 (.tmp j) (.tmp k) (.iface 35 (.int .i64 n)) (.iface 35 (.int .i64 m))) W=.ok () W:=by kernel_rfl
set_option maxRecDepth 20000 in
theorem zsA(n m:Int)(w:World) :
  Calls Tryz.prog 32 #[.iface 35 (.int .i64 n),.iface 35 (.int .i64 m),.bool true] w fun e w'=>e=.returned (.bool (n == m))∧w'=w:=by
 by_cases h:n=m
 ·have hb:(n == m)=true:=by simpa using h
  rw[hb]
  have q1:=Is.eql n m
  rw[hb] at q1
  have q2:=Is.guard n m
  have a1:=Is.no1
  have a2:=Is.no2
  have a3:=Is.no3
  clear h hb
  go_enter Tryz.func32,Tryz.ntmps32
  go_wp2
  refine wp_loop_rounds 1 ?_
  rw[rounds_succ]
  go_wp2
  go_ret
  exact⟨rfl,rfl⟩
 ·have hb:(n == m)=false:=by simpa using h
  rw[hb]
  have q1:=Is.eql n m
  rw[hb] at q1
  have q2:=Is.guard n m
  have a1:=Is.no1
  have a2:=Is.no2
  have a3:=Is.no3
  clear h hb
  go_enter Tryz.func32,Tryz.ntmps32
  go_wp2
  refine wp_loop_rounds 1 ?_
  rw[rounds_succ]
  go_wp2
  go_ret
  exact⟨rfl,rfl⟩
theorem Is.comparable(w:World):(ReflectliteType.method (fun t=>do
  Rtype.noPackHeld "Comparable" t
  (fun a=>Value.bool a.comparable) <$> typeInfo t) #[.agg #[.pointer (some ⟨12,35,none⟩)]]).run Tryz.prog w=.ok (.bool true) w:=by kernel_rfl
set_option maxRecDepth 20000 in
theorem zbv(n m:Int)(w:World) :
  Calls Tryz.prog 16 #[.iface 35 (.int .i64 n),.iface 35 (.int .i64 m)] w fun e w'=>e=.returned (.bool (n == m))∧w'=w:=by
 have h10:=@run_callFunc_extern Tryz.prog 31 _ ReflectliteType.typeOf Tryz.func31 (by kernel_rfl) (by kernel_rfl) (by kernel_rfl) (by kernel_rfl)
 have h11 := @run_callFunc_extern Tryz.prog 291 _ (ReflectliteType.method (fun t => do Rtype.noPackHeld "Comparable" t; pure (.bool (← typeInfo t).comparable))) Tryz.func291 (by kernel_rfl) (by kernel_rfl) (by kernel_rfl) (by kernel_rfl)
 have tO:=Is.typeOfE
 have mC:=Is.methodComparable
 have cC:=Is.comparable
 go_enter Tryz.func16,Tryz.ntmps16
 go_wp2_with fail
 refine (zsA n m _).mono ?_
 rintro e w' ⟨rfl,rfl⟩
 go_wp2
 go_ret
 exact⟨rfl,rfl⟩
end
structure But(r:Nat)(w w':World):Prop where
 below:Below r w w'
 size:w.heap.size≤w'.heap.size
 kept:∀k,k<w.heap.size→k≠r→w'.heap[k]?=w.heap[k]?
theorem But.refl(r:Nat)(w:World):But r w w:=⟨Below.refl _ _,Nat.le_refl _,fun _ _ _=>rfl⟩
theorem But.trans{r:Nat}{w w1 w2:World}(h:But r w w1)(k:But r w1 w2):But r w w2 :=
 ⟨h.below.trans k.below,Nat.le_trans h.size k.size,fun b hb hr=>by rw[k.kept b (by have:=h.size;omega) hr,h.kept b hb hr]⟩
theorem But.set{r:Nat}{w w1:World}(h:But r w w1)(o:Nat)(v:Value):But r w (w1.setCell ⟨r,o,none⟩ v) :=
 ⟨h.below.setCell (p:=⟨r,o,none⟩) (Nat.le_refl _) v,by have:=h.size;simpa [World.setCell] using this,fun k hk hr=>by rw[Below.heap_setCell _ _ _ _ (fun e=>hr e)];exact h.kept k hk hr⟩
theorem But.cell{r:Nat}{w w1:World}(h:But r w w1){b:Nat}(o:Nat)(hb:b<w.heap.size)(hr:b≠r):w1.cell? ⟨b,o,none⟩=w.cell? ⟨b,o,none⟩:=by
 simp only[World.cell?,h.kept b hb hr]
theorem But.of_below'{r:Nat}{w w':World}(h:Below w.heap.size w w')(hr:r≤w.heap.size):But r w w':=⟨h.mono hr,h.size,fun k hk _=>h.block k hk⟩
theorem But.setNew{r:Nat}{w w1:World}(h:But r w w1)(z o:Nat)(hz:w.heap.size≤z)(hr:r≤z)(v:Value):But r w (w1.setCell ⟨z,o,none⟩ v) :=
 ⟨h.below.setCell (p:=⟨z,o,none⟩) hr v,by have:=h.size;simpa [World.setCell] using this,fun k hk hkr=>by rw[Below.heap_setCell _ _ _ _ (fun e=>by simp at e;omega)];exact h.kept k hk hkr⟩
theorem But.alloc{r:Nat}{w w1:World}(h:But r w w1)(hr:r≤w1.heap.size)(o:Obj):But r w (w1.alloc o) :=
 ⟨h.below.alloc hr o,by have:=h.size;simp;omega,fun k hk hkr=>by
  rw[((Below.refl w1.heap.size w1).alloc (Nat.le_refl _) o).block k (by have:=h.size;omega)];exact h.kept k hk hkr⟩
theorem zbi(s:ByteArray)(w:World)(hs:s.size≤281474976710656) :
  Calls Tryz.prog 49 #[.string s] w fun e w'=>e=.returned (.string s)∧Below w.heap.size w w':=by
 go_enter Tryz.func49,Tryz.ntmps49
 go_wp2_with fail
 refine (Tryz.stringslite_Clone s _ hs).mono ?_
 rintro e w1 ⟨rfl,b1⟩
 go_wp2
 go_ret
 exact⟨rfl,b1⟩
end Go.Proofs.YtopghagjmdbglaaGreatDoor
