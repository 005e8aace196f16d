/-
  Row5, KdP, As, KdRule, ColsOpen, VlB, AgI, KdRuleB, KdFault.
-/
import Derived.Test.YtopghagjmdbglaaGreatDoorGyAg
import Derived.WalkSmall
import Derived.Deep.RegionWith
import Derived.Test.YtopghagjmdbglaaGreatDoorProg
import Derived.WalkKit
import Derived.Below
import Derived.LaidEql
import Derived.Stop.Asserts
import Derived.RowKitTokens
import Derived.Laws.Rows
import Derived.Test.YtopghagjmdbglaaGreatDoorRows
import Derived.Deep.SlicePairs
import Derived.OpenShut
import Derived.Carry
import Derived.ProofKit
import Derived.Test.YtopghagjmdbglaaGreatDoorGyAa
import Derived.OwnWalk
import Derived.Deep.Heap
import Derived.Deep.LoopGhost
namespace Go.Proofs.YtopghagjmdbglaaGreatDoor
open Go.RowKit
set_option linter.unusedVariables false
set_option linter.unusedSimpArgs false
set_option maxHeartbeats 8000000
set_option maxRecDepth 20000
theorem zel(p:Option Addr)(c:Nat)(w:World) :
  Calls Tryz.prog 66 #[.slice p 0 c] w fun e w'=>e=.returned (errR 5)∧w'=w:=by
 go_enter Tryz.func66,Tryz.ntmps66
 go_wp2
 go_ret
 exact⟨rfl,rfl⟩
theorem zjG(p:Option Addr)(n c:Nat)(w:World)(hn:6<n) :
  Calls Tryz.prog 66 #[.slice p n c] w fun e w'=>e=.returned (errR 4)∧w'=w:=by
 have h0:((n:Int) == 0)=false:=by simp;omega
 have h6:(6:Int)<(n:Int):=by omega
 go_enter Tryz.func66,Tryz.ntmps66
 go_wp2
 go_ret
 exact⟨rfl,rfl⟩
theorem zqv{zs:List (ByteArray×Int)}{k:Nat}(h:k<zs.length):schGo (zs.take k) (zs.drop k)=if colE (zs.take k) zs[k].1.data.toList zs[k].2≠0 then colE (zs.take k) zs[k].1.data.toList zs[k].2 else schGo (zs.take (k+1)) (zs.drop (k+1)):=by
 rw[List.drop_eq_getElem_cons h,schGo,List.take_succ_eq_append_getElem h]
theorem zrG(k:Int)(W:World):Sem.run Tryz.prog (binOp .neq 42 (errR k) .nilIface) W=.ok (.bool (k != 0)) W:=by
 by_cases h:k=0
 ·subst h;kernel_rfl
 ·rw[zrD h,show (k != 0)=true by simpa using h];kernel_rfl
theorem zph(k:Int)(W:World)(j:Nat):Sem.run Tryz.prog (eqGuard .neq 42 (.tmp j) (.const .nilIface) (errR k) .nilIface) W=.ok () W:=by
 by_cases h:k=0
 ·subst h;kernel_rfl
 ·rw[zrD h];kernel_rfl
theorem ziR(b off c:Nat)(zs:List (ByteArray×Int))(w:World)(hw:TW w)(h1:zs.length≠0)(h6:¬6<zs.length)(hcap:zs.length≤c)(hl:∀z∈zs,z.1.size≤maxLen)(hc:zaZ w b off zs) :
  Calls Tryz.prog 66 #[.slice (some ⟨b,off,none⟩) zs.length c] w fun e w'=>e=.returned (errR (schGo [] zs))∧Below w.heap.size w w':=by
 have z0:((zs.length:Int) == 0)=false:=by rw[beq_eq_false_iff_ne];omega
 have z6:¬(6:Int)<(zs.length:Int):=by omega
 obtain⟨E,hE⟩:∃E,schGo [] zs=E:=⟨_,rfl⟩
 rw[hE]
 go_enter Tryz.func66,Tryz.ntmps66
 go_wp2
 go_loopg [3,4,5,16] zs.length (fun gg _ _ _ s8 wr=>∃kk:Nat,kk≤zs.length∧zs.length-kk≤gg∧s8=.int .i64 kk∧Aside (Below w.heap.size w wr)∧Hid (E=schGo (zs.take kk) (zs.drop kk)))
 case atStart=>exact⟨0,Nat.zero_le _,by omega,rfl,Below.refl _ w,(show Hid _ by simp[Hid,hE])⟩
 case round =>
  obtain⟨kk,hkk,hg,rfl,BW,HS⟩:=hrel
  by_cases hlt:kk<zs.length
  ·have hltz:(kk:Int)<(zs.length:Int):=by omega
   have hin:=hc.on BW.out
   obtain⟨c0,c1⟩:=hin.2 kk hlt
   have HS2:Hid (E=if colE (zs.take kk) zs[kk].1.data.toList zs[kk].2≠0 then colE (zs.take kk) zs[kk].1.data.toList zs[kk].2 else schGo (zs.take (kk+1)) (zs.drop (kk+1))):=HS.out.trans (zqv hlt)
   have hsz:=hl _ (List.getElem_mem hlt)
   generalize hy:zs[kk]=y at c0 c1 HS2 hsz
   obtain⟨yn,yt⟩:=y
   have B1:=BW.out.alloc BW.out.size (.cells #[.string yn,.int .i64 yt] 24)
   have hlen:(zs.take kk).length=kk:=by rw[List.length_take];omega
   have cC:=fun q=>zhJ yn yt b off c (zs.take kk) ((wr.alloc (.cells #[.string yn,.int .i64 yt] 24)).drewN q) hsz (hw.on (below_drewN B1 q)) (by omega) ((hc.on (below_drewN B1 q)).take kk)
   rw[hlen] at cC
   simp only at HS2
   generalize hce:colE (zs.take kk) yn.data.toList yt=ce at cC HS2
   have e1:=zrG ce
   have e2:=zph ce
   have k1:(0:Int)≤(kk:Int):=by omega
   have k2:(kk:Int)≤(c:Int):=by omega
   clear HS hy hin hc hl hce
   go_wp2
   go_region_with (go_at_call 98;refine (cC _).mono ?_;rintro e w' ⟨rfl,b2⟩)
   have B2:=(below_drewN B1 _).trans (b2.mono (below_drewN B1 _).size)
   by_cases hz:ce=0
   ·have hb:(ce != 0)=false:=by simpa using hz
    rw[hb] at e1
    have HS3:Hid (E=schGo (zs.take (kk+1)) (zs.drop (kk+1))):=by
     have:=HS2.out
     rwa [if_neg (by simpa using hz)] at this
    clear HS2 hz hb
    go_wp2
    go_roundg (zs.length-(kk+1))
    case measure=>omega
    case rel=>exact⟨kk+1,by omega,by omega,by go_num,B2,HS3⟩
   ·have hb:(ce != 0)=true:=by simpa using hz
    rw[hb] at e1
    have HS3:E=ce:=by
     have:=HS2.out
     rwa [if_pos hz] at this
    subst HS3
    clear HS2 hz hb
    go_wp2
    go_ret
    exact⟨rfl,B2⟩
  ·have hltz:¬(kk:Int)<(zs.length:Int):=by omega
   have:kk=zs.length:=by omega
   have hz:E=0:=by
    rw[HS.out,this,List.drop_length];cases zs.take zs.length<;>rfl
   subst hz
   clear HS
   go_wp2
   go_ret
   exact⟨rfl,BW.out⟩
theorem zlo(b off c:Nat)(zs:List (ByteArray×Int))(w:World)(hw:TW w)(hcap:zs.length≤c)(hl:∀z∈zs,z.1.size≤maxLen)(hc:zaZ w b off zs) :
  Calls Tryz.prog 66 #[.slice (some ⟨b,off,none⟩) zs.length c] w fun e w'=>e=.returned (errR (schE zs))∧Below w.heap.size w w':=by
 rw[schE]
 by_cases h1:zs.length=0
 ·rw[if_pos h1,h1]
  exact (zel _ c w).mono fun e w' hh=>⟨hh.1,by rw[hh.2];exact Below.refl _ _⟩
 ·rw[if_neg h1]
  by_cases h6:6<zs.length
  ·rw[if_pos h6]
   exact (zjG _ _ c w h6).mono fun e w' hh=>⟨hh.1,by rw[hh.2];exact Below.refl _ _⟩
  ·rw[if_neg h6]
   exact ziR b off c zs w hw h1 h6 hcap hl hc
theorem zgu:∀(a r:List (ByteArray×Int)),schGo a r=0→∀k (h:k<r.length),colE (a++r.take k) r[k].1.data.toList r[k].2=0
 | a,[],_,k,h=>absurd h (by simp)
 | a,c::r,h0,k,h=>by
  rw[schGo] at h0
  by_cases hc:colE a c.1.data.toList c.2=0
  ·rw[if_neg (by simpa using hc)] at h0
   cases k with
   | zero=>simpa using hc
   | succ k =>
    have:=zgu (a++[c]) r h0 k (by simpa using h)
    simpa [List.append_assoc] using this
  ·rw[if_pos hc] at h0
   exact absurd h0 hc
theorem znj{a:List (ByteArray×Int)}{nm:List UInt8}{t:Int}(h:colE a nm t=0):nameB nm=true∧(1≤t∧t≤3)∧findN nm a=-1:=by
 rw[colE] at h
 split at h
 ·exact absurd h (by decide)
 ·rename_i h1
  split at h
  ·exact absurd h (by decide)
  ·rename_i h2
   split at h
   ·exact absurd h (by decide)
   ·rename_i h3
    refine⟨by simpa using h1,Classical.not_not.1 h2,?_⟩
    rcases zbA nm a with ⟨e,_⟩|⟨k,e,_⟩
    ·exact e
    ·rw[e] at h3;exact absurd (by omega) h3
theorem zde{zs:List (ByteArray×Int)}(h:schE zs=0):zs.length≠0∧zs.length≤6∧∀k (h:k<zs.length),nameB zs[k].1.data.toList=true∧(1≤zs[k].2∧zs[k].2≤3)∧findN zs[k].1.data.toList zs=k:=by
 rw[schE] at h
 split at h
 ·exact absurd h (by decide)
 ·rename_i h1
  split at h
  ·exact absurd h (by decide)
  ·rename_i h6
   refine⟨h1,by omega,fun k hk=>?_⟩
   obtain⟨e1,e2,e3⟩:=znj (zgu [] zs h k hk)
   refine⟨e1,e2,zij hk rfl fun j hj he=>?_⟩
   rcases zbA zs[k].1.data.toList ([]++zs.take k) with ⟨_,hn⟩|⟨i,ei,_⟩
   ·have hj2:j<([]++zs.take k).length:=by simp;omega
    have:=hn j hj2
    simp only[List.nil_append,List.getElem_take] at this
    exact this he
   ·rw[e3] at ei;omega
--BEGIN
def kdCnt(r:KRule):Nat:=if r.2.1=0 then 0 else if r.2.2.1=0 then 1 else if r.2.2.2.1=0 then 2 else 3
def zbH(last t:Int):Int:=if t=-1 then last else t
def zbd(op:List UInt8):List KRule→Option KRule
 | []=>none
 | r::rs=>if r.1=op then some r else zbd op rs
def isTy(t:Int):Bool:=decide (t=1)||(decide (t=2)||decide (t=3))
def kdAll(last:Int):List Int→List Int→Bool
 | [],_=>true
 | _::_,[]=>true
 | t::ts,a::l=>decide (t=zbH last a)&&kdAll last ts l
def ruleP(op:List UInt8)(ts:List Int):Int×Int :=
 match zbd op zaF with
 | none=>(0,1)
 | some r=>if ts.all isTy=false then (0,1) else if ts.length≠kdCnt r then (0,3) else if kdAll (ts.getLast?.getD 0) ts [r.2.1,r.2.2.1,r.2.2.2.1]=true then (zbH (ts.getLast?.getD 0) r.2.2.2.2,0) else (0,8)
mutual
def tyP(zs:List (ByteArray×Int)):Ex→Int×Int×Int
 | .node op nm vt vn vs pos l =>
  if op.data.toList=[118,97,108] then (vt,0,0)
  else if op.data.toList=[99,111,108] then (if findN nm.data.toList zs=-1 then (0,5,pos) else ((zs[(findN nm.data.toList zs).toNat]?.getD default).2,0,0))
  else if (tysP zs l).2.1≠0 then (0,(tysP zs l).2)
  else if (ruleP op.data.toList (tysP zs l).1).2≠0 then (0,(ruleP op.data.toList (tysP zs l).1).2,pos) else ((ruleP op.data.toList (tysP zs l).1).1,0,0)
def tysP(zs:List (ByteArray×Int)):List Ex→List Int×Int×Int
 | []=>([],0,0)
 | x::xs=>if (tyP zs x).2.1≠0 then ([],(tyP zs x).2) else if (tysP zs xs).2.1≠0 then ([],(tysP zs xs).2) else ((tyP zs x).1::(tysP zs xs).1,0,0)
end
--END
section
open Go.Extern.Stop Go.Stop Go.Extern
namespace As
theorem one(v:Value)(h1:Value→Sem Value)(h2:Array Value→Sem Value):ReflectliteValue.method.match_2 (motive:=fun _=>Sem Value) #[v] h1 h2=h1 v:=rfl
theorem two(v x:Value)(h1:Value→Value→Sem Value)(h2:Array Value→Sem Value):ReflectliteValue.set.match_3 (motive:=fun _=>Sem Value) #[v,x] h1 h2=h1 v x:=rfl
theorem valueOfP(t:Addr)(w:World):(ReflectliteValue.unpack (.iface 174 (.pointer (some t)))).run Tryz.prog w
  = .ok (.agg #[.pointer (some ⟨12,174,none⟩),.pointer (some ⟨w.heap.size,0,none⟩),.int .u64 150]) (w.alloc (.cells #[.pointer (some t)] 174)):=by kernel_rfl
theorem typeP (a : Addr) (w : World) : (ReflectliteValue.methodAny (ReflectliteValue.valueError "reflectlite.Value.Type" 0) (fun t _ _ _ => ReflectliteType.toType t) #[.agg #[.pointer (some ⟨12, 174, none⟩), .pointer (some a), .int .u64 150]]).run Tryz.prog w
  = .ok (.iface 127 (.agg #[.pointer (some ⟨12,174,none⟩)])) w:=by kernel_rfl
theorem methodKind (h : Value) (w : World) : (Go.method 494 127 (.agg #[h]) "Kind").run Tryz.prog w = .ok (285, h) w := by kernel_rfl
theorem kindP(w:World):((ReflectliteType.abiMethod fun t=>(fun a:Nat=>Value.int IntKind.u8 (a:Int)) <$> Rtype.kind t) #[.pointer (some ⟨12,174,none⟩)]).run Tryz.prog w=.ok (.int .u8 22) w:=by kernel_rfl
theorem kindE(w:World):((ReflectliteType.abiMethod fun t=>(fun a:Nat=>Value.int IntKind.u8 (a:Int)) <$> Rtype.kind t) #[.pointer (some ⟨12,35,none⟩)]).run Tryz.prog w=.ok (.int .u8 2) w:=by kernel_rfl
theorem ztv(a:Addr)(w:World):(ReflectliteValue.parts (.agg #[.pointer (some ⟨12,174,none⟩),.pointer (some a),.int .u64 150])).run Tryz.prog w=.ok (some (174,a,150)) w:=by kernel_rfl
theorem isNilP(a p:Addr)(W:World)(ha:W.cell? a=some (.pointer (some p))) :
  (ReflectliteValue.method (ReflectliteValue.valueError "reflectlite.Value.IsNil" 0) ReflectliteValue.isNil #[.agg #[.pointer (some ⟨12, 174, none⟩), .pointer (some a), .int .u64 150]]).run Tryz.prog W = .ok (.bool false) W := by
 delta ReflectliteValue.method
 rw[one]
 simp only[Sem.run_bind,ztv,Result.andThen]
 simp[ReflectliteValue.isNil,loadVar,isAgg,underlying,Tryz.underlying174,ha,Result.andThen]
theorem methodElem (h : Value) (w : World) : (Go.method 494 127 (.agg #[h]) "Elem").run Tryz.prog w = .ok (292, .agg #[h]) w := by kernel_rfl
theorem methodImplements (h : Value) (w : World) : (Go.method 494 127 (.agg #[h]) "Implements").run Tryz.prog w = .ok (293, .agg #[h]) w := by kernel_rfl
theorem methodAssignableTo (h : Value) (w : World) : (Go.method 494 127 (.agg #[h]) "AssignableTo").run Tryz.prog w = .ok (290, .agg #[h]) w := by kernel_rfl
theorem elemP(w:World):(ReflectliteType.method ReflectliteType.elem #[.agg #[.pointer (some ⟨12,174,none⟩)]]).run Tryz.prog w=.ok (.iface 127 (.agg #[.pointer (some ⟨12,35,none⟩)])) w:=by kernel_rfl
theorem implementsE (w : World) : (ReflectliteType.relation "Implements" ReflectliteType.implements_ #[.agg #[.pointer (some ⟨12, 35, none⟩)], .iface 127 (.agg #[.pointer (some ⟨12, 42, none⟩)])]).run Tryz.prog w = .ok (.bool true) w := by kernel_rfl
theorem typeOfE(v:Value)(w:World):(ReflectliteType.typeOf #[.iface 35 v]).run Tryz.prog w=.ok (.iface 127 (.agg #[.pointer (some ⟨12,35,none⟩)])) w:=by kernel_rfl
theorem assignableE (w : World) : (ReflectliteType.relation "AssignableTo" ReflectliteType.assignableTo #[.agg #[.pointer (some ⟨12, 35, none⟩)], .iface 127 (.agg #[.pointer (some ⟨12, 35, none⟩)])]).run Tryz.prog w = .ok (.bool true) w := by kernel_rfl
theorem valueOfE(n:Int)(w:World):(ReflectliteValue.unpack (.iface 35 (.int .i64 n))).run Tryz.prog w
  = .ok (.agg #[.pointer (some ⟨12,35,none⟩),.pointer (some ⟨w.heap.size,0,none⟩),.int .u64 130]) (w.alloc (.cells #[.int .i64 n] 35)):=by kernel_rfl
theorem ztu(w:World):(Rtype.elem? 174).run Tryz.prog w=.ok (some 35) w:=by kernel_rfl
theorem mkE(p:Addr)(w:World):(ReflectliteValue.mk 35 p ReflectliteValue.flagAddr).run Tryz.prog w=.ok (.agg #[.pointer (some ⟨12,35,none⟩),.pointer (some p),.int .u64 386]) w:=by kernel_rfl
theorem elemVP(a p:Addr)(W:World)(ha:W.cell? a=some (.pointer (some p))) :
  (ReflectliteValue.method (ReflectliteValue.valueError "reflectlite.Value.Elem" 0) ReflectliteValue.elem #[.agg #[.pointer (some ⟨12, 174, none⟩), .pointer (some a), .int .u64 150]]).run Tryz.prog W
   = .ok (.agg #[.pointer (some ⟨12,35,none⟩),.pointer (some p),.int .u64 386]) W:=by
 delta ReflectliteValue.method
 rw[one]
 simp only[Sem.run_bind,ztv,Result.andThen]
 simp[ReflectliteValue.elem,loadVar,isAgg,underlying,Tryz.underlying174,ha,Result.andThen,ztu,mkE]
theorem ztt(a:Addr)(w:World):(ReflectliteValue.parts (.agg #[.pointer (some ⟨12,35,none⟩),.pointer (some a),.int .u64 386])).run Tryz.prog w=.ok (some (35,a,386)) w:=by kernel_rfl
theorem zvx(a:Addr)(w:World):(ReflectliteValue.parts (.agg #[.pointer (some ⟨12,35,none⟩),.pointer (some a),.int .u64 130])).run Tryz.prog w=.ok (some (35,a,130)) w:=by kernel_rfl
theorem ztE(w:World):(Rtype.directlyAssignable 35 35).run Tryz.prog w=.ok true w:=by kernel_rfl
theorem setE(ta b:Addr)(n:Int)(old:Value)(W:World)(hb:W.cell? b=some (.int .i64 n))(ht:W.cell? ta=some old)(hf:W.frozen? ta=false) :
  (ReflectliteValue.set #[.agg #[.pointer (some ⟨12,35,none⟩),.pointer (some ta),.int .u64 386],.agg #[.pointer (some ⟨12,35,none⟩),.pointer (some b),.int .u64 130]]).run Tryz.prog W
   = .ok (.tuple #[]) (W.setCell ta (.int .i64 n)):=by
 delta ReflectliteValue.set
 rw[two]
 simp only[Sem.run_bind,ztt,zvx,Result.andThen]
 simp[ReflectliteValue.flagAddr,loadVar,isAgg,underlying,Tryz.underlying35,hb,Result.andThen,ztE,storeVar,Value.cells,storeCells,Addr.add]
 rw[run_store Tryz.prog W ta _ _ (by rfl)]
 simp[ht,hf]
end As

theorem zsS(n:Int)(t:Addr)(old:Value)(w:World)(hg:w.cell? ⟨4,0,none⟩=some (.iface 127 (.agg #[.pointer (some ⟨12,42,none⟩)])))(ht0:w.cell? t=some old)(hf0:w.frozen? t=false) :
  Calls Tryz.prog 107 #[.iface 35 (.int .i64 n),.iface 174 (.pointer (some t))] w fun ev w'=>ev=.returned (.bool true)∧w'=((((w.alloc (.cells #[.pointer (some t)] 174)).alloc (.cells #[.pointer (some ⟨12,174,none⟩),.pointer (some ⟨w.heap.size,0,none⟩),.int .u64 150] 213)).alloc (.cells #[.pointer (some ⟨12,174,none⟩),.pointer (some ⟨w.heap.size,0,none⟩),.int .u64 150] 213)).alloc (.cells #[.int .i64 n] 35)).setCell t (.int .i64 n):=by
 have h6:=@run_callFunc_extern Tryz.prog 134 _ (fun args=>ReflectliteValue.unpack (args.getD 0 (.tuple #[]))) Tryz.func134 (by kernel_rfl) (by kernel_rfl) (by kernel_rfl) (by kernel_rfl)
 have h7 := @run_callFunc_extern Tryz.prog 135 _ (ReflectliteValue.methodAny (ReflectliteValue.valueError "reflectlite.Value.Type" 0) (fun t _ _ _ => ReflectliteType.toType t)) Tryz.func135 (by kernel_rfl) (by kernel_rfl) (by kernel_rfl) (by kernel_rfl)
 have h8 := @run_callFunc_extern Tryz.prog 136 _ (ReflectliteValue.method (ReflectliteValue.valueError "reflectlite.Value.IsNil" 0) ReflectliteValue.isNil) Tryz.func136 (by kernel_rfl) (by kernel_rfl) (by kernel_rfl) (by kernel_rfl)
 have h27:=@run_callFunc_extern Tryz.prog 285 _ (ReflectliteType.abiMethod fun t=>do pure (.int .u8 (←Rtype.kind t))) Tryz.func285 (by kernel_rfl) (by kernel_rfl) (by kernel_rfl) (by kernel_rfl)
 have h37:=@run_callFunc_extern Tryz.prog 292 _ (ReflectliteType.method ReflectliteType.elem) Tryz.func292 (by kernel_rfl) (by kernel_rfl) (by kernel_rfl) (by kernel_rfl)
 have h38 := @run_callFunc_extern Tryz.prog 293 _ (ReflectliteType.relation "Implements" ReflectliteType.implements_) Tryz.func293 (by kernel_rfl) (by kernel_rfl) (by kernel_rfl) (by kernel_rfl)
 have h10:=@run_callFunc_extern Tryz.prog 31 _ ReflectliteType.typeOf Tryz.func31 (by kernel_rfl) (by kernel_rfl) (by kernel_rfl) (by kernel_rfl)
 have h35 := @run_callFunc_extern Tryz.prog 290 _ (ReflectliteType.relation "AssignableTo" ReflectliteType.assignableTo) Tryz.func290 (by kernel_rfl) (by kernel_rfl) (by kernel_rfl) (by kernel_rfl)
 have h11 := @run_callFunc_extern Tryz.prog 169 _ (ReflectliteValue.method (ReflectliteValue.valueError "reflectlite.Value.Elem" 0) ReflectliteValue.elem) Tryz.func169 (by kernel_rfl) (by kernel_rfl) (by kernel_rfl) (by kernel_rfl)
 have h12:=@run_callFunc_extern Tryz.prog 170 _ ReflectliteValue.set Tryz.func170 (by kernel_rfl) (by kernel_rfl) (by kernel_rfl) (by kernel_rfl)
 have tO:=As.typeOfE
 have mA:=As.methodAssignableTo
 have a25:=As.assignableE
 have v25:=As.valueOfE
 have f6:=As.valueOfP
 have f7:=As.typeP
 have mK:=As.methodKind
 have mE:=As.methodElem
 have mI:=As.methodImplements
 have k27:=As.kindP
 have k25:=As.kindE
 have e27:=As.elemP
 have i25:=As.implementsE
 have n8:=As.isNilP ⟨w.heap.size,0,none⟩ t ((w.alloc (.cells #[.pointer (some t)] 174)).alloc (.cells #[.pointer (some ⟨12,174,none⟩),.pointer (some ⟨w.heap.size,0,none⟩),.int .u64 150] 213)) (by simp)
 have hlt:4<w.heap.size:=by
  rcases Nat.lt_or_ge 4 w.heap.size with h|h
  ·exact h
  ·simp[World.cell?,Array.getElem?_eq_none h] at hg
 have hg2:((w.alloc (.cells #[.pointer (some t)] 174)).alloc (.cells #[.pointer (some ⟨12,174,none⟩),.pointer (some ⟨w.heap.size,0,none⟩),.int .u64 150] 213)).cell? ⟨4,0,none⟩=some (.iface 127 (.agg #[.pointer (some ⟨12,42,none⟩)])):=by
  rw[World.cell?_alloc_lt _ _ ⟨4,0,none⟩ (by simp<;>omega),World.cell?_alloc_lt _ _ ⟨4,0,none⟩ hlt];exact hg
 have htl:t.block<w.heap.size:=by
  rcases Nat.lt_or_ge t.block w.heap.size with h|h
  ·exact h
  ·simp[World.cell?,Array.getElem?_eq_none h] at ht0
 have el:=As.elemVP ⟨w.heap.size,0,none⟩ t (((w.alloc (.cells #[.pointer (some t)] 174)).alloc (.cells #[.pointer (some ⟨12,174,none⟩),.pointer (some ⟨w.heap.size,0,none⟩),.int .u64 150] 213)).alloc (.cells #[.pointer (some ⟨12,174,none⟩),.pointer (some ⟨w.heap.size,0,none⟩),.int .u64 150] 213)) (by rw[World.cell?_alloc_lt _ _ ⟨w.heap.size,0,none⟩ (by simp;omega)];simp)
 have st:=As.setE t ⟨w.heap.size+1+1+1,0,none⟩ n old ((((w.alloc (.cells #[.pointer (some t)] 174)).alloc (.cells #[.pointer (some ⟨12,174,none⟩),.pointer (some ⟨w.heap.size,0,none⟩),.int .u64 150] 213)).alloc (.cells #[.pointer (some ⟨12,174,none⟩),.pointer (some ⟨w.heap.size,0,none⟩),.int .u64 150] 213)).alloc (.cells #[.int .i64 n] 35))
  (by rw[World.cell?_alloc_at _ _ _ _ (by simp)];rfl)
  (by rw[World.cell?_alloc_lt _ _ t (by simp;omega),World.cell?_alloc_lt _ _ t (by simp;omega),World.cell?_alloc_lt _ _ t (by simp;omega),World.cell?_alloc_lt _ _ t htl];exact ht0)
  (by rw[World.frozen?_alloc_old _ _ t (by simp;omega),World.frozen?_alloc_old _ _ t (by simp;omega),World.frozen?_alloc_old _ _ t (by simp;omega),World.frozen?_alloc_old _ _ t (Nat.ne_of_lt htl)];exact hf0)
 go_enter Tryz.func107,Tryz.ntmps107
 go_wp2
 refine wp_loop_rounds 1 ?_
 rw[rounds_succ]
 go_wp2
 go_ret
 exact⟨rfl,rfl⟩

end
section
open Go.BigFrame
structure KEnv(w:World):Prop where
 tenv:TEnv w
 tw:TW w
 et:w.cell? ⟨4,0,none⟩=some (.iface 127 (.agg #[.pointer (some ⟨12,42,none⟩)]))
 rules:∃t fr,w.heap[8]?=some (.cells ziT t fr)
theorem KEnv.on{w w':World}(h:KEnv w)(hb:Below w.heap.size w w'):KEnv w':=by
 have hbig:=h.tenv.big
 refine⟨h.tenv.on hb,h.tw.on hb,?_,?_⟩
 ·rw[hb.cell (p:=⟨4,0,none⟩) (by simp;omega)];exact h.et
 ·obtain⟨t,fr,h1⟩:=h.rules
  exact⟨t,fr,by rw[hb.block _ (by omega)];exact h1⟩
theorem zle(x:ByteArray)(w:World)(henv:REnv w)(R:Option KRule)(hx:zbd x.data.toList zaF=R) :
  Calls Tryz.prog 214 #[.string x] w fun e w'=>(∃(S:ByteArray) (a0 a1 a2 ty:Int) (ok:Bool),e=.returned (.tuple #[.agg #[.string S,.int .i64 a0,.int .i64 a1,.int .i64 a2,.int .i64 ty],.bool ok])∧Hid (R=if ok=true then some (S.data.toList,a0,a1,a2,ty) else none))∧Below w.heap.size w w':=by
 have hbig:=henv.lt
 obtain⟨tt,fr,hgl⟩:=henv
 have HX:Hid (zbd x.data.toList zaF=R):=hx
 clear hx
 have B0:Below w.heap.size w (w.alloc (.cells #[.string ⟨#[]⟩,.int .i64 0,.int .i64 0,.int .i64 0,.int .i64 0] 309)):=al w _
 have hgl2:(w.alloc (.cells #[.string ⟨#[]⟩,.int .i64 0,.int .i64 0,.int .i64 0,.int .i64 0] 309)).heap[8]?=some (.cells ziT tt fr):=by rw[B0.block _ (by omega)];exact hgl
 clear hgl hbig
 go_enter Tryz.func214,Tryz.ntmps214
 go_wp2_with (refine wpList_load_row rfl 323 _ rfl 8 rfl tt _ fr _ hgl2 Tryz.underlying323 rfl (by kernel_rfl) ?_)
 have hat:=zrI
 generalize Value.agg ziT=AR at hat ⊢
 clear hgl2
 go_loopg [5,7] 17 (fun gg _ s7 wr=>∃kk:Nat,kk≤17∧17-kk≤gg∧s7=.int .i64 kk∧Aside (Below (w.heap.size+1) (w.alloc (.cells #[.string ⟨#[]⟩,.int .i64 0,.int .i64 0,.int .i64 0,.int .i64 0] 309)) wr)∧Hid (zbd x.data.toList (zaF.drop kk)=R))
 case atStart=>exact⟨0,Nat.zero_le _,by omega,rfl,(show Aside _ from Below.refl _ _),HX⟩
 case round =>
  obtain⟨kk,hkk,hg,rfl,BW,HE⟩:=hrel
  clear HX
  have hzr:w.heap.size+1≤wr.heap.size:=by have:=BW.out.size;simpa using this
  have hzl:w.heap.size<wr.heap.size:=by omega
  have zB:∀i,wr.cell? ⟨w.heap.size,i,none⟩=(#[.string ⟨#[]⟩,.int .i64 0,.int .i64 0,.int .i64 0,.int .i64 0]:Array Value)[i]?:=fun i=>by rw[BW.out.cell (p:=⟨w.heap.size,i,none⟩) (by simp),World.cell?_alloc_at _ _ _ _ rfl]
  have z0:wr.cell? ⟨w.heap.size,0,none⟩=some (.string ⟨#[]⟩):=zB 0
  have z1:wr.cell? ⟨w.heap.size,1,none⟩=some (.int .i64 0):=zB 1
  have z2:wr.cell? ⟨w.heap.size,2,none⟩=some (.int .i64 0):=zB 2
  have z3:wr.cell? ⟨w.heap.size,3,none⟩=some (.int .i64 0):=zB 3
  have z4:wr.cell? ⟨w.heap.size,4,none⟩=some (.int .i64 0):=zB 4
  have zf:∀o,wr.frozen? ⟨w.heap.size,o,none⟩=false:=fun o=>by rw[BW.out.frozen (p:=⟨w.heap.size,o,none⟩) (by simp),World.frozen?_alloc_at _ _ _ _ rfl]
  clear zB
  by_cases hlt:kk<17
  ·have hltz:(kk:Int)<17:=by omega
   obtain⟨S,a0,a1,a2,ty,hS,hS1,_,_,_,_⟩:=hat kk hlt
   clear hat
   have hd:zaF.drop kk=(S.data.toList,a0,a1,a2,ty)::zaF.drop (kk+1):=by
    rw[List.drop_eq_getElem_cons (show kk<zaF.length from hlt)]
    congr 1
   have HS:Hid (zbd x.data.toList ((S.data.toList,a0,a1,a2,ty)::zaF.drop (kk+1))=R):=by show _=_;rw[←hd];exact HE.out
   clear hd hS1 HE
   by_cases he:S.data.toList=x.data.toList
   ·have hq:(S.toList == x.toList)=true:=by rw[Lib.toList_data,Lib.toList_data];simpa using he
    have HR2:Hid (some (S.data.toList,a0,a1,a2,ty)=R):=by show _=_;rw[←HS.out,zbd,if_pos he]
    have BE:Below w.heap.size w wr:=B0.trans (BW.out.mono (by omega))
    clear HS he
    go_wp2
    refine bodyPost_ret (v:=.tuple #[.agg #[.string S,.int .i64 a0,.int .i64 a1,.int .i64 a2,.int .i64 ty],.bool true]) (by simp[results,Tryz.results214,go_sem,World.cell?_setCell_other,World.cell?_setCell_same,z0,z1,z2,z3,z4,hzl]) rfl ⟨⟨S,a0,a1,a2,ty,true,rfl,?_⟩,?_⟩
    ·show R=_
     rw[if_pos rfl];exact HR2.out.symm
    ·exact (((((BE.setCell (p:=⟨w.heap.size,0,none⟩) (Nat.le_refl _) _).setCell (p:=⟨w.heap.size,1,none⟩) (Nat.le_refl _) _).setCell (p:=⟨w.heap.size,2,none⟩) (Nat.le_refl _) _).setCell (p:=⟨w.heap.size,3,none⟩) (Nat.le_refl _) _).setCell (p:=⟨w.heap.size,4,none⟩) (Nat.le_refl _) _).alloc (by simp[World.setCell];omega) _
   ·have hq:(S.toList == x.toList)=false:=by rw[Lib.toList_data,Lib.toList_data];simpa using he
    have HS2:Hid (zbd x.data.toList (zaF.drop (kk+1))=R):=by
     show _=_
     rw[←HS.out,zbd,if_neg he]
    clear HS he
    go_wp2
    go_roundg (17-(kk+1))
    case measure=>omega
    case rel=>exact⟨kk+1,by omega,by omega,by go_num,(show Aside _ from BW.out.alloc (by omega) _),HS2⟩
  ·have hltz:¬(kk:Int)<17:=by omega
   have HR2:Hid (none=R):=by show _=_;rw[←HE.out,List.drop_eq_nil_of_le (by show 17≤kk;omega)];rfl
   have BE:Below w.heap.size w wr:=B0.trans (BW.out.mono (by omega))
   clear HE
   go_wp2
   refine bodyPost_ret (v:=.tuple #[.agg #[.string ⟨#[]⟩,.int .i64 0,.int .i64 0,.int .i64 0,.int .i64 0],.bool false]) (by simp[results,Tryz.results214,go_sem,World.cell?_setCell_other,World.cell?_setCell_same,z0,z1,z2,z3,z4]) rfl ⟨⟨⟨#[]⟩,0,0,0,0,.inl ⟨rfl,HR2.out.symm⟩⟩,?_⟩
   ·exact ((((BE.setCell (p:=⟨w.heap.size,0,none⟩) (Nat.le_refl _) _).setCell (p:=⟨w.heap.size,1,none⟩) (Nat.le_refl _) _).setCell (p:=⟨w.heap.size,2,none⟩) (Nat.le_refl _) _).setCell (p:=⟨w.heap.size,3,none⟩) (Nat.le_refl _) _).setCell (p:=⟨w.heap.size,4,none⟩) (Nat.le_refl _) _
end
section
open Go.ChangeShapes Go.WideShapes Go.ChangeAt Go.Deep
theorem zox:laidOutB Tryz.prog=true:=by kernel_rfl
theorem zrj:Tryz.prog.cellsOf 9=1:=by kernel_rfl
theorem zlg:Tryz.prog.cellsOf 3=1:=by kernel_rfl
theorem g_tw : Tryz.prog.globalNamed "sluicebook/row.typeWords" = some 7 := by kernel_rfl
theorem t_tw:(Tryz.prog.globals[7]?).map (·.type)=some 274:=by kernel_rfl
theorem zrv:Tryz.prog.cellsOf 200=2:=by kernel_rfl
theorem zsF:Tryz.prog.cellsOf 274=6:=by kernel_rfl
set_option maxRecDepth 100000 in
theorem zmo{W:World}{m:Nat}{x y:Value}{a:Int}{l:List UInt8}{ps:List MemPlace}(h:DataW.trod (fun _=>()) Tryz.prog W 0 (fun _=>true) false m 200 [x,y]=some (DataW.agg [.lit (.int .i64 a),.lit (.string l)],ps)):x=.int .i64 a∧y=.string ⟨l.toArray⟩:=by
 obtain⟨y0,y1,n,e,_,h0,h1⟩:=trod_struct2 Tryz.underlying200 h
 simp[zlg,zrj] at h0 h1
 obtain⟨k,e0,r0,_⟩:=DataW.trod_int Tryz.underlying3 h0
 obtain⟨s,e1,r1,_⟩:=DataW.trod_string Tryz.underlying9 h1
 simp at e0 e1
 subst e0 e1 r0 r1
 simp at e
 obtain⟨⟨rfl,rfl⟩,_⟩:=e
 exact⟨rfl,by simp⟩
set_option maxRecDepth 100000 in
theorem tw_of {W : World} {rest : List (String × DataW Unit)} (h : laidMet Tryz.prog (("sluicebook/row.typeWords", Rows.laid_sluicebook_row_typeWords) :: rest) W) : TW W := by
 obtain⟨ps,⟨g',t',cs,fuel,p,q,hg',ht',hvar,hd,_,_⟩,_⟩:=h
 obtain rfl:=Option.some.inj (g_tw.symm.trans hg')
 obtain rfl:=Option.some.inj (t_tw.symm.trans ht')
 obtain⟨xs,m,_,hx,hl,hlen,hel⟩:=DataW.trod_array Tryz.underlying274 hd
 rw[zsF] at hl
 rw[zrv] at hel
 have hcs:∃c0 c1 c2 c3 c4 c5,cs=#[c0,c1,c2,c3,c4,c5]:=by
  obtain⟨l⟩:=cs
  match l,hl with
  | [c0,c1,c2,c3,c4,c5],_=>exact⟨_,_,_,_,_,_,rfl⟩
 obtain⟨c0,c1,c2,c3,c4,c5,rfl⟩:=hcs
 match xs,hlen with
 | [x0,x1,x2],_ =>
  obtain⟨d0,q0⟩:=x0
  obtain⟨d1,q1⟩:=x1
  obtain⟨d2,q2⟩:=x2
  have hx2:=congrArg Prod.fst hx
  simp[Rows.laid_sluicebook_row_typeWords] at hx2
  obtain⟨r0,r1,r2⟩:=hx2
  subst r0 r1 r2
  obtain⟨e0,e1⟩:=zmo (by simpa using hel 0 (by decide))
  obtain⟨e2,e3⟩:=zmo (by simpa using hel 1 (by decide))
  obtain⟨e4,e5⟩:=zmo (by simpa using hel 2 (by decide))
  subst e0 e1 e2 e3 e4 e5
  have hc:=fun i=>World.var?_cell g_tw hvar i
  exact⟨by simpa using hc 0,by simpa using hc 1,by simpa using hc 2,by simpa using hc 3,by simpa using hc 4,by simpa using hc 5,zcK (o:=0) (by simpa using hc 0)⟩
end
abbrev V3:=Int×Int×ByteArray
def inB(n:Int):Prop:=-9223372036854775808≤n∧n≤9223372036854775807
def noV:V3:=(0,0,⟨#[]⟩)
theorem zlC{n:Int}{l:List UInt8}(h:chk 2 n l=0):(n=0∨n=1)∧l=[]:=by
 unfold chk at h
 by_cases h0:n=0∨n=1
 ·refine⟨h0,?_⟩
  by_cases hl:l=[]
  ·exact hl
  ·simp[hl] at h
   split at h<;>omega
 ·rw[if_pos (by right;simp at h0;exact⟨rfl,h0⟩)] at h
  omega
theorem zkZ{n:Int}{l:List UInt8}(h:chk 1 n l=0):l=[]:=by
 unfold chk at h
 by_cases hl:l=[]
 ·exact hl
 ·simp[hl] at h
theorem zfs{n:Int}{l:List UInt8}(h:chk 3 n l=0):l.length≤40∧n=0:=by
 rw[zmg,chkT] at h
 split at h
 ·omega
 ·split at h
  ·omega
  ·split at h
   ·omega
   ·rename_i h1 _ h3
    exact⟨by omega,by simpa using h3⟩
theorem zdP{t n:Int}{l:List UInt8}(h:chk t n l=0):l.length≤40:=by
 by_cases h1:t=1
 ·subst h1;rw[zkZ h];simp
 ·by_cases h2:t=2
  ·subst h2;rw[(zlC h).2];simp
  ·by_cases h3:t=3
   ·subst h3;exact (zfs h).1
   ·unfold chk at h
    rw[if_pos (by left;omega)] at h
    omega
theorem zhh(w:World)(cs:Array Value)(t:TypeId){W:World}{n:Nat}(hb:Below n (w.alloc (.cells cs t)) W)(hn:w.heap.size<n):(∀i,W.cell? ⟨w.heap.size,i,none⟩=cs[i]?)∧(∀o,W.frozen? ⟨w.heap.size,o,none⟩=false)∧w.heap.size<W.heap.size:=by
 have hz:=hb.size
 simp at hz
 exact⟨fun i=>by rw[hb.cell (p:=⟨w.heap.size,i,none⟩) hn,World.cell?_alloc_at _ _ _ _ rfl],fun o=>by rw[hb.frozen (p:=⟨w.heap.size,o,none⟩) hn,World.frozen?_alloc_at _ _ _ _ rfl],by omega⟩
theorem alB(w:World)(o:Obj):Below w.heap.size w (w.alloc o):=(Below.refl _ _).alloc (Nat.le_refl _) o
def zah(w:World)(p:Option Addr)(vs:List V3):Prop:=vs.length=0∨∃b off,p=some ⟨b,off,none⟩∧b<w.heap.size∧∀j (h:j<vs.length),w.cell? ⟨b,off+j*3,none⟩=some (.int .i64 vs[j].1)∧w.cell? ⟨b,off+j*3+1,none⟩=some (.int .i64 vs[j].2.1)∧w.cell? ⟨b,off+j*3+2,none⟩=some (.string vs[j].2.2)
theorem zah.on{w w':World}{p:Option Addr}{vs:List V3}(h:zah w p vs)(hb:Below w.heap.size w w'):zah w' p vs:=by
 rcases h with h|⟨b,off,e,hl,h⟩
 ·exact .inl h
 ·refine .inr ⟨b,off,e,by have:=hb.size;omega,fun j hj=>?_⟩
  obtain⟨h1,h2,h3⟩:=h j hj
  exact⟨by rw[hb.cell (p:=⟨b,_,none⟩) hl];exact h1,by rw[hb.cell (p:=⟨b,_,none⟩) hl];exact h2,by rw[hb.cell (p:=⟨b,_,none⟩) hl];exact h3⟩
def ValsV(w:World)(v:Value)(rs:List V3):Prop:=∃q c,v=.slice q rs.length c∧rs.length≤maxLen∧zah w q rs
def zbK(rs:List V3):Prop:=∀r∈rs,r.2.2.size≤maxLen∧inB r.2.1
def zan:List V3→List Value
 | []=>[]
 | v::vs=>.int .i64 v.1::.int .i64 v.2.1::.string v.2.2::zan vs
theorem zeW:∀{vs:List V3} {j:Nat} (h:j<vs.length),(zan vs)[j*3]?=some (.int .i64 vs[j].1)∧(zan vs)[j*3+1]?=some (.int .i64 vs[j].2.1)∧(zan vs)[j*3+2]?=some (.string vs[j].2.2)
 | v::vs,0,_=>⟨rfl,rfl,rfl⟩
 | v::vs,j+1,h=>by
  have:=zeW (vs:=vs) (j:=j) (by simpa using h)
  rw[zan,show (j+1)*3=j*3+3 by omega]
  simpa using this
 | [],_,h=>absurd h (by simp)
theorem zdJ:∀vs:List V3,(zan vs).length=vs.length*3
 | []=>rfl
 | v::vs=>by rw[zan];simp[zdJ vs];omega
theorem zbx:∀(a b:List V3),zan (a++b)=zan a++zan b
 | [],b=>rfl
 | v::vs,b=>by rw[List.cons_append,zan,zan,zbx vs b];rfl
theorem zev{W:World}{B:Nat}{q:Option Addr}{c n:Nat}{vs:List V3}(hn:vs.length=n)(h:W.ownsRow B 27 3 (.slice q n c) n (zan vs)):zah W q vs:=by
 by_cases h0:vs.length=0
 ·exact .inl h0
 ·refine .inr ?_
  rcases h.2 with ⟨e1,_⟩|⟨g,cap,cur,e1,hb,hg,hm,hx,hs,ht⟩
  ·injection e1 with e1 e2;omega
  ·injection e1 with e1 e2 e3
   subst e1
   refine⟨g,0,rfl,(Array.getElem?_eq_some_iff.1 hg).1,fun j hj=>?_⟩
   obtain⟨a0,a1,a2⟩:=zeW hj
   have h1:=h.cells (g:=g) rfl _ _ a0
   have h2:=h.cells (g:=g) rfl _ _ a1
   have h3:=h.cells (g:=g) rfl _ _ a2
   rw[Go.WideShapes.add_plain] at h1 h2 h3
   exact⟨by simpa using h1,by simpa [Nat.add_assoc] using h2,by simpa [Nat.add_assoc] using h3⟩
theorem zkI:(Tryz.prog.info? 27).map (fun i=>(i.zero,i.size,i.bytes))=some (some (.agg #[.int .i64 0,.int .i64 0,.string ⟨#[]⟩]),3,32):=by kernel_rfl
def isAg(s:List UInt8):Bool:=decide (s=[99,111,117,110,116])||(decide (s=[115,117,109])||(decide (s=[108,101,97,115,116])||decide (s=[109,111,115,116])))
def aggsL:List (List UInt8):=[[99,111,117,110,116],[115,117,109],[108,101,97,115,116],[109,111,115,116]]
def aggsC:Array Value:=#[.string ⟨#[99,111,117,110,116]⟩,.string ⟨#[115,117,109]⟩,.string ⟨#[108,101,97,115,116]⟩,.string ⟨#[109,111,115,116]⟩]
structure AEnv(w:World):Prop where
 big:12≤w.heap.size
 ags:∃t fr,w.heap[2]?=some (.cells aggsC t fr)
theorem AEnv.onB{w w':World}{n:Nat}(h:AEnv w)(hb:Below n w w')(hn:12≤n)(hs:w.heap.size≤w'.heap.size):AEnv w':=by
 refine⟨by have:=h.big;omega,?_⟩
 obtain⟨t,fr,h1⟩:=h.ags
 exact⟨t,fr,by rw[hb.block _ (by omega)];exact h1⟩
theorem AEnv.on{w w':World}(h:AEnv w)(hb:Below w.heap.size w w'):AEnv w':=h.onB hb h.big hb.size
theorem zvn(k:Nat)(hk:k<4):∃S:ByteArray,(∀W:World,Sem.run Tryz.prog (Instr.index 193 (.agg aggsC) (.int .i64 (k:Int))) W=.ok (.string S) W)∧aggsL[k]'hk=S.data.toList:=by
 have h:k=0∨k=1∨k=2∨k=3:=by omega
 rcases h with rfl|rfl|rfl|rfl
 ·exact⟨⟨#[99,111,117,110,116]⟩,fun W=>by kernel_rfl,rfl⟩
 ·exact⟨⟨#[115,117,109]⟩,fun W=>by kernel_rfl,rfl⟩
 ·exact⟨⟨#[108,101,97,115,116]⟩,fun W=>by kernel_rfl,rfl⟩
 ·exact⟨⟨#[109,111,115,116]⟩,fun W=>by kernel_rfl,rfl⟩
theorem zqm(s:List UInt8):isAg s=aggsL.any (· == s):=by
 have e:∀a:List UInt8,decide (s=a)=(a == s):=fun a=>by
  by_cases h:s=a
  ·subst h;simp
  ·have h2:¬a=s:=fun h2=>h h2.symm
   simp[h,h2]
 simp only[isAg,aggsL,List.any_cons,List.any_nil,Bool.or_false,e]
theorem zeY(x:ByteArray)(w:World)(henv:AEnv w) :
  Calls Tryz.prog 90 #[.string x] w fun e w'=>e=.returned (.bool (isAg x.data.toList))∧w'=w:=by
 obtain⟨tt,fr,hgl⟩:=henv.ags
 rw[zqm]
 obtain⟨R,hR⟩:∃R,aggsL.any (· == x.data.toList)=R:=⟨_,rfl⟩
 have HR:Hid (aggsL.any (· == x.data.toList)=R):=hR
 rw[hR]
 clear hR
 go_enter Tryz.func90,Tryz.ntmps90
 go_wp2_with (refine wpList_load_row rfl 193 _ rfl 2 rfl tt _ fr _ hgl Tryz.underlying193 rfl (by kernel_rfl) ?_)
 have hat:=zvn
 generalize Value.agg aggsC=AR at hat ⊢
 clear hgl
 go_loopg [4,6] 4 (fun gg _ s6 wr=>∃kk:Nat,kk≤4∧4-kk≤gg∧s6=.int .i64 kk∧wr=w∧Hid ((aggsL.drop kk).any (· == x.data.toList)=R))
 case atStart=>exact⟨0,Nat.zero_le _,by omega,rfl,rfl,HR⟩
 case round =>
  obtain⟨kk,hkk,hg,rfl,rfl,HE⟩:=hrel
  clear HR
  by_cases hlt:kk<4
  ·have hltz:(kk:Int)<4:=by omega
   obtain⟨S,hS,hS1⟩:=hat kk hlt
   clear hat
   have hd:aggsL.drop kk=S.data.toList::aggsL.drop (kk+1):=by
    rw[List.drop_eq_getElem_cons (show kk<aggsL.length from hlt)]
    exact congrArg (·::_) hS1
   have HS:Hid ((S.data.toList::aggsL.drop (kk+1)).any (· == x.data.toList)=R):=by show _=_;rw[←hd];exact HE.out
   clear hd hS1 HE
   by_cases he:S.data.toList=x.data.toList
   ·have hq:(S.toList == x.toList)=true:=by rw[Lib.toList_data,Lib.toList_data];simpa using he
    have hR2:true=R:=by
     have hb:(S.data.toList == x.data.toList)=true:=by simpa using he
     rw[←HS.out,List.any_cons,hb];rfl
    subst hR2
    clear HS
    go_wp2
    go_ret
    exact⟨rfl,rfl⟩
   ·have hq:(S.toList == x.toList)=false:=by rw[Lib.toList_data,Lib.toList_data];simpa using he
    have HS2:Hid ((aggsL.drop (kk+1)).any (· == x.data.toList)=R):=by
     show _=_
     have hb:(S.data.toList == x.data.toList)=false:=by simpa using he
     rw[←HS.out,List.any_cons,hb,Bool.false_or]
    clear HS
    go_wp2
    go_roundg (4-(kk+1))
    case measure=>omega
    case rel=>exact⟨kk+1,by omega,by omega,by go_num,rfl,HS2⟩
  ·have hltz:¬(kk:Int)<4:=by omega
   have hR2:false=R:=by rw[←HE.out,List.drop_eq_nil_of_le (by show 4≤kk;omega)];rfl
   subst hR2
   clear HE
   go_wp2
   go_ret
   exact⟨rfl,rfl⟩
section
open Go.BigFrame
theorem zmD(t:Int)(w:World):Calls Tryz.prog 215 #[.int .i64 t] w fun e w'=>e=.returned (.bool (!isTy t))∧w'=w:=by
 by_cases h:t=1∨t=2∨t=3
 ·have hT:Hid (isTy t=true):=by show _=_;rw[isTy];rcases h with rfl|rfl|rfl<;>rfl
  have cT:=zcs t w h
  rw[hT.out]
  clear h hT
  go_enter Tryz.func215,Tryz.ntmps215
  go_wp2_with fail
  refine cT.mono ?_
  rintro e w1 ⟨rfl,hq⟩
  obtain rfl:w=w1:=hq.symm
  go_wp2
  go_ret
  exact⟨rfl,rfl⟩
 ·have hT:Hid (isTy t=false):=by show _=_;rw[isTy];simp;omega
  have cT:=zfw t w h
  rw[hT.out]
  clear h hT
  go_enter Tryz.func215,Tryz.ntmps215
  go_wp2_with fail
  refine cT.mono ?_
  rintro e w1 ⟨rfl,hq⟩
  obtain rfl:w=w1:=hq.symm
  go_wp2
  go_ret
  exact⟨rfl,rfl⟩
def zdv(w:World)(p:Option Addr)(ts:List Int):Prop:=ts.length=0∨∃b off,p=some ⟨b,off,none⟩∧b<w.heap.size∧∀j (h:j<ts.length),w.cell? ⟨b,off+j,none⟩=some (.int .i64 ts[j])
theorem zdv.on{w w':World}{p:Option Addr}{ts:List Int}(h:zdv w p ts)(hb:Below w.heap.size w w'):zdv w' p ts:=by
 rcases h with h|⟨b,off,rfl,hlt,h⟩
 ·exact .inl h
 ·exact .inr ⟨b,off,rfl,by have:=hb.size;omega,fun j hj=>by rw[hb.cell (p:=⟨b,off+j,none⟩) hlt];exact h j hj⟩
theorem zpY{ts:List Int}{k:Nat}(h:k<ts.length):(ts.take (k+1)).all isTy=((ts.take k).all isTy&&isTy ts[k]):=by
 rw[List.take_succ_eq_append_getElem h,List.all_append];simp
theorem ziY(p:Option Addr)(c:Nat)(ts:List Int)(w:World)(hl:ts.length≤9223372036854775807)(hts:zdv w p ts) :
  Calls Tryz.prog 176 #[.slice p ts.length c,.func (.func 215) #[] #[]] w fun e w'=>(∃r:Int,e=.returned (.int .i64 r)∧Hid ((0≤r∧ts.all isTy=false)∨(r=-1∧ts.all isTy=true)))∧w'=w:=by
 have HT:Aside (zdv w p ts):=hts
 obtain⟨B,hB⟩:∃B,ts.all isTy=B:=⟨_,rfl⟩
 have HB:Hid (ts.all isTy=B):=hB
 rw[hB]
 clear hts hB
 go_enter Tryz.func176,Tryz.ntmps176
 go_wp2
 go_loopg [5,8] ts.length (fun gg _ s8 wr=>∃kk:Nat,kk≤ts.length∧ts.length-kk≤gg∧s8=.int .i64 kk∧wr=w∧Hid ((ts.take kk).all isTy=true))
 case atStart=>exact⟨0,Nat.zero_le _,by omega,rfl,rfl,by show _=_;simp⟩
 case round =>
  obtain⟨kk,hkk,hg,rfl,hwr,HE⟩:=hrel
  obtain rfl:w=wr:=hwr.symm
  by_cases hlt:kk<ts.length
  ·have hltz:(kk:Int)<(ts.length:Int):=by omega
   have h0z:(0:Int)≤(kk:Int):=by omega
   rcases HT.out with h|⟨b,off,rfl,hbl,hc⟩
   ·exact absurd h (by omega)
   have ck:=hc kk hlt
   have cT:=zmD ts[kk] w
   have HS:Hid ((ts.take (kk+1)).all isTy=((ts.take kk).all isTy&&isTy ts[kk])):=zpY hlt
   have HD:Hid (isTy ts[kk]=false→B=false):=fun h=>by
    rw[←HB.out,List.all_eq_false];exact⟨ts[kk],List.getElem_mem hlt,by simp[h]⟩
   clear hc HT HB
   generalize ts[kk]=y at *
   generalize isTy y=Q at *
   cases Q
   ·go_wp2_with fail
    refine cT.mono ?_
    rintro e w1 ⟨rfl,hq⟩
    obtain rfl:w=w1:=hq.symm
    go_wp2
    go_ret
    have hBf:=HD.out (by simp)
    subst hBf
    exact⟨⟨_,rfl,by first|exact .inl ⟨by omega,rfl⟩|(show _;simp;omega)⟩,rfl⟩
   ·go_wp2_with fail
    refine cT.mono ?_
    rintro e w1 ⟨rfl,hq⟩
    obtain rfl:w=w1:=hq.symm
    have HE2:Hid ((ts.take (kk+1)).all isTy=true):=by show _=_;rw[HS.out,HE.out];rfl
    clear HS HD HE
    go_wp2
    go_roundg (ts.length-(kk+1))
    case measure=>omega
    case rel=>exact⟨kk+1,by omega,by omega,by go_num,rfl,HE2⟩
  ·have hltz:¬(kk:Int)<(ts.length:Int):=by omega
   have HA:Hid (B=true):=by
    show _=_
    have h:=HE.out
    rw[←HB.out]
    rwa [List.take_of_length_le (by omega)] at h
   clear HE HT HB
   go_wp2
   go_ret
   exact⟨⟨_,rfl,.inr ⟨rfl,HA.out⟩⟩,rfl⟩
theorem zfk(p:Option Addr)(c:Nat)(ts:List Int)(w:World)(hl:ts.length≤9223372036854775807)(hts:zdv w p ts) :
  Calls Tryz.prog 147 #[.slice p ts.length c,.func (.func 215) #[] #[]] w fun e w'=>e=.returned (.bool (!(ts.all isTy)))∧w'=w:=by
 have cI:=ziY p c ts w hl hts
 generalize ts.all isTy=B at *
 clear hts
 go_enter Tryz.func147,Tryz.ntmps147
 go_wp2_with fail
 refine cI.mono ?_
 rintro e w1 ⟨⟨r,rfl,hr⟩,hq⟩
 obtain rfl:w=w1:=hq.symm
 rcases hr.out with ⟨h1,h2⟩|⟨h1,h2⟩
 ·go_wp2
  go_ret
  exact⟨zaJ (by simp[h2]),rfl⟩
 ·subst h1
  go_wp2
  go_ret
  exact⟨zaJ (by simp[h2]),rfl⟩
theorem znt(t last:Int)(pa:Addr)(w:World)(hc:w.cell? pa=some (.int .i64 last)) :
  Calls Tryz.prog 217 #[.int .i64 t,.pointer (some pa)] w fun e w'=>e=.returned (.int .i64 (zbH last t))∧w'=w:=by
 by_cases h:t=-1
 ·have hm:zbH last t=last:=if_pos h
  rw[hm]
  subst h
  clear hm
  go_enter Tryz.func217,Tryz.ntmps217
  go_wp2
  go_ret
  exact⟨rfl,rfl⟩
 ·have hm:zbH last t=t:=if_neg h
  rw[hm]
  have hz:(t == -1)=false:=by simpa using h
  clear hm h
  go_enter Tryz.func217,Tryz.ntmps217
  go_wp2
  go_ret
  exact⟨rfl,rfl⟩
theorem zmy(S:ByteArray)(a0 a1 a2 ty:Int)(w:World)(C:Nat)(hC:kdCnt (S.data.toList,a0,a1,a2,ty)=C) :
  Calls Tryz.prog 216 #[.agg #[.string S,.int .i64 a0,.int .i64 a1,.int .i64 a2,.int .i64 ty]] w fun e w'=>e=.returned (.int .i64 (C:Nat))∧w'=w.alloc (.cells #[.string S,.int .i64 a0,.int .i64 a1,.int .i64 a2,.int .i64 ty] 309):=by
 rw[kdCnt] at hC
 simp only at hC
 by_cases h0:a0=0
 ·rw[if_pos h0] at hC
  subst hC
  have q0:(a0 != 0)=false:=by simpa using h0
  clear h0
  go_enter Tryz.func216,Tryz.ntmps216
  go_wp2
  refine wp_loop_rounds 1 ?_
  rw[rounds_succ]
  go_wp2
  go_ret
  exact⟨rfl,rfl⟩
 ·rw[if_neg h0] at hC
  have q0:(a0 != 0)=true:=by simpa using h0
  clear h0
  by_cases h1:a1=0
  ·rw[if_pos h1] at hC
   subst hC
   have q1:(a1 != 0)=false:=by simpa using h1
   clear h1
   go_enter Tryz.func216,Tryz.ntmps216
   go_wp2
   refine wp_loop_rounds 2 ?_
   rw[rounds_succ]
   go_wp2
   rw[rounds_succ]
   go_wp2
   go_ret
   exact⟨rfl,rfl⟩
  ·rw[if_neg h1] at hC
   have q1:(a1 != 0)=true:=by simpa using h1
   clear h1
   by_cases h2:a2=0
   ·rw[if_pos h2] at hC
    subst hC
    have q2:(a2 != 0)=false:=by simpa using h2
    clear h2
    go_enter Tryz.func216,Tryz.ntmps216
    go_wp2
    refine wp_loop_rounds 3 ?_
    rw[rounds_succ]
    go_wp2
    rw[rounds_succ]
    go_wp2
    rw[rounds_succ]
    go_wp2
    go_ret
    exact⟨rfl,rfl⟩
   ·rw[if_neg h2] at hC
    subst hC
    have q2:(a2 != 0)=true:=by simpa using h2
    clear h2
    go_enter Tryz.func216,Tryz.ntmps216
    go_wp2
    refine wp_loop_rounds 4 ?_
    rw[rounds_succ]
    go_wp2
    rw[rounds_succ]
    go_wp2
    rw[rounds_succ]
    go_wp2
    rw[rounds_succ]
    go_wp2
    go_ret
    exact⟨rfl,rfl⟩
theorem zbC(k pos:Int)(w:World)(henv:KEnv w) :
  Calls Tryz.prog 164 #[.iface 35 (.int .i64 k),.int .i64 pos] w fun e w'=>e=.returned (.agg #[.int .i64 k,.int .i64 pos])∧Below w.heap.size w w':=by
 have b1:Below w.heap.size w ((w.alloc (.cells #[.int .i64 0,.int .i64 0] 37)).alloc (.cells #[.int .i64 0] 35)):=((Below.refl _ w).alloc (Nat.le_refl _) _).alloc (by simp) _
 have hgA:=(henv.on b1).et
 have htA:((w.alloc (.cells #[.int .i64 0,.int .i64 0] 37)).alloc (.cells #[.int .i64 0] 35)).cell? ⟨w.heap.size+1,0,none⟩=some (.int .i64 0):=by rw[World.cell?_alloc_at _ _ _ _ (by simp)];rfl
 have hfA:((w.alloc (.cells #[.int .i64 0,.int .i64 0] 37)).alloc (.cells #[.int .i64 0] 35)).frozen? ⟨w.heap.size+1,0,none⟩=false:=by rw[World.frozen?_alloc_at _ _ _ _ (by simp)]
 have cA:Calls Tryz.prog 107 #[.iface 35 (.int .i64 k),.iface 174 (.pointer (some ⟨w.heap.size+1,0,none⟩))] ((w.alloc (.cells #[.int .i64 0,.int .i64 0] 37)).alloc (.cells #[.int .i64 0] 35)) fun e w2=>e=.returned (.bool true)∧w2.cell? ⟨w.heap.size+1,0,none⟩=some (.int .i64 k)∧w2.cell? ⟨w.heap.size,0,none⟩=some (.int .i64 0)∧w2.cell? ⟨w.heap.size,1,none⟩=some (.int .i64 0)∧(∀o,w2.frozen? ⟨w.heap.size,o,none⟩=false)∧w.heap.size+1<w2.heap.size∧Below w.heap.size w w2:=by
  refine (zsS k ⟨w.heap.size+1,0,none⟩ (.int .i64 0) _ hgA htA hfA).mono ?_
  rintro e w2 ⟨rfl,rfl⟩
  generalize hW:((w.alloc (.cells #[.int .i64 0,.int .i64 0] 37)).alloc (.cells #[.int .i64 0] 35))=W at *
  have hz:W.heap.size=w.heap.size+2:=by rw[←hW];simp
  have c0:W.cell? ⟨w.heap.size,0,none⟩=some (.int .i64 0):=by rw[←hW,World.cell?_alloc_lt _ _ _ (by simp),World.cell?_alloc_at _ _ _ _ rfl];rfl
  have c1:W.cell? ⟨w.heap.size,1,none⟩=some (.int .i64 0):=by rw[←hW,World.cell?_alloc_lt _ _ _ (by simp),World.cell?_alloc_at _ _ _ _ rfl];rfl
  have cf:∀o,W.frozen? ⟨w.heap.size,o,none⟩=false:=fun o=>by rw[←hW,World.frozen?_alloc_old _ _ _ (by simp),World.frozen?_alloc_at _ _ _ _ rfl]
  clear hW
  have B4:∀o1 o2 o3 o4,Below W.heap.size W ((((W.alloc o1).alloc o2).alloc o3).alloc o4):=fun o1 o2 o3 o4=>((((Below.refl _ W).alloc (Nat.le_refl _) o1).alloc (by simp) o2).alloc (by simp;omega) o3).alloc (by simp;omega) o4
  generalize hV:((((W.alloc (.cells #[.pointer (some ⟨w.heap.size+1,0,none⟩)] 174)).alloc _).alloc _).alloc _)=V
  have BV:Below W.heap.size W V:=by rw[←hV];exact B4 _ _ _ _
  have hzV:=BV.size
  have e0:V.cell? ⟨w.heap.size+1,0,none⟩=some (.int .i64 0):=by rw[BV.cell (p:=⟨w.heap.size+1,0,none⟩) (by show w.heap.size+1<_;omega)];exact htA
  have hne:(⟨w.heap.size+1,0,none⟩:Addr).block≠w.heap.size:=by simp
  refine⟨rfl,World.cell?_setCell_same V _ _ e0,?_,?_,?_,?_,?_⟩
  ·rw[World.cell?_setCell_other _ _ _ _ (by simp),BV.cell (p:=⟨w.heap.size,0,none⟩) (by show w.heap.size<_;omega)];exact c0
  ·rw[World.cell?_setCell_other _ _ _ _ (by simp),BV.cell (p:=⟨w.heap.size,1,none⟩) (by show w.heap.size<_;omega)];exact c1
  ·intro o
   have h:V.frozen? ⟨w.heap.size,o,none⟩=false:=by rw[BV.frozen (p:=⟨w.heap.size,o,none⟩) (by show w.heap.size<_;omega)];exact cf o
   simpa using h
  ·simp[World.setCell];omega
  ·exact (b1.trans (BV.mono (by omega))).setCell (p:=⟨w.heap.size+1,0,none⟩) (by simp) _
 clear hgA htA hfA henv
 go_enter Tryz.func164,Tryz.ntmps164
 go_wp2_with fail
 refine cA.mono ?_
 rintro e w2 ⟨rfl,c0,c1,c2,cf,hl,b2⟩
 have hl0:w.heap.size<w2.heap.size:=by omega
 clear cA b1
 go_wp2
 refine bodyPost_ret (v:=.agg #[.int .i64 k,.int .i64 pos]) (by simp[results,Tryz.results164,go_sem,World.cell?_setCell_other,World.cell?_setCell_same,c1,c2]) rfl ⟨rfl,?_⟩
 exact (b2.setCell (p:=⟨w.heap.size,0,none⟩) (Nat.le_refl _) _).setCell (p:=⟨w.heap.size,1,none⟩) (Nat.le_refl _) _
end
end Go.Proofs.YtopghagjmdbglaaGreatDoor
