/-
  Lex2, ErrIs, Lex3, Lex4, TreeEx, TreeP, TreeQ, OwnS.
-/
import Derived.Test.YtopghagjmdbglaaGreatDoorGyAb
import Derived.WalkSmall
import Derived.Test.YtopghagjmdbglaaGreatDoorProg
import Derived.WalkKit
import Derived.Below
import Derived.LaidEql
import Derived.Stop.Asserts
import Derived.RowKitTokens
import Derived.Lib.Strings
import Derived.Laws.RangeAny
import Derived.Deep.DeepCutAuto
import Derived.Test.YtopghagjmdbglaaGreatDoorGyAa
import Derived.OwnWalk
namespace Go.Proofs.YtopghagjmdbglaaGreatDoor
open Go.RowKit
set_option linter.unusedVariables false
set_option linter.unusedSimpArgs false
set_option maxHeartbeats 8000000
set_option maxRecDepth 20000
structure SG(w:World):Prop where
 c0:w.cell? ⟨1,0,none⟩=some (.string ⟨#[60,62]⟩)
 c1:w.cell? ⟨1,1,none⟩=some (.string ⟨#[60,61]⟩)
 c2:w.cell? ⟨1,2,none⟩=some (.string ⟨#[62,61]⟩)
 c3:w.cell? ⟨1,3,none⟩=some (.string ⟨#[60]⟩)
 c4:w.cell? ⟨1,4,none⟩=some (.string ⟨#[62]⟩)
 c5:w.cell? ⟨1,5,none⟩=some (.string ⟨#[61]⟩)
 c6:w.cell? ⟨1,6,none⟩=some (.string ⟨#[40]⟩)
 c7:w.cell? ⟨1,7,none⟩=some (.string ⟨#[41]⟩)
 c8:w.cell? ⟨1,8,none⟩=some (.string ⟨#[44]⟩)
 c9:w.cell? ⟨1,9,none⟩=some (.string ⟨#[43]⟩)
 c10:w.cell? ⟨1,10,none⟩=some (.string ⟨#[45]⟩)
 c11:w.cell? ⟨1,11,none⟩=some (.string ⟨#[42]⟩)
 c12:w.cell? ⟨1,12,none⟩=some (.string ⟨#[47]⟩)
 c13:w.cell? ⟨1,13,none⟩=some (.string ⟨#[37]⟩)
 lt:1<w.heap.size
theorem SG.on{w w':World}(h:SG w)(hb:Below w.heap.size w w'):SG w':=by
 have hl:=h.lt
 have hz:=hb.size
 have key:∀o:Nat,w'.cell? ⟨1,o,none⟩=w.cell? ⟨1,o,none⟩:=fun o=>hb.cell (p:=⟨1,o,none⟩) hl
 refine⟨?_,?_,?_,?_,?_,?_,?_,?_,?_,?_,?_,?_,?_,?_,by omega⟩
 ·rw[key];exact h.c0
 ·rw[key];exact h.c1
 ·rw[key];exact h.c2
 ·rw[key];exact h.c3
 ·rw[key];exact h.c4
 ·rw[key];exact h.c5
 ·rw[key];exact h.c6
 ·rw[key];exact h.c7
 ·rw[key];exact h.c8
 ·rw[key];exact h.c9
 ·rw[key];exact h.c10
 ·rw[key];exact h.c11
 ·rw[key];exact h.c12
 ·rw[key];exact h.c13
theorem zuw{l g:List UInt8}{k:Nat}(hk:k<zaG.length)(hg:zaG[k]=g)(hp:Lib.hasPrefix l g=true){E:Nat}(hE:E=sgN (zaG.drop k) l):E=g.length:=by
 rw[hE,List.drop_eq_getElem_cons hk,sgN,hg,if_pos hp]
theorem zqe{l g:List UInt8}{k:Nat}(hk:k<zaG.length)(hg:zaG[k]=g)(hp:Lib.hasPrefix l g=false){E:Nat}(hE:E=sgN (zaG.drop k) l):E=sgN (zaG.drop (k+1)) l:=by
 rw[hE,List.drop_eq_getElem_cons hk,sgN,hg,if_neg (by rw[hp];decide)]
theorem zsq(k:Nat)(hk:k<14):∃S:ByteArray,(∀W:World,Sem.run Tryz.prog (Instr.index 188 (.agg #[.string ⟨#[60,62]⟩,.string ⟨#[60,61]⟩,.string ⟨#[62,61]⟩,.string ⟨#[60]⟩,.string ⟨#[62]⟩,.string ⟨#[61]⟩,.string ⟨#[40]⟩,.string ⟨#[41]⟩,.string ⟨#[44]⟩,.string ⟨#[43]⟩,.string ⟨#[45]⟩,.string ⟨#[42]⟩,.string ⟨#[47]⟩,.string ⟨#[37]⟩]) (.int .i64 (k:Int))) W=.ok (.string S) W)∧zaG[k]'hk=S.data.toList∧1≤S.size∧S.size≤2:=by
 have h:k=0∨k=1∨k=2∨k=3∨k=4∨k=5∨k=6∨k=7∨k=8∨k=9∨k=10∨k=11∨k=12∨k=13:=by omega
 rcases h with rfl|rfl|rfl|rfl|rfl|rfl|rfl|rfl|rfl|rfl|rfl|rfl|rfl|rfl
 ·exact⟨⟨#[60,62]⟩,fun W=>by kernel_rfl,rfl,by decide,by decide⟩
 ·exact⟨⟨#[60,61]⟩,fun W=>by kernel_rfl,rfl,by decide,by decide⟩
 ·exact⟨⟨#[62,61]⟩,fun W=>by kernel_rfl,rfl,by decide,by decide⟩
 ·exact⟨⟨#[60]⟩,fun W=>by kernel_rfl,rfl,by decide,by decide⟩
 ·exact⟨⟨#[62]⟩,fun W=>by kernel_rfl,rfl,by decide,by decide⟩
 ·exact⟨⟨#[61]⟩,fun W=>by kernel_rfl,rfl,by decide,by decide⟩
 ·exact⟨⟨#[40]⟩,fun W=>by kernel_rfl,rfl,by decide,by decide⟩
 ·exact⟨⟨#[41]⟩,fun W=>by kernel_rfl,rfl,by decide,by decide⟩
 ·exact⟨⟨#[44]⟩,fun W=>by kernel_rfl,rfl,by decide,by decide⟩
 ·exact⟨⟨#[43]⟩,fun W=>by kernel_rfl,rfl,by decide,by decide⟩
 ·exact⟨⟨#[45]⟩,fun W=>by kernel_rfl,rfl,by decide,by decide⟩
 ·exact⟨⟨#[42]⟩,fun W=>by kernel_rfl,rfl,by decide,by decide⟩
 ·exact⟨⟨#[47]⟩,fun W=>by kernel_rfl,rfl,by decide,by decide⟩
 ·exact⟨⟨#[37]⟩,fun W=>by kernel_rfl,rfl,by decide,by decide⟩
theorem zgv(s:ByteArray)(w:World)(hw:SG w) :
  Calls Tryz.prog 86 #[.string s] w fun e w'=>e=.returned (.tuple #[.int .i64 (sgN zaG s.data.toList:Nat),.int .i64 (if sgN zaG s.data.toList=0 then 2 else 0)])∧w'=w:=by
 obtain⟨E,hE⟩:∃E,sgN zaG s.data.toList=E:=⟨_,rfl⟩
 rw[hE]
 obtain⟨Z,hZ⟩:∃Z:Int,(if E=0 then 2 else 0)=Z:=⟨_,rfl⟩
 rw[hZ]
 have HZ:Hid ((if E=0 then 2 else 0)=Z):=hZ
 have HE0:Hid (sgN zaG s.data.toList=E):=hE
 clear hZ hE
 obtain⟨g0,g1,g2,g3,g4,g5,g6,g7,g8,g9,g10,g11,g12,g13,gl⟩:=hw
 go_enter Tryz.func86,Tryz.ntmps86
 go_wp2
 go_loopg [5,7] 14 (fun gg _ s7 wr=>∃kk:Nat,kk≤14∧14-kk≤gg∧s7=.int .i64 kk∧wr=w∧Hid (E=sgN (zaG.drop kk) s.data.toList))
 case atStart=>exact⟨0,Nat.zero_le _,by omega,rfl,rfl,HE0.out.symm⟩
 case round =>
  obtain⟨kk,hkk,hg,rfl,rfl,HE⟩:=hrel
  by_cases hlt:kk<14
  ·have hltz:(kk:Int)<14:=by omega
   obtain⟨S,hS,hS1,hS2,hS3⟩:=zsq kk hlt
   have cP:=fun W=>Tryz.strings_HasPrefix s S W
   cases hp:Lib.hasPrefix s.data.toList S.data.toList
   ·rw[hp] at cP
    have HE2:Hid (E=sgN (zaG.drop (kk+1)) s.data.toList):=zqe hlt hS1 hp HE.out
    clear hp HE hS1 g0 g1 g2 g3 g4 g5 g6 g7 g8 g9 g10 g11 g12 g13
    go_wp2_with fail
    refine (cP _).mono ?_
    rintro e w' ⟨rfl,rfl⟩
    go_wp2
    go_roundg (14-(kk+1))
    case measure=>omega
    case rel=>exact⟨kk+1,by omega,by omega,by go_num,rfl,HE2⟩
   ·rw[hp] at cP
    have HE2:E=S.size:=by rw[zuw hlt hS1 hp HE.out,Lib.size_eq]
    have HE3:Hid (E=S.size):=HE2
    clear hp HE hS1 HE2 g0 g1 g2 g3 g4 g5 g6 g7 g8 g9 g10 g11 g12 g13
    go_wp2_with fail
    refine (cP _).mono ?_
    rintro e w' ⟨rfl,rfl⟩
    go_wp2
    go_ret2
    refine⟨?_,rfl⟩
    have hz:=HZ.out
    rw[HE3.out,if_neg (by omega)] at hz
    rw[HE3.out,←hz]
    rfl
  ·have hltz:¬(kk:Int)<14:=by omega
   have HE2:E=0:=by
    rw[HE.out,List.drop_eq_nil_of_le (by show 14≤kk;omega)];rfl
   subst HE2
   have hz:2=Z:=by have:=HZ.out;rwa [if_pos rfl] at this
   subst hz
   clear HE HZ HE0 g0 g1 g2 g3 g4 g5 g6 g7 g8 g9 g10 g11 g12 g13
   go_wp2
   go_ret2
   exact⟨rfl,rfl⟩
theorem ziw:∀(l:List UInt8) (a u:Nat),l.all digB=true→Lib.parseUint10 a l=.ok u→u=l.foldl (fun a c=>a*10+(c.toNat-48)) a
 | [],a,u,_,h=>by
  simp only[Lib.parseUint10] at h
  injection h with h
  exact h.symm
 | c::r,a,u,ha,h=>by
  rw[List.all_cons,Bool.and_eq_true] at ha
  simp only[Lib.parseUint10] at h
  split at h
  ·split at h
   ·cases h
   ·split at h
    ·cases h
    ·exact ziw r _ u ha.2 h
  ·cases h
theorem zkg{t:List UInt8}(hne:t≠[])(ha:t.all digB=true)(hz:¬(1<t.length∧t.head?=some 48)):(val10 t≤9223372036854775807→Lib.atoiAll t=.ok (val10 t:Nat))∧(9223372036854775807<val10 t→∀n,Lib.atoiAll t≠.ok n):=by
 constructor
 ·intro hv
  have hl:t.length≠0:=fun e=>hne (List.length_eq_zero_iff.1 e)
  have hd:=zoO (t.length-1) t (by omega) ha (fun r e=>Classical.byContradiction fun hr=>hz ⟨by rw[e];cases r with|nil=>exact absurd rfl hr|cons _ _=>simp,by rw[e];rfl⟩)
  have hi:Lib.itoa (val10 t:Nat)=t:=by rw[Lib.itoa,if_neg (by omega),show ((val10 t:Nat):Int).toNat=val10 t from by omega,hd]
  have:=znw (val10 t:Nat) (by omega)
  rwa [hi] at this
 ·intro hv n hn
  cases t with
  | nil=>exact hne rfl
  | cons c r =>
   have hc:=(zhl c).1 (by rw[List.all_cons,Bool.and_eq_true] at ha;exact ha.1)
   simp only[Lib.atoiAll] at hn
   rw[if_neg (by omega)] at hn
   split at hn
   ·cases hn
   ·cases hn
   ·rename_i u hu
    rw[Lib.parseMag,if_neg (by simp)] at hu
    have hu2:u=val10 (c::r):=ziw _ 0 u ha hu
    rw[if_pos ⟨by omega,by omega⟩] at hn
    cases hn
theorem zlw(s:ByteArray)(n:Nat)(h:n≤s.size):∃X:ByteArray,(∀W:World,Sem.run Tryz.prog (Instr.slice 9 (.string s) none (some (.int .i64 (n:Int))) none) W=.ok (.string X) W)∧X.data.toList=s.data.toList.take n∧X.size=n:=by
 refine⟨s.extract 0 n,fun W=>?_,?_,?_⟩
 ·have:=run_slice_string_h (P:=Tryz.prog) W 9 s Tryz.underlying9 .i64 (n:Int) (by omega) (by omega)
  rw[this]
  simp
 ·simp
 ·simp;omega
theorem ziy(s:ByteArray)(n:Nat)(h:n≤s.size):∃X:ByteArray,(∀W:World,Sem.run Tryz.prog (Instr.slice 9 (.string s) (some (.int .i64 (n:Int))) none none) W=.ok (.string X) W)∧X.data.toList=s.data.toList.drop n∧X.size=s.size-n:=by
 refine⟨s.extract n s.size,fun W=>?_,?_,?_⟩
 ·have:=run_slice_string_l (P:=Tryz.prog) W 9 s Tryz.underlying9 .i64 (n:Int) (by omega) (by omega)
  rw[this]
  simp
 ·have:(s.extract n s.size).data.toList=(s.data.toList.drop n).take (s.size-n):=by simp
  rw[this,List.take_of_length_le (by simp)]
 ·simp
theorem zoa(s:ByteArray)(a b:Nat)(h1:a≤b)(h:b≤s.size):∃X:ByteArray,(∀W:World,Sem.run Tryz.prog (Instr.slice 9 (.string s) (some (.int .i64 (a:Int))) (some (.int .i64 (b:Int))) none) W=.ok (.string X) W)∧X.data.toList=(s.data.toList.drop a).take (b-a)∧X.size=b-a:=by
 refine⟨s.extract a b,fun W=>?_,?_,?_⟩
 ·have:=run_slice_string (P:=Tryz.prog) W 9 s .i64 .i64 (a:Int) (b:Int) Tryz.underlying9 (by omega) (by omega) (by omega)
  rw[this]
  simp
 ·simp
 ·simp;omega
section
open Go.Extern.Stop Go.Stop Go.Extern
theorem Is.typeOfE(v:Value)(w:World):(ReflectliteType.typeOf #[.iface 35 v]).run Tryz.prog w=.ok (.iface 127 (.agg #[.pointer (some ⟨12,35,none⟩)])) w:=by kernel_rfl
theorem Is.methodComparable (h : Value) (w : World) : (Go.method 494 127 (.agg #[h]) "Comparable").run Tryz.prog w = .ok (291, .agg #[h]) w := by kernel_rfl
theorem Is.no1(v:Value)(xT:TypeId)(w:World):(Instr.typeAssert (.iface 35 v) xT 129 true).run Tryz.prog w=.ok (.tuple #[.nilIface,.bool false]) w:=run_typeAssert_lacksB Tryz.underlying129 (by kernel_rfl) (by kernel_rfl) v xT w
theorem Is.no2(v:Value)(xT:TypeId)(w:World):(Instr.typeAssert (.iface 35 v) xT 132 true).run Tryz.prog w=.ok (.tuple #[.nilIface,.bool false]) w:=run_typeAssert_lacksB Tryz.underlying132 (by kernel_rfl) (by kernel_rfl) v xT w
theorem Is.no3(v:Value)(xT:TypeId)(w:World):(Instr.typeAssert (.iface 35 v) xT 134 true).run Tryz.prog w=.ok (.tuple #[.nilIface,.bool false]) w:=run_typeAssert_lacksB Tryz.underlying134 (by kernel_rfl) (by kernel_rfl) v xT w
theorem Is.eql(n m:Int)(W:World):Sem.run Tryz.prog (binOp .eql 42 (.iface 35 (.int .i64 n)) (.iface 35 (.int .i64 m))) W=.ok (.bool (n == m)) W:=by kernel_rfl
theorem Is.guard(n m:Int)(W:World)(j k:Nat):Sem.run Tryz.prog (eqGuard .eql 42 (.tmp j) (.tmp k) (.iface 35 (.int .i64 n)) (.iface 35 (.int .i64 m))) W=.ok () W:=by kernel_rfl
theorem zuM(n m:Int)(w:World) :
  Calls Tryz.prog 32 #[.iface 35 (.int .i64 n),.iface 35 (.int .i64 m),.bool true] w fun e w'=>e=.returned (.bool (n == m))∧w'=w:=by
 by_cases h:n=m
 ·have hb:(n == m)=true:=by simpa using h
  rw[hb]
  have q1:=Is.eql n m
  rw[hb] at q1
  have q2:=Is.guard n m
  have a1:=Is.no1
  have a2:=Is.no2
  have a3:=Is.no3
  clear h hb
  go_enter Tryz.func32,Tryz.ntmps32
  go_wp2
  refine wp_loop_rounds 1 ?_
  rw[rounds_succ]
  go_wp2
  go_ret
  exact⟨rfl,rfl⟩
 ·have hb:(n == m)=false:=by simpa using h
  rw[hb]
  have q1:=Is.eql n m
  rw[hb] at q1
  have q2:=Is.guard n m
  have a1:=Is.no1
  have a2:=Is.no2
  have a3:=Is.no3
  clear h hb
  go_enter Tryz.func32,Tryz.ntmps32
  go_wp2
  refine wp_loop_rounds 1 ?_
  rw[rounds_succ]
  go_wp2
  go_ret
  exact⟨rfl,rfl⟩
theorem Is.comparable(w:World):(ReflectliteType.method (fun t=>do
  Rtype.noPackHeld "Comparable" t
  (fun a=>Value.bool a.comparable) <$> typeInfo t) #[.agg #[.pointer (some ⟨12,35,none⟩)]]).run Tryz.prog w=.ok (.bool true) w:=by kernel_rfl
theorem zbX(n m:Int)(w:World) :
  Calls Tryz.prog 16 #[.iface 35 (.int .i64 n),.iface 35 (.int .i64 m)] w fun e w'=>e=.returned (.bool (n == m))∧w'=w:=by
 have h10:=@run_callFunc_extern Tryz.prog 31 _ ReflectliteType.typeOf Tryz.func31 (by kernel_rfl) (by kernel_rfl) (by kernel_rfl) (by kernel_rfl)
 have h11 := @run_callFunc_extern Tryz.prog 291 _ (ReflectliteType.method (fun t => do Rtype.noPackHeld "Comparable" t; pure (.bool (← typeInfo t).comparable))) Tryz.func291 (by kernel_rfl) (by kernel_rfl) (by kernel_rfl) (by kernel_rfl)
 have tO:=Is.typeOfE
 have mC:=Is.methodComparable
 have cC:=Is.comparable
 go_enter Tryz.func16,Tryz.ntmps16
 go_wp2_with fail
 refine (zuM n m _).mono ?_
 rintro e w' ⟨rfl,rfl⟩
 go_wp2
 go_ret
 exact⟨rfl,rfl⟩
end
theorem hd_at{p:UInt8→Bool}{s:ByteArray}{k:Nat}(h:k<s.size):hdB p (s.data.toList.drop k)=p s[k]:=by rw[zaE s k h];rfl
theorem ztp{p:UInt8→Bool}{s:ByteArray}{k:Nat}(h:s.size≤k):hdB p (s.data.toList.drop k)=false:=by rw[List.drop_eq_nil_of_le (by simp;omega)];rfl
theorem zgK{s:ByteArray}(h:0<s.size):s.data.toList.head?=some s[0]:=by
 have e:s.data.toList=s[0]::s.data.toList.drop 1:=by have:=zaE s 0 h;simpa using this
 rw[e];rfl
theorem u8_48{c:UInt8}:(c.toNat:Int)=48↔c=48 :=
 ⟨fun h=>UInt8.toNat_inj.1 (by rw[show (48:UInt8).toNat=48 from rfl];omega),fun h=>by rw[h];rfl⟩
theorem zqB{s X:ByteArray}(hp:0<s.size)(hN:0<goN digB s.data.toList)(hX:X.data.toList=s.data.toList.take (goN digB s.data.toList))(hz:¬(1<goN digB s.data.toList∧s.data.toList.head?=some 48)) :
  (val10 X.data.toList≤9223372036854775807→Lib.atoiAll X.data.toList=.ok (val10 X.data.toList:Nat))∧(9223372036854775807<val10 X.data.toList→∀n,Lib.atoiAll X.data.toList≠.ok n):=by
 have hle:=zdC digB s.data.toList
 have hlen:X.data.toList.length=goN digB s.data.toList:=by rw[hX,List.length_take];omega
 refine zkg (fun e=>by rw[e] at hlen;simp at hlen;omega) (by rw[hX];exact zcP _ _) ?_
 rintro ⟨h1,h2⟩
 refine hz ⟨by omega,?_⟩
 rw[hX,List.head?_take,if_neg (by omega)] at h2
 exact h2
theorem zfT(s:ByteArray)(N:Nat)(w:World)(hs:s.size≤140737488355328)(hlt:N<s.size)(hN:goN digB s.data.toList=N)(hl:letB s[N]=true) :
  Calls Tryz.prog 84 #[.string s] w fun e w'=>e=.returned (.tuple #[.int .i64 0,.int .i64 2])∧w'=w:=by
 have cG:=fun W=>zam s W (by unfold maxLen;omega)
 rw[hN] at cG
 have cL:=zay s[N]
 rw[hl] at cL
 have hltz:(N:Int)<(s.size:Int):=by omega
 have hp:0<s.size:=by omega
 clear hN hl
 go_enter Tryz.func84,Tryz.ntmps84
 go_wp2_with (first|(go_at_call 46;refine (cG _).mono ?_;rintro e w' ⟨rfl,rfl⟩)|(go_at_call 81;refine (cL _).mono ?_;rintro e w' ⟨rfl,rfl⟩))
 all_goals
  go_ret2
  exact⟨rfl,rfl⟩
theorem zfh(s:ByteArray)(N:Nat)(w:World)(hs:s.size≤140737488355328)(hp:0<s.size)(hlt:N<s.size)(hl:letB s[N]=false)(hN:goN digB s.data.toList=N)(h1:1<N)(h0:s[0]=48) :
  Calls Tryz.prog 84 #[.string s] w fun e w'=>e=.returned (.tuple #[.int .i64 0,.int .i64 2])∧w'=w:=by
 have cG:=fun W=>zam s W (by unfold maxLen;omega)
 rw[hN] at cG
 have cL:=zay s[N]
 rw[hl] at cL
 have hltz:(N:Int)<(s.size:Int):=by omega
 clear hl
 have h1z:(1:Int)<(N:Int):=by omega
 have h0z:((s[0].toNat:Int) == 48)=true:=by rw[h0];rfl
 clear hN h0
 go_enter Tryz.func84,Tryz.ntmps84
 go_wp2_with (first|(go_at_call 46;refine (cG _).mono ?_;rintro e w' ⟨rfl,rfl⟩)|(go_at_call 81;refine (cL _).mono ?_;rintro e w' ⟨rfl,rfl⟩))
 go_ret2
 exact⟨rfl,rfl⟩
theorem zfl(s X:ByteArray)(N:Nat)(w:World)(henv:Env w)(hs:s.size≤140737488355328)(hp:0<s.size)(hNs:N≤s.size)(hlt:N<s.size)(hl:letB s[N]=false)(hN:goN digB s.data.toList=N)(hX:∀W:World,Sem.run Tryz.prog (Instr.slice 9 (.string s) none (some (.int .i64 (N:Int))) none) W=.ok (.string X) W)(hXs:X.size≤140737488355328)(h1:1<N)(h0:s[0]≠48)(hv:∃n,Lib.atoiAll X.data.toList=.ok n) :
  Calls Tryz.prog 84 #[.string s] w fun e w'=>e=.returned (.tuple #[.int .i64 (N:Nat),.int .i64 0])∧Below w.heap.size w w':=by
 have cG:=fun W=>zam s W (by unfold maxLen;omega)
 rw[hN] at cG
 have cL:=zay s[N]
 rw[hl] at cL
 have hltz:(N:Int)<(s.size:Int):=by omega
 clear hl
 have h1z:(1:Int)<(N:Int):=by omega
 have h0z:((s[0].toNat:Int) == 48)=false:=by rw[beq_eq_false_iff_ne];exact fun e=>h0 (u8_48.1 e)
 clear h0
 obtain⟨n,hn⟩:=hv
 have HV:Hid (Lib.atoiAll X.data.toList=.ok n):=hn
 clear hn
 clear hN
 go_enter Tryz.func84,Tryz.ntmps84
 go_wp2_with (first|(go_at_call 46;refine (cG _).mono ?_;rintro e w' ⟨rfl,hq⟩;obtain rfl:w=w':=hq.symm)|(go_at_call 81;refine (cL _).mono ?_;rintro e w' ⟨rfl,hq2⟩;obtain rfl:w=w':=hq2.symm))
 refine (zdy X n _ hXs HV.out).mono ?_
 rintro e w1 ⟨rfl,b1⟩
 go_wp2
 go_ret2
 exact⟨rfl,b1⟩
theorem zdX(s X:ByteArray)(N:Nat)(w:World)(henv:Env w)(hs:s.size≤140737488355328)(hp:0<s.size)(hNs:N≤s.size)(hlt:N<s.size)(hl:letB s[N]=false)(hN:goN digB s.data.toList=N)(hX:∀W:World,Sem.run Tryz.prog (Instr.slice 9 (.string s) none (some (.int .i64 (N:Int))) none) W=.ok (.string X) W)(hXs:X.size≤140737488355328)(h1:1<N)(h0:s[0]≠48)(hv:∀n,Lib.atoiAll X.data.toList≠.ok n) :
  Calls Tryz.prog 84 #[.string s] w fun e w'=>e=.returned (.tuple #[.int .i64 0,.int .i64 1])∧Below w.heap.size w w':=by
 have cG:=fun W=>zam s W (by unfold maxLen;omega)
 rw[hN] at cG
 have cL:=zay s[N]
 rw[hl] at cL
 have hltz:(N:Int)<(s.size:Int):=by omega
 clear hl
 have h1z:(1:Int)<(N:Int):=by omega
 have h0z:((s[0].toNat:Int) == 48)=false:=by rw[beq_eq_false_iff_ne];exact fun e=>h0 (u8_48.1 e)
 clear h0
 have HV:Hid (∀n,Lib.atoiAll X.data.toList≠.ok n):=hv
 clear hv
 clear hN
 go_enter Tryz.func84,Tryz.ntmps84
 go_wp2_with (first|(go_at_call 46;refine (cG _).mono ?_;rintro e w' ⟨rfl,hq⟩;obtain rfl:w=w':=hq.symm)|(go_at_call 81;refine (cL _).mono ?_;rintro e w' ⟨rfl,hq2⟩;obtain rfl:w=w':=hq2.symm))
 refine (zcH X _ hXs HV.out henv).mono ?_
 rintro e w1 ⟨n,t,v,rfl,b1⟩
 go_wp2
 go_ret2
 exact⟨rfl,b1⟩
theorem zeC(s X:ByteArray)(N:Nat)(w:World)(henv:Env w)(hs:s.size≤140737488355328)(hp:0<s.size)(hNs:N≤s.size)(hlt:N<s.size)(hl:letB s[N]=false)(hN:goN digB s.data.toList=N)(hX:∀W:World,Sem.run Tryz.prog (Instr.slice 9 (.string s) none (some (.int .i64 (N:Int))) none) W=.ok (.string X) W)(hXs:X.size≤140737488355328)(h1:¬1<N)(hv:∃n,Lib.atoiAll X.data.toList=.ok n) :
  Calls Tryz.prog 84 #[.string s] w fun e w'=>e=.returned (.tuple #[.int .i64 (N:Nat),.int .i64 0])∧Below w.heap.size w w':=by
 have cG:=fun W=>zam s W (by unfold maxLen;omega)
 rw[hN] at cG
 have cL:=zay s[N]
 rw[hl] at cL
 have hltz:(N:Int)<(s.size:Int):=by omega
 clear hl
 have h1z:¬(1:Int)<(N:Int):=by omega
 obtain⟨n,hn⟩:=hv
 have HV:Hid (Lib.atoiAll X.data.toList=.ok n):=hn
 clear hn
 clear hN
 go_enter Tryz.func84,Tryz.ntmps84
 go_wp2_with (first|(go_at_call 46;refine (cG _).mono ?_;rintro e w' ⟨rfl,hq⟩;obtain rfl:w=w':=hq.symm)|(go_at_call 81;refine (cL _).mono ?_;rintro e w' ⟨rfl,hq2⟩;obtain rfl:w=w':=hq2.symm))
 refine (zdy X n _ hXs HV.out).mono ?_
 rintro e w1 ⟨rfl,b1⟩
 go_wp2
 go_ret2
 exact⟨rfl,b1⟩
theorem zea(s X:ByteArray)(N:Nat)(w:World)(henv:Env w)(hs:s.size≤140737488355328)(hp:0<s.size)(hNs:N≤s.size)(hlt:N<s.size)(hl:letB s[N]=false)(hN:goN digB s.data.toList=N)(hX:∀W:World,Sem.run Tryz.prog (Instr.slice 9 (.string s) none (some (.int .i64 (N:Int))) none) W=.ok (.string X) W)(hXs:X.size≤140737488355328)(h1:¬1<N)(hv:∀n,Lib.atoiAll X.data.toList≠.ok n) :
  Calls Tryz.prog 84 #[.string s] w fun e w'=>e=.returned (.tuple #[.int .i64 0,.int .i64 1])∧Below w.heap.size w w':=by
 have cG:=fun W=>zam s W (by unfold maxLen;omega)
 rw[hN] at cG
 have cL:=zay s[N]
 rw[hl] at cL
 have hltz:(N:Int)<(s.size:Int):=by omega
 clear hl
 have h1z:¬(1:Int)<(N:Int):=by omega
 have HV:Hid (∀n,Lib.atoiAll X.data.toList≠.ok n):=hv
 clear hv
 clear hN
 go_enter Tryz.func84,Tryz.ntmps84
 go_wp2_with (first|(go_at_call 46;refine (cG _).mono ?_;rintro e w' ⟨rfl,hq⟩;obtain rfl:w=w':=hq.symm)|(go_at_call 81;refine (cL _).mono ?_;rintro e w' ⟨rfl,hq2⟩;obtain rfl:w=w':=hq2.symm))
 refine (zcH X _ hXs HV.out henv).mono ?_
 rintro e w1 ⟨n,t,v,rfl,b1⟩
 go_wp2
 go_ret2
 exact⟨rfl,b1⟩
theorem zef(s:ByteArray)(N:Nat)(w:World)(hs:s.size≤140737488355328)(hp:0<s.size)(hlt:s.size≤N)(hN:goN digB s.data.toList=N)(h1:1<N)(h0:s[0]=48) :
  Calls Tryz.prog 84 #[.string s] w fun e w'=>e=.returned (.tuple #[.int .i64 0,.int .i64 2])∧w'=w:=by
 have cG:=fun W=>zam s W (by unfold maxLen;omega)
 rw[hN] at cG
 have hltz:¬(N:Int)<(s.size:Int):=by omega
 have h1z:(1:Int)<(N:Int):=by omega
 have h0z:((s[0].toNat:Int) == 48)=true:=by rw[h0];rfl
 clear hN h0
 go_enter Tryz.func84,Tryz.ntmps84
 go_wp2_with (first|(go_at_call 46;refine (cG _).mono ?_;rintro e w' ⟨rfl,rfl⟩))
 go_ret2
 exact⟨rfl,rfl⟩
theorem zee(s X:ByteArray)(N:Nat)(w:World)(henv:Env w)(hs:s.size≤140737488355328)(hp:0<s.size)(hNs:N≤s.size)(hlt:s.size≤N)(hN:goN digB s.data.toList=N)(hX:∀W:World,Sem.run Tryz.prog (Instr.slice 9 (.string s) none (some (.int .i64 (N:Int))) none) W=.ok (.string X) W)(hXs:X.size≤140737488355328)(h1:1<N)(h0:s[0]≠48)(hv:∃n,Lib.atoiAll X.data.toList=.ok n) :
  Calls Tryz.prog 84 #[.string s] w fun e w'=>e=.returned (.tuple #[.int .i64 (N:Nat),.int .i64 0])∧Below w.heap.size w w':=by
 have cG:=fun W=>zam s W (by unfold maxLen;omega)
 rw[hN] at cG
 have hltz:¬(N:Int)<(s.size:Int):=by omega
 have h1z:(1:Int)<(N:Int):=by omega
 have h0z:((s[0].toNat:Int) == 48)=false:=by rw[beq_eq_false_iff_ne];exact fun e=>h0 (u8_48.1 e)
 clear h0
 obtain⟨n,hn⟩:=hv
 have HV:Hid (Lib.atoiAll X.data.toList=.ok n):=hn
 clear hn
 clear hN
 go_enter Tryz.func84,Tryz.ntmps84
 go_wp2_with (first|(go_at_call 46;refine (cG _).mono ?_;rintro e w' ⟨rfl,hq⟩;obtain rfl:w=w':=hq.symm))
 refine (zdy X n _ hXs HV.out).mono ?_
 rintro e w1 ⟨rfl,b1⟩
 go_wp2
 go_ret2
 exact⟨rfl,b1⟩
theorem zdq(s X:ByteArray)(N:Nat)(w:World)(henv:Env w)(hs:s.size≤140737488355328)(hp:0<s.size)(hNs:N≤s.size)(hlt:s.size≤N)(hN:goN digB s.data.toList=N)(hX:∀W:World,Sem.run Tryz.prog (Instr.slice 9 (.string s) none (some (.int .i64 (N:Int))) none) W=.ok (.string X) W)(hXs:X.size≤140737488355328)(h1:1<N)(h0:s[0]≠48)(hv:∀n,Lib.atoiAll X.data.toList≠.ok n) :
  Calls Tryz.prog 84 #[.string s] w fun e w'=>e=.returned (.tuple #[.int .i64 0,.int .i64 1])∧Below w.heap.size w w':=by
 have cG:=fun W=>zam s W (by unfold maxLen;omega)
 rw[hN] at cG
 have hltz:¬(N:Int)<(s.size:Int):=by omega
 have h1z:(1:Int)<(N:Int):=by omega
 have h0z:((s[0].toNat:Int) == 48)=false:=by rw[beq_eq_false_iff_ne];exact fun e=>h0 (u8_48.1 e)
 clear h0
 have HV:Hid (∀n,Lib.atoiAll X.data.toList≠.ok n):=hv
 clear hv
 clear hN
 go_enter Tryz.func84,Tryz.ntmps84
 go_wp2_with (first|(go_at_call 46;refine (cG _).mono ?_;rintro e w' ⟨rfl,hq⟩;obtain rfl:w=w':=hq.symm))
 refine (zcH X _ hXs HV.out henv).mono ?_
 rintro e w1 ⟨n,t,v,rfl,b1⟩
 go_wp2
 go_ret2
 exact⟨rfl,b1⟩
theorem zdZ(s X:ByteArray)(N:Nat)(w:World)(henv:Env w)(hs:s.size≤140737488355328)(hp:0<s.size)(hNs:N≤s.size)(hlt:s.size≤N)(hN:goN digB s.data.toList=N)(hX:∀W:World,Sem.run Tryz.prog (Instr.slice 9 (.string s) none (some (.int .i64 (N:Int))) none) W=.ok (.string X) W)(hXs:X.size≤140737488355328)(h1:¬1<N)(hv:∃n,Lib.atoiAll X.data.toList=.ok n) :
  Calls Tryz.prog 84 #[.string s] w fun e w'=>e=.returned (.tuple #[.int .i64 (N:Nat),.int .i64 0])∧Below w.heap.size w w':=by
 have cG:=fun W=>zam s W (by unfold maxLen;omega)
 rw[hN] at cG
 have hltz:¬(N:Int)<(s.size:Int):=by omega
 have h1z:¬(1:Int)<(N:Int):=by omega
 obtain⟨n,hn⟩:=hv
 have HV:Hid (Lib.atoiAll X.data.toList=.ok n):=hn
 clear hn
 clear hN
 go_enter Tryz.func84,Tryz.ntmps84
 go_wp2_with (first|(go_at_call 46;refine (cG _).mono ?_;rintro e w' ⟨rfl,hq⟩;obtain rfl:w=w':=hq.symm))
 refine (zdy X n _ hXs HV.out).mono ?_
 rintro e w1 ⟨rfl,b1⟩
 go_wp2
 go_ret2
 exact⟨rfl,b1⟩
theorem zdx(s X:ByteArray)(N:Nat)(w:World)(henv:Env w)(hs:s.size≤140737488355328)(hp:0<s.size)(hNs:N≤s.size)(hlt:s.size≤N)(hN:goN digB s.data.toList=N)(hX:∀W:World,Sem.run Tryz.prog (Instr.slice 9 (.string s) none (some (.int .i64 (N:Int))) none) W=.ok (.string X) W)(hXs:X.size≤140737488355328)(h1:¬1<N)(hv:∀n,Lib.atoiAll X.data.toList≠.ok n) :
  Calls Tryz.prog 84 #[.string s] w fun e w'=>e=.returned (.tuple #[.int .i64 0,.int .i64 1])∧Below w.heap.size w w':=by
 have cG:=fun W=>zam s W (by unfold maxLen;omega)
 rw[hN] at cG
 have hltz:¬(N:Int)<(s.size:Int):=by omega
 have h1z:¬(1:Int)<(N:Int):=by omega
 have HV:Hid (∀n,Lib.atoiAll X.data.toList≠.ok n):=hv
 clear hv
 clear hN
 go_enter Tryz.func84,Tryz.ntmps84
 go_wp2_with (first|(go_at_call 46;refine (cG _).mono ?_;rintro e w' ⟨rfl,hq⟩;obtain rfl:w=w':=hq.symm))
 refine (zcH X _ hXs HV.out henv).mono ?_
 rintro e w1 ⟨n,t,v,rfl,b1⟩
 go_wp2
 go_ret2
 exact⟨rfl,b1⟩
theorem zed(s:ByteArray)(w:World)(henv:Env w)(hs:s.size≤140737488355328)(hp:0<s.size)(hd:digB s[0]=true) :
  Calls Tryz.prog 84 #[.string s] w fun e w'=>e=.returned (.tuple #[.int .i64 ((zaU s.data.toList).1:Nat),.int .i64 (zaU s.data.toList).2])∧Below w.heap.size w w':=by
 have h0:0<goN digB s.data.toList:=by
  have:=zaE s 0 hp
  rw[List.drop_zero] at this
  rw[this,zej _ hd];omega
 have hle:goN digB s.data.toList≤s.size:=by have:=zdC digB s.data.toList;simpa using this
 obtain⟨X,hX,hX1,hX2⟩:=zlw s (goN digB s.data.toList) hle
 have hXs:X.size≤140737488355328:=by omega
 have key:=zqB hp h0 hX1
 rw[hX1] at key
 obtain⟨N,hN⟩:∃N,goN digB s.data.toList=N:=⟨_,rfl⟩
 by_cases hlt:N<s.size
 ·cases hl:letB s[N]
  ·by_cases h1:1<N
   ·by_cases hz:s[0]=48
    ·rw[zaU,if_pos (Or.inr ⟨by omega,by rw[zgK hp,hz]⟩)]
     exact (zfh s N w hs hp hlt hl hN h1 hz).mono fun e w' hh=>⟨hh.1,by rw[hh.2];exact Below.refl _ _⟩
    ·have hno:¬(1<goN digB s.data.toList∧s.data.toList.head?=some 48):=fun e=>hz (by rw[zgK hp] at e;exact Option.some.inj e.2)
     obtain⟨k1,k2⟩:=key hno
     rw[zaU,if_neg (fun e=>e.elim (fun e=>by rw[hN,hd_at hlt,hl] at e;cases e) hno)]
     by_cases hv:9223372036854775807<val10 (s.data.toList.take (goN digB s.data.toList))
     ·rw[if_pos hv]
      rw[hN] at hX
      exact zdX s X N w henv hs hp (by omega) hlt hl hN hX hXs h1 hz (by rw[hX1];exact k2 hv)
     ·rw[if_neg hv]
      simp only[hN] at hX ⊢
      exact zfl s X N w henv hs hp (by omega) hlt hl hN hX hXs h1 hz ⟨_,by rw[hX1];exact k1 (by omega)⟩
   ·have hno:¬(1<goN digB s.data.toList∧s.data.toList.head?=some 48):=fun e=>h1 (by omega)
    obtain⟨k1,k2⟩:=key hno
    rw[zaU,if_neg (fun e=>e.elim (fun e=>by rw[hN,hd_at hlt,hl] at e;cases e) hno)]
    by_cases hv:9223372036854775807<val10 (s.data.toList.take (goN digB s.data.toList))
    ·rw[if_pos hv]
     rw[hN] at hX
     exact zea s X N w henv hs hp (by omega) hlt hl hN hX hXs h1 (by rw[hX1];exact k2 hv)
    ·rw[if_neg hv]
     simp only[hN] at hX ⊢
     exact zeC s X N w henv hs hp (by omega) hlt hl hN hX hXs h1 ⟨_,by rw[hX1];exact k1 (by omega)⟩
  ·rw[zaU,if_pos (Or.inl (by rw[hN,hd_at hlt];exact hl))]
   exact (zfT s N w hs hlt hN hl).mono fun e w' hh=>⟨hh.1,by rw[hh.2];exact Below.refl _ _⟩
 ·have hge:s.size≤N:=by omega
  by_cases h1:1<N
  ·by_cases hz:s[0]=48
   ·rw[zaU,if_pos (Or.inr ⟨by omega,by rw[zgK hp,hz]⟩)]
    exact (zef s N w hs hp hge hN h1 hz).mono fun e w' hh=>⟨hh.1,by rw[hh.2];exact Below.refl _ _⟩
   ·have hno:¬(1<goN digB s.data.toList∧s.data.toList.head?=some 48):=fun e=>hz (by rw[zgK hp] at e;exact Option.some.inj e.2)
    obtain⟨k1,k2⟩:=key hno
    rw[zaU,if_neg (fun e=>e.elim (fun e=>by rw[hN,ztp hge] at e;cases e) hno)]
    by_cases hv:9223372036854775807<val10 (s.data.toList.take (goN digB s.data.toList))
    ·rw[if_pos hv]
     rw[hN] at hX
     exact zdq s X N w henv hs hp (by omega) hge hN hX hXs h1 hz (by rw[hX1];exact k2 hv)
    ·rw[if_neg hv]
     simp only[hN] at hX ⊢
     exact zee s X N w henv hs hp (by omega) hge hN hX hXs h1 hz ⟨_,by rw[hX1];exact k1 (by omega)⟩
  ·have hno:¬(1<goN digB s.data.toList∧s.data.toList.head?=some 48):=fun e=>h1 (by omega)
   obtain⟨k1,k2⟩:=key hno
   rw[zaU,if_neg (fun e=>e.elim (fun e=>by rw[hN,ztp hge] at e;cases e) hno)]
   by_cases hv:9223372036854775807<val10 (s.data.toList.take (goN digB s.data.toList))
   ·rw[if_pos hv]
    rw[hN] at hX
    exact zdx s X N w henv hs hp (by omega) hge hN hX hXs h1 (by rw[hX1];exact k2 hv)
   ·rw[if_neg hv]
    simp only[hN] at hX ⊢
    exact zdZ s X N w henv hs hp (by omega) hge hN hX hXs h1 ⟨_,by rw[hX1];exact k1 (by omega)⟩
def togN:Bool→List UInt8→Nat
 | _,[]=>0
 | b,c::l=>if c=39 then togN (!b) l+1 else if b=true then togN b l+1 else 0
theorem zkV:∀(l:List UInt8) (b:Bool),togN b l≤l.length
 | [],b=>by simp[togN]
 | c::l,b=>by
  rw[togN]
  split
  ·have:=zkV l (!b);simp;omega
  ·split
   ·have:=zkV l b;simp;omega
   ·simp
theorem zhN:∀(n:Nat) (l:List UInt8) (k:Nat),l.length≤n→qscan l=some k→togN true l=k
 | _,[],k,_,h=>by simp[qscan] at h
 | 0,_::_,_,hn,_=>by simp at hn
 | n+1,c::l,k,hn,h=>by
  by_cases hc:c=39
  ·subst hc
   cases l with
   | nil=>simp[qscan] at h;subst h;simp[togN]
   | cons d r =>
    by_cases hd:d=39
    ·subst hd
     rw[zcu,Option.map_eq_some_iff] at h
     obtain⟨j,hj,rfl⟩:=h
     have:=zhN n r j (by simp at hn;omega) hj
     simp[togN,this]
    ·rw[zch _ (by simpa using hd)] at h
     cases h
     simp[togN,hd]
  ·rw[zdU c l hc,Option.map_eq_some_iff] at h
   obtain⟨j,hj,rfl⟩:=h
   have:=zhN n l j (by simp at hn;omega) hj
   simp[togN,hc,this]
theorem zgT:∀(n:Nat) (l:List UInt8),l.length≤n→qscan l=none→togN true l=l.length∧rd l=none
 | _,[],_,_=>by simp[togN,rd]
 | 0,_::_,hn,_=>by simp at hn
 | n+1,c::l,hn,h=>by
  by_cases hc:c=39
  ·subst hc
   cases l with
   | nil=>simp[qscan] at h
   | cons d r =>
    by_cases hd:d=39
    ·subst hd
     rw[zcu,Option.map_eq_none_iff] at h
     obtain⟨h1,h2⟩:=zgT n r (by simp at hn;omega) h
     exact⟨by simp[togN,h1],by rw[zmY,h2];rfl⟩
    ·rw[zch _ (by simpa using hd)] at h
     cases h
  ·rw[zdU c l hc,Option.map_eq_none_iff] at h
   obtain⟨h1,h2⟩:=zgT n l (by simp at hn;omega) h
   exact⟨by simp[togN,hc,h1],by rw[rd_ne c l hc,h2];rfl⟩
theorem zrX(r:List UInt8):zct r=if qE (r.take (togN true r))=0 then (togN true r+1,0) else (0,qE (r.take (togN true r))):=by
 rw[zct]
 cases h:qscan r with
 | none =>
  obtain⟨h1,h2⟩:=zgT _ r (Nat.le_refl _) h
  have:qE (r.take (togN true r))=2:=by rw[h1,List.take_length,qE,h2]
  rw[this];rfl
 | some k=>rw[zhN _ r k (Nat.le_refl _) h]
theorem zqj(x:List UInt8):qE x=0∨qE x=2∨qE x=4:=by
 rw[qE]
 split
 ·simp
 ·split
  ·simp
  ·split<;>simp
theorem zta{X:ByteArray}{t:List UInt8}(h:X.data.toList=39::t):(readV X).2.2.2=qE t:=by
 have hz:X.size=t.length+1:=by rw[Lib.size_eq,h,List.length_cons]
 have hp:0<X.size:=by omega
 have h1:X.data.toList≠[116,114,117,101]:=by rw[h];intro e;injection e with e _;revert e;decide
 have h2:X.data.toList≠[102,97,108,115,101]:=by rw[h];intro e;injection e with e _;revert e;decide
 have h0:(X[0].toNat:Int)=39:=by
  have:=zgK hp
  rw[h] at this
  have:(39:UInt8)=X[0]:=Option.some.inj this
  rw[←this];rfl
 have hd:X.data.toList.drop 1=t:=by rw[h];rfl
 rw[qE]
 cases hr:rd t with
 | none=>rw[zhp h1 h2 hp h0 (by rw[hd];exact hr)]
 | some l =>
  rw[zhe h1 h2 hp h0 (by rw[hd];exact hr)]
  simp only
  split
  ·rfl
  ·split<;>rfl
theorem zkf(b:Bool)(p:Nat)(w:World)(hp:w.cell? ⟨p,0,none⟩=some (.bool b))(hf:w.frozen? ⟨p,0,none⟩=false) :
  Calls Tryz.prog 117 #[.int .u8 39,.pointer (some ⟨p,0,none⟩)] w fun e w'=>e=.returned (.bool true)∧w'=w.setCell ⟨p,0,none⟩ (.bool !b):=by
 go_enter Tryz.func117,Tryz.ntmps117
 go_wp2
 go_ret
 exact⟨rfl,rfl⟩
theorem zkS(r:Int)(b:Bool)(p:Nat)(w:World)(hr:r≠39)(hp:w.cell? ⟨p,0,none⟩=some (.bool b)) :
  Calls Tryz.prog 117 #[.int .u8 r,.pointer (some ⟨p,0,none⟩)] w fun e w'=>e=.returned (.bool b)∧w'=w:=by
 have e1:(r == 39)=false:=by simpa using hr
 go_enter Tryz.func117,Tryz.ntmps117
 go_wp2
 go_ret
 exact⟨rfl,rfl⟩
theorem znh{s:ByteArray}{k:Nat}{b:Bool}(h:k<s.size)(hc:s[k]=39){E:Nat}(hE:E=k+togN b (s.data.toList.drop k)):E=k+1+togN (!b) (s.data.toList.drop (k+1)):=by
 rw[hE,zaE s k h,togN,if_pos hc];omega
theorem zuU{s:ByteArray}{k:Nat}(h:k<s.size)(hc:s[k]≠39){E:Nat}(hE:E=k+togN true (s.data.toList.drop k)):E=k+1+togN true (s.data.toList.drop (k+1)):=by
 rw[hE,zaE s k h,togN,if_neg hc,if_pos rfl];omega
theorem zrR{s:ByteArray}{k:Nat}(h:k<s.size)(hc:s[k]≠39){E:Nat}(hE:E=k+togN false (s.data.toList.drop k)):E=k:=by
 rw[hE,zaE s k h,togN,if_neg hc,if_neg (by decide)];rfl
theorem zuk{s:ByteArray}{k:Nat}{b:Bool}(h:s.size≤k)(hk:k≤s.size){E:Nat}(hE:E=k+togN b (s.data.toList.drop k)):E=s.size:=by
 rw[hE,List.drop_eq_nil_of_le (by simp;omega)];simp[togN];omega
theorem zsJ{c:UInt8}(h:c≠39):(c.toNat:Int)≠39:=fun e=>h (UInt8.toNat_inj.1 (by rw[show (39:UInt8).toNat=39 from rfl];omega))
theorem zqo{w:World}{b o:Nat}{v:Value}(h:w.cell? ⟨b,o,none⟩=some v):b<w.heap.size:=by
 rcases Nat.lt_or_ge b w.heap.size with h'|h'
 ·exact h'
 ·simp[World.cell?,Array.getElem?_eq_none h'] at h
theorem zgS(s:ByteArray)(p:Nat)(w:World)(hs:s.size≤maxLen)(hp:w.cell? ⟨p,0,none⟩=some (.bool false))(hf:w.frozen? ⟨p,0,none⟩=false) :
  Calls Tryz.prog 46 #[.string s,.func (.func 117) #[] #[.pointer (some ⟨p,0,none⟩)]] w fun e w'=>e=.returned (.int .i64 (togN false s.data.toList:Nat))∧Below p w w':=by
 unfold maxLen at hs
 obtain⟨E,hE⟩:∃E,togN false s.data.toList=E:=⟨_,rfl⟩
 rw[hE]
 go_enter Tryz.func46,Tryz.ntmps46
 go_wp2
 go_loopg [5,8] s.size (fun gg _ s8 wr=>∃(kk:Nat) (b:Bool),kk≤s.size∧s.size-kk≤gg∧s8=.int .i64 kk∧Aside (Below p w wr)∧wr.cell? ⟨p,0,none⟩=some (.bool b)∧wr.frozen? ⟨p,0,none⟩=false∧Hid (E=kk+togN b (s.data.toList.drop kk)))
 case atStart=>exact⟨0,false,Nat.zero_le _,by omega,rfl,Below.refl _ w,hp,hf,(show Hid _ by simp[Hid,hE])⟩
 case round =>
  obtain⟨kk,b,hkk,hg,rfl,BW,hpc,hpf,HE⟩:=hrel
  clear hp hf
  by_cases hlt:kk<s.size
  ·have hltz:(kk:Int)<(s.size:Int):=by omega
   by_cases hc:s[kk]=39
   ·have HE2:Hid (E=kk+1+togN (!b) (s.data.toList.drop (kk+1))):=znh hlt hc HE.out
    have hcz:(s[kk].toNat:Int)=39:=by rw[hc];rfl
    have cS:=zkf b p wr hpc hpf
    rw[←hcz] at cS
    have BW2:=BW.out.setCell (p:=⟨p,0,none⟩) (Nat.le_refl _) (.bool !b)
    have hpc3:=World.cell?_setCell_same wr ⟨p,0,none⟩ (.bool !b) hpc
    have hpf3:(wr.setCell ⟨p,0,none⟩ (.bool !b)).frozen? ⟨p,0,none⟩=false:=by
     have:(wr.setCell ⟨p,0,none⟩ (.bool !b)).frozen? ⟨p,0,none⟩=wr.frozen? ⟨p,0,none⟩:=by simp
     rw[this];exact hpf
    clear hc HE hcz
    go_wp2_with fail
    refine cS.mono ?_
    rintro e w' ⟨rfl,rfl⟩
    go_wp2
    go_roundg (s.size-(kk+1))
    case measure=>omega
    case rel=>exact⟨kk+1,!b,by omega,by omega,by go_num,BW2,hpc3,hpf3,HE2⟩
   ·have hcz:=zsJ hc
    have cS:=zkS _ b p wr hcz hpc
    cases b
    ·obtain rfl:kk=E:=(zrR hlt hc HE.out).symm
     clear hc HE hcz
     go_wp2_with fail
     refine cS.mono ?_
     rintro e w' ⟨rfl,hq⟩
     obtain rfl:wr=w':=hq.symm
     go_wp2
     go_ret
     exact⟨rfl,BW.out⟩
    ·have HE2:Hid (E=kk+1+togN true (s.data.toList.drop (kk+1))):=zuU hlt hc HE.out
     clear hc HE hcz
     go_wp2_with fail
     refine cS.mono ?_
     rintro e w' ⟨rfl,hq⟩
     obtain rfl:wr=w':=hq.symm
     go_wp2
     go_roundg (s.size-(kk+1))
     case measure=>omega
     case rel=>exact⟨kk+1,true,by omega,by omega,by go_num,BW,hpc,hpf,HE2⟩
  ·have hltz:¬(kk:Int)<(s.size:Int):=by omega
   obtain rfl:s.size=E:=(zuk (by omega) hkk HE.out).symm
   clear HE
   go_wp2
   go_ret
   exact⟨rfl,BW.out⟩
theorem znY(s:ByteArray)(w:World)(hs:s.size≤140737488355328)(henv:Env w) :
  Calls Tryz.prog 118 #[.string s] w fun e w'=>(∃(t n:Int) (x:ByteArray) (k:Int),e=.returned (.tuple #[.agg #[.int .i64 t,.int .i64 n,.string x],errV k])∧Hid ((readV s).2.2.2=k))∧Below w.heap.size w w' :=
 (zfo s w hs henv).mono fun e w' hh=>⟨⟨_,_,⟨(readV s).2.2.1.toArray⟩,_,hh.1,rfl⟩,hh.2⟩
theorem zeQ(s:ByteArray)(r:List UInt8)(w:World)(henv:Env w)(hs:s.size≤140737488355328)(hr:s.data.toList=39::r) :
  Calls Tryz.prog 85 #[.string s] w fun e w'=>(∃(n:Nat) (k:Int),e=.returned (.tuple #[.int .i64 n,.int .i64 k])∧Hid (zct r=(n,k)))∧Below w.heap.size w w':=by
 have hsz:s.size=r.length+1:=by rw[Lib.size_eq,hr,List.length_cons]
 have hN:togN false s.data.toList=togN true r+1:=by rw[hr,togN,if_pos rfl];rfl
 have hle:=zkV r true
 obtain⟨X,hX,hX1,hX2⟩:=zlw s (togN true r+1) (by omega)
 have HX:Hid ((readV X).2.2.2=qE (r.take (togN true r))):=zta (by rw[hX1,hr,List.take_succ_cons])
 have HQ:Hid (zct r=if qE (r.take (togN true r))=0 then (togN true r+1,0) else (0,qE (r.take (togN true r)))):=zrX r
 have HC:Hid (qE (r.take (togN true r))=0∨qE (r.take (togN true r))=2∨qE (r.take (togN true r))=4):=zqj _
 have cG:=zgS s w.heap.size (w.alloc (.cells #[.bool false] 4)) (by unfold maxLen;omega) (by simp) (by simp)
 rw[hN] at cG
 obtain⟨N,hNN⟩:∃N,togN true r+1=N:=⟨_,rfl⟩
 rw[hNN] at cG hX HQ
 clear hN hX1
 go_enter Tryz.func85,Tryz.ntmps85
 go_wp2_with fail
 refine cG.mono ?_
 rintro e w1 ⟨rfl,b1⟩
 have B1:Below w.heap.size w w1:=((Below.refl _ _).alloc (Nat.le_refl _) _).trans b1
 clear b1
 go_wp2_with fail
 refine (znY X _ (by omega) (henv.on B1)).mono ?_
 rintro e w2 ⟨⟨t,n,x,k,rfl,HK⟩,b2⟩
 have B2:=B1.trans (b2.mono B1.size)
 have hk:qE (r.take (togN true r))=k:=by rw[←HX.out];exact HK.out
 rw[hk] at HQ HC
 have hc:=HC.out
 clear hk HK HX HC b2 B1
 rcases hc with rfl|rfl|rfl
 ·have HQ2:Hid (zct r=(N,0)):=by have:=HQ.out;rwa [if_pos rfl] at this
  rw[show errV 0=.nilIface from rfl]
  clear HQ
  go_wp2
  go_ret2
  exact⟨⟨N,0,rfl,HQ2⟩,by repeat (first|exact B2|(refine Below.alloc ?_ (by have:=B2.size;simp;omega) _))⟩
 ·have HQ2:Hid (zct r=(0,2)):=by have:=HQ.out;rwa [if_neg (by decide)] at this
  rw[show errV 2=.iface 35 (.int .i64 2) from rfl]
  have cI:=fun W=>zbX 2 4 W
  rw[show ((2:Int) == 4)=false from rfl] at cI
  clear HQ
  go_wp2_with (go_at_call 16;refine (cI _).mono ?_;rintro e W' ⟨rfl,rfl⟩)
  go_ret2
  exact⟨⟨0,2,rfl,HQ2⟩,by repeat (first|exact B2|(refine Below.alloc ?_ (by have:=B2.size;simp;omega) _))⟩
 ·have HQ2:Hid (zct r=(0,4)):=by have:=HQ.out;rwa [if_neg (by decide)] at this
  rw[show errV 4=.iface 35 (.int .i64 4) from rfl]
  have cI:=fun W=>zbX 4 4 W
  rw[show ((4:Int) == 4)=true from rfl] at cI
  clear HQ
  go_wp2_with (go_at_call 16;refine (cI _).mono ?_;rintro e W' ⟨rfl,rfl⟩)
  go_ret2
  exact⟨⟨0,4,rfl,HQ2⟩,by repeat (first|exact B2|(refine Below.alloc ?_ (by have:=B2.size;simp;omega) _))⟩
theorem zeB(s:ByteArray)(w:World)(henv:Env w)(hw:SG w)(hs:s.size≤140737488355328)(hp:0<s.size) :
  Calls Tryz.prog 48 #[.string s] w fun e w'=>(∃(k:Int) (n:Nat) (h:Int),e=.returned (.tuple #[.int .i64 k,.int .i64 n,.int .i64 h])∧Hid (tokAt s.data.toList=(k,n,h)))∧Below w.heap.size w w':=by
 have hcons:s.data.toList=s[0]::s.data.toList.drop 1:=by have:=zaE s 0 hp;simpa using this
 have HT:Hid (tokAt s.data.toList=if letB s[0]=true then (1,goN ldB s.data.toList,0) else if digB s[0]=true then (2,zaU s.data.toList) else if s[0]=39 then (3,zct (s.data.toList.drop 1)) else (4,sgN zaG s.data.toList,if sgN zaG s.data.toList=0 then 2 else 0)):=by
  show _=_
  rw[hcons,tokAt,←hcons]
 have cL:=zay s[0]
 have cD:=zcB s[0]
 cases hl:letB s[0]
 ·rw[hl] at cL HT
  cases hd:digB s[0]
  ·rw[hd] at cD HT
   by_cases hq:s[0]=39
   ·have hqz:((s[0].toNat:Int) == 39)=true:=by rw[hq];rfl
    have cQ:=zeQ s (s.data.toList.drop 1) w henv hs (by rw[←hq];exact hcons)
    have HT2:Hid (tokAt s.data.toList=(3,zct (s.data.toList.drop 1))):=by have:=HT.out;rwa [if_neg (by decide),if_neg (by decide),if_pos hq] at this
    clear hl hd hq HT hcons
    go_enter Tryz.func48,Tryz.ntmps48
    go_wp2_with (first|(go_at_call 81;refine (cL _).mono ?_;rintro e w' ⟨rfl,hq1⟩;obtain rfl:w=w':=hq1.symm)|(go_at_call 83;refine (cD _).mono ?_;rintro e w' ⟨rfl,hq2⟩;obtain rfl:w=w':=hq2.symm))
    refine cQ.mono ?_
    rintro e w1 ⟨⟨n,k,rfl,HQ⟩,b1⟩
    go_wp2
    refine bodyPost_ret (v:=.tuple #[.int .i64 3,.int .i64 n,.int .i64 k]) (by simp[results,Tryz.results48,go_sem]) rfl ⟨⟨3,n,k,rfl,?_⟩,b1⟩
    show _=_
    rw[HT2.out,HQ.out]
   ·have hqz:((s[0].toNat:Int) == 39)=false:=by rw[beq_eq_false_iff_ne];exact zsJ hq
    have cQ:=zgv s w hw
    obtain⟨n,hn⟩:∃n,sgN zaG s.data.toList=n:=⟨_,rfl⟩
    obtain⟨k,hk⟩:∃k:Int,(if n=0 then 2 else 0)=k:=⟨_,rfl⟩
    rw[hn,hk] at cQ
    have HT2:Hid (tokAt s.data.toList=(4,n,k)):=by have:=HT.out;rwa [if_neg (by decide),if_neg (by decide),if_neg hq,hn,hk] at this
    clear hl hd hq HT hcons hn hk
    go_enter Tryz.func48,Tryz.ntmps48
    go_wp2_with (first|(go_at_call 81;refine (cL _).mono ?_;rintro e w' ⟨rfl,hq1⟩;obtain rfl:w=w':=hq1.symm)|(go_at_call 83;refine (cD _).mono ?_;rintro e w' ⟨rfl,hq2⟩;obtain rfl:w=w':=hq2.symm))
    refine cQ.mono ?_
    rintro e w1 ⟨rfl,hq3⟩
    obtain rfl:w=w1:=hq3.symm
    go_wp2
    exact bodyPost_ret (v:=.tuple #[.int .i64 4,.int .i64 n,.int .i64 k]) (by simp[results,Tryz.results48,go_sem]) rfl ⟨⟨4,n,k,rfl,HT2⟩,Below.refl _ _⟩
  ·rw[hd] at cD HT
   have cQ:=zed s w henv hs hp hd
   obtain⟨n,k,hn⟩:∃n k,zaU s.data.toList=(n,k):=⟨_,_,rfl⟩
   rw[hn] at cQ
   have HT2:Hid (tokAt s.data.toList=(2,n,k)):=by have:=HT.out;rwa [if_neg (by decide),if_pos rfl,hn] at this
   clear hl hd HT hcons hn
   go_enter Tryz.func48,Tryz.ntmps48
   go_wp2_with (first|(go_at_call 81;refine (cL _).mono ?_;rintro e w' ⟨rfl,hq1⟩;obtain rfl:w=w':=hq1.symm)|(go_at_call 83;refine (cD _).mono ?_;rintro e w' ⟨rfl,hq2⟩;obtain rfl:w=w':=hq2.symm))
   refine cQ.mono ?_
   rintro e w1 ⟨rfl,b1⟩
   go_wp2
   exact bodyPost_ret (v:=.tuple #[.int .i64 2,.int .i64 n,.int .i64 k]) (by simp[results,Tryz.results48,go_sem]) rfl ⟨⟨2,n,k,rfl,HT2⟩,b1⟩
 ·rw[hl] at cL HT
  have cG:=zjO s w (by unfold maxLen;omega)
  obtain⟨n,hn⟩:∃n,goN ldB s.data.toList=n:=⟨_,rfl⟩
  rw[hn] at cG
  have HT2:Hid (tokAt s.data.toList=(1,n,0)):=by have:=HT.out;rwa [if_pos rfl,hn] at this
  clear hl HT hcons hn
  go_enter Tryz.func48,Tryz.ntmps48
  go_wp2_with (first|(go_at_call 81;refine (cL _).mono ?_;rintro e w' ⟨rfl,hq1⟩;obtain rfl:w=w':=hq1.symm))
  refine cG.mono ?_
  rintro e w1 ⟨rfl,hq3⟩
  obtain rfl:w=w1:=hq3.symm
  go_wp2
  exact bodyPost_ret (v:=.tuple #[.int .i64 1,.int .i64 n,.int .i64 0]) (by simp[results,Tryz.results48,go_sem]) rfl ⟨⟨1,n,0,rfl,HT2⟩,Below.refl _ _⟩
--BEGIN
inductive Ex where
 | node (op nm:ByteArray) (vt vn:Int) (vs:ByteArray) (pos:Int) (args:List Ex)
theorem Ex.ind{P:Ex→Prop}(h:∀op nm vt vn vs pos args,(∀y∈args,P y)→P (.node op nm vt vn vs pos args)):∀x,P x
 | .node op nm vt vn vs pos args=>h op nm vt vn vs pos args (fun y hy=>Ex.ind h y)
termination_by x=>SizeOf.sizeOf x
decreasing_by
 have:=List.sizeOf_lt_of_mem hy
 simp
 omega
def Ex.args:Ex→List Ex
 | .node _ _ _ _ _ _ l=>l
def Ex.op:Ex→ByteArray
 | .node o _ _ _ _ _ _=>o
def Ex.nm:Ex→ByteArray
 | .node _ o _ _ _ _ _=>o
def Ex.vt:Ex→Int
 | .node _ _ o _ _ _ _=>o
def Ex.vn:Ex→Int
 | .node _ _ _ o _ _ _=>o
def Ex.vs:Ex→ByteArray
 | .node _ _ _ _ o _ _=>o
def Ex.pos:Ex→Int
 | .node _ _ _ _ _ o _=>o
mutual
def ExIn(w:World)(lo:Nat→Prop):Value→Ex→Prop
 | v,.node op nm vt vn vs pos args=>∃p c,v=.agg #[.string op,.string nm,.int .i64 vt,.int .i64 vn,.string vs,.slice p args.length c,.int .i64 pos]∧(args.length≤maxLen∧args.length≤c)∧op.size≤maxLen∧nm.size≤maxLen∧vs.size≤maxLen∧(args.length=0∨∃b off,p=some ⟨b,off,none⟩∧b<w.heap.size∧lo b∧ExsIn w lo b off args)
def ExsIn(w:World)(lo:Nat→Prop)(b:Nat):Nat→List Ex→Prop
 | _,[]=>True
 | off,x::xs=>(∃v0 v1 v2 v3 v4 v5 v6,w.cell? ⟨b,off,none⟩=some v0∧w.cell? ⟨b,off+1,none⟩=some v1∧w.cell? ⟨b,off+2,none⟩=some v2∧w.cell? ⟨b,off+3,none⟩=some v3∧w.cell? ⟨b,off+4,none⟩=some v4∧w.cell? ⟨b,off+5,none⟩=some v5∧w.cell? ⟨b,off+6,none⟩=some v6∧ExIn w lo (.agg #[v0,v1,v2,v3,v4,v5,v6]) x)∧ExsIn w lo b (off+7) xs
end
theorem zbL(w:World)(lo:Nat→Prop)(b:Nat):∀(xs:List Ex) (off:Nat),ExsIn w lo b off xs→∀j (h:j<xs.length),∃v0 v1 v2 v3 v4 v5 v6,w.cell? ⟨b,off+j*7,none⟩=some v0∧w.cell? ⟨b,off+j*7+1,none⟩=some v1∧w.cell? ⟨b,off+j*7+2,none⟩=some v2∧w.cell? ⟨b,off+j*7+3,none⟩=some v3∧w.cell? ⟨b,off+j*7+4,none⟩=some v4∧w.cell? ⟨b,off+j*7+5,none⟩=some v5∧w.cell? ⟨b,off+j*7+6,none⟩=some v6∧ExIn w lo (.agg #[v0,v1,v2,v3,v4,v5,v6]) xs[j]
 | [],_,_,j,h=>absurd h (by simp)
 | x::xs,off,hs,0,_=>by
  rw[ExsIn] at hs
  obtain⟨v0,v1,v2,v3,v4,v5,v6,h⟩:=hs.1
  refine⟨v0,v1,v2,v3,v4,v5,v6,?_⟩
  simp only[Nat.zero_mul,Nat.add_zero,List.getElem_cons_zero]
  exact h
 | x::xs,off,hs,j+1,h=>by
  rw[ExsIn] at hs
  have ih:=zbL w lo b xs (off+7) hs.2 j (by simpa using h)
  simp only[show off+7+j*7=off+(j+1)*7 from by omega] at ih
  simp only[List.getElem_cons_succ]
  exact ih
theorem zbR(w:World)(lo:Nat→Prop)(b:Nat):∀(xs:List Ex) (off:Nat),(∀j (h:j<xs.length),∃v0 v1 v2 v3 v4 v5 v6,w.cell? ⟨b,off+j*7,none⟩=some v0∧w.cell? ⟨b,off+j*7+1,none⟩=some v1∧w.cell? ⟨b,off+j*7+2,none⟩=some v2∧w.cell? ⟨b,off+j*7+3,none⟩=some v3∧w.cell? ⟨b,off+j*7+4,none⟩=some v4∧w.cell? ⟨b,off+j*7+5,none⟩=some v5∧w.cell? ⟨b,off+j*7+6,none⟩=some v6∧ExIn w lo (.agg #[v0,v1,v2,v3,v4,v5,v6]) xs[j])→ExsIn w lo b off xs
 | [],_,_=>by rw[ExsIn];trivial
 | x::xs,off,hs=>by
  rw[ExsIn]
  have h0:=hs 0 (by simp)
  simp only[Nat.zero_mul,Nat.add_zero,List.getElem_cons_zero] at h0
  refine⟨h0,zbR w lo b xs (off+7) fun j hj=>?_⟩
  have:=hs (j+1) (by simpa using hj)
  simp only[show off+(j+1)*7=off+7+j*7 from by omega,List.getElem_cons_succ] at this
  exact this
theorem ExIn.keep{w w':World}{lo:Nat→Prop}(hz:w.heap.size≤w'.heap.size)(hk:∀b o:Nat,lo b→b<w.heap.size→w'.cell? ⟨b,o,none⟩=w.cell? ⟨b,o,none⟩):∀(x:Ex) (v:Value),ExIn w lo v x→ExIn w' lo v x:=by
 refine Ex.ind fun op nm vt vn vs pos args ih v h=>?_
 rw[ExIn] at h ⊢
 obtain⟨p,c,rfl,h1,h2,h3,h4,h5⟩:=h
 refine⟨p,c,rfl,h1,h2,h3,h4,?_⟩
 rcases h5 with h5|⟨b,off,rfl,hbl,hlo,h5⟩
 ·exact .inl h5
 ·refine .inr ⟨b,off,rfl,by omega,hlo,zbR w' lo b args off fun j hj=>?_⟩
  obtain⟨v0,v1,v2,v3,v4,v5,v6,e0,e1,e2,e3,e4,e5,e6,hx⟩:=zbL w lo b args off h5 j hj
  have key:∀o:Nat,w'.cell? ⟨b,o,none⟩=w.cell? ⟨b,o,none⟩:=fun o=>hk b o hlo hbl
  exact⟨v0,v1,v2,v3,v4,v5,v6,by rw[key];exact e0,by rw[key];exact e1,by rw[key];exact e2,by rw[key];exact e3,by rw[key];exact e4,by rw[key];exact e5,by rw[key];exact e6,ih _ (List.getElem_mem hj) _ hx⟩
theorem ExIn.on{w w':World}{lo:Nat→Prop}{x:Ex}{v:Value}(h:ExIn w lo v x)(hb:Below w.heap.size w w'):ExIn w' lo v x :=
 ExIn.keep hb.size (fun b o _ hbl=>hb.cell (p:=⟨b,o,none⟩) hbl) x v h
theorem ExIn.low{w:World}{lo lo':Nat→Prop}(hl:∀b,b<w.heap.size→lo b→lo' b):∀(x:Ex) (v:Value),ExIn w lo v x→ExIn w lo' v x:=by
 refine Ex.ind fun op nm vt vn vs pos args ih v h=>?_
 rw[ExIn] at h ⊢
 obtain⟨p,c,rfl,h1,h2,h3,h4,h5⟩:=h
 refine⟨p,c,rfl,h1,h2,h3,h4,?_⟩
 rcases h5 with h5|⟨b,off,rfl,hbl,hlo,h5⟩
 ·exact .inl h5
 ·refine .inr ⟨b,off,rfl,hbl,hl b hbl hlo,zbR w lo' b args off fun j hj=>?_⟩
  obtain⟨v0,v1,v2,v3,v4,v5,v6,e0,e1,e2,e3,e4,e5,e6,hx⟩:=zbL w lo b args off h5 j hj
  exact⟨v0,v1,v2,v3,v4,v5,v6,e0,e1,e2,e3,e4,e5,e6,ih _ (List.getElem_mem hj) _ hx⟩
mutual
def Ex.size:Ex→Nat
 | .node _ _ _ _ _ _ l=>1+Ex.sizes l
def Ex.sizes:List Ex→Nat
 | []=>0
 | x::xs=>x.size+Ex.sizes xs
end
mutual
def Ex.deep:Ex→Nat
 | .node _ _ _ _ _ _ l=>Ex.deeps l+1
def Ex.deeps:List Ex→Nat
 | []=>0
 | x::xs=>max x.deep (Ex.deeps xs)
end
--END
--BEGIN
def zcy:List (List UInt8):=[[111,114],[97,110,100],[110,111,116],[116,114,117,101],[102,97,108,115,101],[108,101,110],[105,102],[115,101,108,101,99,116],[97,115],[102,114,111,109],[119,104,101,114,101],[103,114,111,117,112],[98,121],[119,105,110,100,111,119],[115,108,105,100,101],[99,111,117,110,116],[115,117,109],[108,101,97,115,116],[109,111,115,116]]
def zhn(l:List UInt8):Bool:=decide (l≠[])&&decide (l.length≤8)&&l.all letB
def nameT(l:List UInt8):Bool:=zhn l&&!(zcy.any (· == l))
def ex0:Ex:=.node ⟨#[]⟩ ⟨#[]⟩ 0 0 ⟨#[]⟩ 0 []
def op1(op:List UInt8)(pos:Int)(l:List Ex):Ex:=.node ⟨op.toArray⟩ ⟨#[]⟩ 0 0 ⟨#[]⟩ pos l
--BEGIN
def sgT(gs:List (List UInt8))(t:Tok):Bool:=gs.any fun g=>g == t.2.1.data.toList
def nxT(P:Tok→Bool):List Tok→Option (Tok×List Tok)
 | []=>none
 | t::ts=>if P t=true then some (t,ts) else none
theorem zag{P:Tok→Bool}{ts r:List Tok}{t:Tok}(h:nxT P ts=some (t,r)):ts=t::r∧P t=true:=by
 cases ts with
 | nil=>simp[nxT] at h
 | cons a l =>
  rw[nxT] at h
  split at h
  ·rename_i h1
   cases h
   exact⟨rfl,h1⟩
  ·exact absurd h (by simp)
def betT(a:Ex)(t:Tok)(b:Ex):Ex:=.node t.2.1 ⟨#[]⟩ 0 0 ⟨#[]⟩ (t.2.2:Int) [a,b]
def uLoop(sub:List Tok→Option Ex×List Tok)(gs:List (List UInt8)):Nat→Ex→List Tok→Option Ex×List Tok
 | 0,e,ts=>(some e,ts)
 | k+1,e,ts=>match nxT (sgT gs) ts with
  | none=>(some e,ts)
  | some (t,r)=>match sub r with
   | (none,r2)=>(none,r2)
   | (some b,r2)=>uLoop sub gs k (betT e t b) r2
def uSev(sub:List Tok→Option Ex×List Tok)(gs:List (List UInt8))(ts:List Tok):Option Ex×List Tok:=match sub ts with
 | (none,r)=>(none,r)
 | (some e,r)=>uLoop sub gs (r.length+1) e r
def zba(op:List UInt8)(gs:List (List UInt8))(sub other:List Tok→Option Ex×List Tok)(ts:List Tok):Option Ex×List Tok:=match nxT (sgT gs) ts with
 | none=>other ts
 | some (t,r)=>match sub r with
  | (none,r2)=>(none,r2)
  | (some e,r2)=>(some (op1 op (t.2.2:Int) [e]),r2)
def cmpL:List (List UInt8):=[[61],[60,62],[60],[60,61],[62],[62,61]]
def uCmp(sub:List Tok→Option Ex×List Tok)(ts:List Tok):Option Ex×List Tok:=match sub ts with
 | (none,r)=>(none,r)
 | (some a,r)=>match nxT (sgT cmpL) r with
  | none=>(some a,r)
  | some (t,r2)=>match sub r2 with
   | (none,r3)=>(none,r3)
   | (some b,r3)=>(some (betT a t b),r3)
def uBr(sub:List Tok→Option Ex×List Tok):Nat→List Ex→List Tok→Option (List Ex)×List Tok
 | 0,acc,ts=>match nxT (sgT [[41]]) ts with
  | none=>(none,ts)
  | some (_,r)=>(some acc,r)
 | k+1,acc,ts=>match nxT (sgT [if acc.length=0 then [40] else [44]]) ts with
  | none=>(none,ts)
  | some (_,r)=>match sub r with
   | (none,r2)=>(none,r2)
   | (some e,r2)=>uBr sub k (acc++[e]) r2
def vlT(t:Tok):Bool:=decide ((readV t.2.1).2.2.2=0)
def valE(t:Tok):Ex:=.node ⟨#[118,97,108]⟩ ⟨#[]⟩ (readV t.2.1).1 (readV t.2.1).2.1 ⟨(readV t.2.1).2.2.1.toArray⟩ (t.2.2:Int) []
def colE1(t:Tok):Ex:=.node ⟨#[99,111,108]⟩ t.2.1 0 0 ⟨#[]⟩ (t.2.2:Int) []
def nmT(t:Tok):Bool:=nameT t.2.1.data.toList
def uOne(sub:List Tok→Option Ex×List Tok)(ts:List Tok):Option Ex×List Tok:=match nxT (sgT [[108,101,110],[105,102]]) ts with
 | some (t,r)=>match uBr sub (if t.2.1.data.toList=[108,101,110] then 1 else 3) [] r with
  | (none,r2)=>(none,r2)
  | (some l,r2)=>(some (.node t.2.1 ⟨#[]⟩ 0 0 ⟨#[]⟩ (t.2.2:Int) l),r2)
 | none=>match nxT vlT ts with
  | some (t,r)=>(some (valE t),r)
  | none=>match nxT nmT ts with
   | some (t,r)=>(some (colE1 t),r)
   | none=>match uBr sub 1 [] ts with
    | (none,r)=>(none,r)
    | (some l,r)=>(l.head?,r)
def uE:Nat→Nat→List Tok→Option Ex×List Tok
 | 0,_,ts=>(none,ts)
 | f+1,lv,ts=>match lv with
  | 0=>uSev (uE f 1) [[111,114]] ts
  | 1=>uSev (uE f 2) [[97,110,100]] ts
  | 2=>zba [110,111,116] [[110,111,116]] (uE f 2) (uE f 3) ts
  | 3=>uCmp (uE f 4) ts
  | 4=>uSev (uE f 5) [[43],[45]] ts
  | 5=>uSev (uE f 6) [[42],[47],[37]] ts
  | 6=>zba [110,101,103] [[45]] (uE f 6) (uE f 7) ts
  | _=>uOne (uE f 0) ts
def Suf(sub:List Tok→Option Ex×List Tok):Prop:=∀ts,(sub ts).2 <:+ ts
theorem zin{sub:List Tok→Option Ex×List Tok}(hs:Suf sub)(gs:List (List UInt8)):∀(k:Nat) (e:Ex) (ts:List Tok),(uLoop sub gs k e ts).2 <:+ ts
 | 0,e,ts=>List.suffix_rfl
 | k+1,e,ts=>by
  rw[uLoop]
  cases h:nxT (sgT gs) ts with
  | none=>exact List.suffix_rfl
  | some q =>
   obtain⟨t,r⟩:=q
   have h1:=(zag h).1
   subst h1
   have h2:=(hs r).trans (List.suffix_cons t r)
   simp only
   cases h3:sub r with
   | mk o r2 =>
    rw[h3] at h2
    cases o with
    | none=>exact h2
    | some b=>exact (zin hs gs k (betT e t b) r2).trans h2
theorem zeK{sub:List Tok→Option Ex×List Tok}(hs:Suf sub)(gs:List (List UInt8)):Suf (uSev sub gs):=by
 intro ts
 have h2:=hs ts
 rw[uSev]
 cases h3:sub ts with
 | mk o r =>
  rw[h3] at h2
  cases o with
  | none=>exact h2
  | some e=>exact (zin hs gs (r.length+1) e r).trans h2
theorem zfG{sub other:List Tok→Option Ex×List Tok}(hs:Suf sub)(ho:Suf other)(op:List UInt8)(gs:List (List UInt8)):Suf (zba op gs sub other):=by
 intro ts
 rw[zba]
 cases h:nxT (sgT gs) ts with
 | none=>exact ho ts
 | some q =>
  obtain⟨t,r⟩:=q
  have h1:=(zag h).1
  subst h1
  have h2:=(hs r).trans (List.suffix_cons t r)
  simp only
  cases h3:sub r with
  | mk o r2 =>
   rw[h3] at h2
   cases o<;>exact h2
theorem zqU{sub:List Tok→Option Ex×List Tok}(hs:Suf sub):Suf (uCmp sub):=by
 intro ts
 have h2:=hs ts
 rw[uCmp]
 cases h3:sub ts with
 | mk o r =>
  rw[h3] at h2
  cases o with
  | none=>exact h2
  | some e =>
   simp only at h2 ⊢
   cases h:nxT (sgT cmpL) r with
   | none=>exact h2
   | some q =>
    obtain⟨t,r2⟩:=q
    have h1:=(zag h).1
    subst h1
    have h4:=((hs r2).trans (List.suffix_cons t r2)).trans h2
    simp only
    cases h5:sub r2 with
    | mk o r3 =>
     rw[h5] at h4
     cases o<;>exact h4
theorem zli{sub:List Tok→Option Ex×List Tok}(hs:Suf sub):∀(k:Nat) (acc:List Ex) (ts:List Tok),(uBr sub k acc ts).2 <:+ ts
 | 0,acc,ts=>by
  rw[uBr]
  cases h:nxT (sgT [[41]]) ts with
  | none=>exact List.suffix_rfl
  | some q =>
   obtain⟨t,r⟩:=q
   have h1:=(zag h).1
   subst h1
   exact List.suffix_cons t r
 | k+1,acc,ts=>by
  rw[uBr]
  cases h:nxT (sgT [if acc.length=0 then [40] else [44]]) ts with
  | none=>exact List.suffix_rfl
  | some q =>
   obtain⟨t,r⟩:=q
   have h1:=(zag h).1
   subst h1
   have h2:=(hs r).trans (List.suffix_cons t r)
   simp only
   cases h3:sub r with
   | mk o r2 =>
    rw[h3] at h2
    cases o with
    | none=>exact h2
    | some e=>exact (zli hs k (acc++[e]) r2).trans h2
theorem zrf{sub:List Tok→Option Ex×List Tok}(hs:Suf sub):Suf (uOne sub):=by
 intro ts
 rw[uOne]
 cases h:nxT (sgT [[108,101,110],[105,102]]) ts with
 | some q =>
  obtain⟨t,r⟩:=q
  have h1:=(zag h).1
  subst h1
  have h2:=(zli hs (if t.2.1.data.toList=[108,101,110] then 1 else 3) [] r).trans (List.suffix_cons t r)
  simp only
  cases h3:uBr sub (if t.2.1.data.toList=[108,101,110] then 1 else 3) [] r with
  | mk o r2 =>
   rw[h3] at h2
   cases o<;>exact h2
 | none =>
  simp only
  cases h:nxT vlT ts with
  | some q =>
   obtain⟨t,r⟩:=q
   have h1:=(zag h).1
   subst h1
   exact List.suffix_cons t r
  | none =>
   simp only
   cases h:nxT nmT ts with
   | some q =>
    obtain⟨t,r⟩:=q
    have h1:=(zag h).1
    subst h1
    exact List.suffix_cons t r
   | none =>
    have h2:=zli hs 1 [] ts
    simp only
    cases h3:uBr sub 1 [] ts with
    | mk o r2 =>
     rw[h3] at h2
     cases o<;>exact h2
theorem zfi:∀(f lv:Nat),Suf (uE f lv)
 | 0,lv=>fun ts=>by rw[uE];exact List.suffix_rfl
 | f+1,lv=>fun ts=>by
  have ih:=fun lv=>zfi f lv
  unfold uE
  split
  ·exact zeK (ih 1) _ ts
  ·exact zeK (ih 2) _ ts
  ·exact zfG (ih 2) (ih 3) _ _ ts
  ·exact zqU (ih 4) ts
  ·exact zeK (ih 5) _ ts
  ·exact zeK (ih 6) _ ts
  ·exact zfG (ih 6) (ih 7) _ _ ts
  ·exact zrf (ih 0) ts
--END
theorem zaa{W:World}{base:Nat}{e:TypeId}{size:Nat}{v:Value}{n:Nat}{xs:List Value}(h:W.ownsRow base e size v n xs):∃p c,v=.slice p n c:=by
 rcases h.2 with ⟨rfl,rfl⟩|⟨g,cap,cur,rfl,_⟩
 ·exact⟨_,_,rfl⟩
 ·exact⟨_,_,rfl⟩
theorem zab{W W':World}{base:Nat}{e:TypeId}{size:Nat}{v:Value}{n:Nat}{xs:List Value}(h:W.ownsRow base e size v n xs)(hb:Below W.heap.size W W'):W'.ownsRow base e size v n xs:=by
 refine⟨h.1,?_⟩
 rcases h.2 with hn|⟨g,cap,cur,rfl,h1,hgg,rest⟩
 ·exact .inl hn
 ·exact .inr ⟨g,cap,cur,rfl,h1,by rw[hb.block g (Array.getElem?_eq_some_iff.1 hgg).1];exact hgg,rest⟩
end Go.Proofs.YtopghagjmdbglaaGreatDoor
