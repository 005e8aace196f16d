/-
  Lex2, Lex3, Lex4.
-/
import Derived.Test.YtbdnccnfidjiaaaGreatDoorGyAc
import Derived.WalkSmall
import Derived.Test.YtbdnccnfidjiaaaGreatDoorGyAb
namespace Go.Proofs.YtbdnccnfidjiaaaGreatDoor
open Go.RowKit
set_option linter.unusedVariables false
set_option linter.unusedSimpArgs false
set_option maxHeartbeats 8000000
structure SG(w:World):Prop where
 c0:w.cell? ⟨1,0,none⟩=some (.string ⟨#[60,62]⟩)
 c1:w.cell? ⟨1,1,none⟩=some (.string ⟨#[60,61]⟩)
 c2:w.cell? ⟨1,2,none⟩=some (.string ⟨#[62,61]⟩)
 c3:w.cell? ⟨1,3,none⟩=some (.string ⟨#[60]⟩)
 c4:w.cell? ⟨1,4,none⟩=some (.string ⟨#[62]⟩)
 c5:w.cell? ⟨1,5,none⟩=some (.string ⟨#[61]⟩)
 c6:w.cell? ⟨1,6,none⟩=some (.string ⟨#[40]⟩)
 c7:w.cell? ⟨1,7,none⟩=some (.string ⟨#[41]⟩)
 c8:w.cell? ⟨1,8,none⟩=some (.string ⟨#[44]⟩)
 c9:w.cell? ⟨1,9,none⟩=some (.string ⟨#[43]⟩)
 c10:w.cell? ⟨1,10,none⟩=some (.string ⟨#[45]⟩)
 c11:w.cell? ⟨1,11,none⟩=some (.string ⟨#[42]⟩)
 c12:w.cell? ⟨1,12,none⟩=some (.string ⟨#[47]⟩)
 c13:w.cell? ⟨1,13,none⟩=some (.string ⟨#[37]⟩)
 lt:1<w.heap.size
theorem SG.on{w w':World}(h:SG w)(hb:Below w.heap.size w w'):SG w':=by
 have hl:=h.lt
 have hz:=hb.size
 have key:∀o:Nat,w'.cell? ⟨1,o,none⟩=w.cell? ⟨1,o,none⟩:=fun o=>hb.cell (p:=⟨1,o,none⟩) hl
 refine⟨?_,?_,?_,?_,?_,?_,?_,?_,?_,?_,?_,?_,?_,?_,by omega⟩
 ·rw[key];exact h.c0
 ·rw[key];exact h.c1
 ·rw[key];exact h.c2
 ·rw[key];exact h.c3
 ·rw[key];exact h.c4
 ·rw[key];exact h.c5
 ·rw[key];exact h.c6
 ·rw[key];exact h.c7
 ·rw[key];exact h.c8
 ·rw[key];exact h.c9
 ·rw[key];exact h.c10
 ·rw[key];exact h.c11
 ·rw[key];exact h.c12
 ·rw[key];exact h.c13
theorem zrS{l g:List UInt8}{k:Nat}(hk:k<zaF.length)(hg:zaF[k]=g)(hp:Lib.hasPrefix l g=true){E:Nat}(hE:E=sgN (zaF.drop k) l):E=g.length:=by
 rw[hE,List.drop_eq_getElem_cons hk,sgN,hg,if_pos hp]
theorem zpq{l g:List UInt8}{k:Nat}(hk:k<zaF.length)(hg:zaF[k]=g)(hp:Lib.hasPrefix l g=false){E:Nat}(hE:E=sgN (zaF.drop k) l):E=sgN (zaF.drop (k+1)) l:=by
 rw[hE,List.drop_eq_getElem_cons hk,sgN,hg,if_neg (by rw[hp];decide)]
theorem zrU(k:Nat)(hk:k<14):∃S:ByteArray,(∀W:World,Sem.run Tryz.prog (Instr.index 183 (.agg #[.string ⟨#[60,62]⟩,.string ⟨#[60,61]⟩,.string ⟨#[62,61]⟩,.string ⟨#[60]⟩,.string ⟨#[62]⟩,.string ⟨#[61]⟩,.string ⟨#[40]⟩,.string ⟨#[41]⟩,.string ⟨#[44]⟩,.string ⟨#[43]⟩,.string ⟨#[45]⟩,.string ⟨#[42]⟩,.string ⟨#[47]⟩,.string ⟨#[37]⟩]) (.int .i64 (k:Int))) W=.ok (.string S) W)∧zaF[k]'hk=S.data.toList∧1≤S.size∧S.size≤2:=by
 have h:k=0∨k=1∨k=2∨k=3∨k=4∨k=5∨k=6∨k=7∨k=8∨k=9∨k=10∨k=11∨k=12∨k=13:=by omega
 rcases h with rfl|rfl|rfl|rfl|rfl|rfl|rfl|rfl|rfl|rfl|rfl|rfl|rfl|rfl
 ·exact⟨⟨#[60,62]⟩,fun W=>by kernel_rfl,rfl,by decide,by decide⟩
 ·exact⟨⟨#[60,61]⟩,fun W=>by kernel_rfl,rfl,by decide,by decide⟩
 ·exact⟨⟨#[62,61]⟩,fun W=>by kernel_rfl,rfl,by decide,by decide⟩
 ·exact⟨⟨#[60]⟩,fun W=>by kernel_rfl,rfl,by decide,by decide⟩
 ·exact⟨⟨#[62]⟩,fun W=>by kernel_rfl,rfl,by decide,by decide⟩
 ·exact⟨⟨#[61]⟩,fun W=>by kernel_rfl,rfl,by decide,by decide⟩
 ·exact⟨⟨#[40]⟩,fun W=>by kernel_rfl,rfl,by decide,by decide⟩
 ·exact⟨⟨#[41]⟩,fun W=>by kernel_rfl,rfl,by decide,by decide⟩
 ·exact⟨⟨#[44]⟩,fun W=>by kernel_rfl,rfl,by decide,by decide⟩
 ·exact⟨⟨#[43]⟩,fun W=>by kernel_rfl,rfl,by decide,by decide⟩
 ·exact⟨⟨#[45]⟩,fun W=>by kernel_rfl,rfl,by decide,by decide⟩
 ·exact⟨⟨#[42]⟩,fun W=>by kernel_rfl,rfl,by decide,by decide⟩
 ·exact⟨⟨#[47]⟩,fun W=>by kernel_rfl,rfl,by decide,by decide⟩
 ·exact⟨⟨#[37]⟩,fun W=>by kernel_rfl,rfl,by decide,by decide⟩
set_option maxRecDepth 20000 in
theorem zfL(s:ByteArray)(w:World)(hw:SG w) :
  Calls Tryz.prog 81 #[.string s] w fun e w'=>e=.returned (.tuple #[.int .i64 (sgN zaF s.data.toList:Nat),.int .i64 (if sgN zaF s.data.toList=0 then 2 else 0)])∧w'=w:=by
 obtain⟨E,hE⟩:∃E,sgN zaF s.data.toList=E:=⟨_,rfl⟩
 rw[hE]
 obtain⟨Z,hZ⟩:∃Z:Int,(if E=0 then 2 else 0)=Z:=⟨_,rfl⟩
 rw[hZ]
 have HZ:Hid ((if E=0 then 2 else 0)=Z):=hZ
 have HE0:Hid (sgN zaF s.data.toList=E):=hE
 clear hZ hE
 obtain⟨g0,g1,g2,g3,g4,g5,g6,g7,g8,g9,g10,g11,g12,g13,gl⟩:=hw
 go_enter Tryz.func81,Tryz.ntmps81
 go_wp2
 go_loopg [5,7] 14 (fun gg _ s7 wr=>∃kk:Nat,kk≤14∧14-kk≤gg∧s7=.int .i64 kk∧wr=w∧Hid (E=sgN (zaF.drop kk) s.data.toList))
 case atStart=>exact⟨0,Nat.zero_le _,by omega,rfl,rfl,HE0.out.symm⟩
 case round =>
  obtain⟨kk,hkk,hg,rfl,rfl,HE⟩:=hrel
  by_cases hlt:kk<14
  ·have hltz:(kk:Int)<14:=by omega
   obtain⟨S,hS,hS1,hS2,hS3⟩:=zrU kk hlt
   have cP:=fun W=>Tryz.strings_HasPrefix s S W
   cases hp:Lib.hasPrefix s.data.toList S.data.toList
   ·rw[hp] at cP
    have HE2:Hid (E=sgN (zaF.drop (kk+1)) s.data.toList):=zpq hlt hS1 hp HE.out
    clear hp HE hS1 g0 g1 g2 g3 g4 g5 g6 g7 g8 g9 g10 g11 g12 g13
    go_wp2_with fail
    refine (cP _).mono ?_
    rintro e w' ⟨rfl,rfl⟩
    go_wp2
    go_roundg (14-(kk+1))
    case measure=>omega
    case rel=>exact⟨kk+1,by omega,by omega,by go_num,rfl,HE2⟩
   ·rw[hp] at cP
    have HE2:E=S.size:=by rw[zrS hlt hS1 hp HE.out,Lib.size_eq]
    have HE3:Hid (E=S.size):=HE2
    clear hp HE hS1 HE2 g0 g1 g2 g3 g4 g5 g6 g7 g8 g9 g10 g11 g12 g13
    go_wp2_with fail
    refine (cP _).mono ?_
    rintro e w' ⟨rfl,rfl⟩
    go_wp2
    go_ret2
    refine⟨?_,rfl⟩
    have hz:=HZ.out
    rw[HE3.out,if_neg (by omega)] at hz
    rw[HE3.out,←hz]
    rfl
  ·have hltz:¬(kk:Int)<14:=by omega
   have HE2:E=0:=by
    rw[HE.out,List.drop_eq_nil_of_le (by show 14≤kk;omega)];rfl
   subst HE2
   have hz:2=Z:=by have:=HZ.out;rwa [if_pos rfl] at this
   subst hz
   clear HE HZ HE0 g0 g1 g2 g3 g4 g5 g6 g7 g8 g9 g10 g11 g12 g13
   go_wp2
   go_ret2
   exact⟨rfl,rfl⟩
theorem zhE:∀(l:List UInt8) (a u:Nat),l.all digB=true→Lib.parseUint10 a l=.ok u→u=l.foldl (fun a c=>a*10+(c.toNat-48)) a
 | [],a,u,_,h=>by
  simp only[Lib.parseUint10] at h
  injection h with h
  exact h.symm
 | c::r,a,u,ha,h=>by
  rw[List.all_cons,Bool.and_eq_true] at ha
  simp only[Lib.parseUint10] at h
  split at h
  ·split at h
   ·cases h
   ·split at h
    ·cases h
    ·exact zhE r _ u ha.2 h
  ·cases h
theorem ziU{t:List UInt8}(hne:t≠[])(ha:t.all digB=true)(hz:¬(1<t.length∧t.head?=some 48)):(val10 t≤9223372036854775807→Lib.atoiAll t=.ok (val10 t:Nat))∧(9223372036854775807<val10 t→∀n,Lib.atoiAll t≠.ok n):=by
 constructor
 ·intro hv
  have hl:t.length≠0:=fun e=>hne (List.length_eq_zero_iff.1 e)
  have hd:=zqr (t.length-1) t (by omega) ha (fun r e=>Classical.byContradiction fun hr=>hz ⟨by rw[e];cases r with|nil=>exact absurd rfl hr|cons _ _=>simp,by rw[e];rfl⟩)
  have hi:Lib.itoa (val10 t:Nat)=t:=by rw[Lib.itoa,if_neg (by omega),show ((val10 t:Nat):Int).toNat=val10 t from by omega,hd]
  have:=zlz (val10 t:Nat) (by omega)
  rwa [hi] at this
 ·intro hv n hn
  cases t with
  | nil=>exact hne rfl
  | cons c r =>
   have hc:=(zgq c).1 (by rw[List.all_cons,Bool.and_eq_true] at ha;exact ha.1)
   simp only[Lib.atoiAll] at hn
   rw[if_neg (by omega)] at hn
   split at hn
   ·cases hn
   ·cases hn
   ·rename_i u hu
    rw[Lib.parseMag,if_neg (by simp)] at hu
    have hu2:u=val10 (c::r):=zhE _ 0 u ha hu
    rw[if_pos ⟨by omega,by omega⟩] at hn
    cases hn
theorem zkQ(s:ByteArray)(n:Nat)(h:n≤s.size):∃X:ByteArray,(∀W:World,Sem.run Tryz.prog (Instr.slice 9 (.string s) none (some (.int .i64 (n:Int))) none) W=.ok (.string X) W)∧X.data.toList=s.data.toList.take n∧X.size=n:=by
 refine⟨s.extract 0 n,fun W=>?_,?_,?_⟩
 ·have:=run_slice_string_h (P:=Tryz.prog) W 9 s Tryz.underlying9 .i64 (n:Int) (by omega) (by omega)
  rw[this]
  simp
 ·simp
 ·simp;omega
theorem zhP(s:ByteArray)(n:Nat)(h:n≤s.size):∃X:ByteArray,(∀W:World,Sem.run Tryz.prog (Instr.slice 9 (.string s) (some (.int .i64 (n:Int))) none none) W=.ok (.string X) W)∧X.data.toList=s.data.toList.drop n∧X.size=s.size-n:=by
 refine⟨s.extract n s.size,fun W=>?_,?_,?_⟩
 ·have:=run_slice_string_l (P:=Tryz.prog) W 9 s Tryz.underlying9 .i64 (n:Int) (by omega) (by omega)
  rw[this]
  simp
 ·have:(s.extract n s.size).data.toList=(s.data.toList.drop n).take (s.size-n):=by simp
  rw[this,List.take_of_length_le (by simp)]
 ·simp
theorem zmx(s:ByteArray)(a b:Nat)(h1:a≤b)(h:b≤s.size):∃X:ByteArray,(∀W:World,Sem.run Tryz.prog (Instr.slice 9 (.string s) (some (.int .i64 (a:Int))) (some (.int .i64 (b:Int))) none) W=.ok (.string X) W)∧X.data.toList=(s.data.toList.drop a).take (b-a)∧X.size=b-a:=by
 refine⟨s.extract a b,fun W=>?_,?_,?_⟩
 ·have:=run_slice_string (P:=Tryz.prog) W 9 s .i64 .i64 (a:Int) (b:Int) Tryz.underlying9 (by omega) (by omega) (by omega)
  rw[this]
  simp
 ·simp
 ·simp;omega
theorem hd_at{p:UInt8→Bool}{s:ByteArray}{k:Nat}(h:k<s.size):hdB p (s.data.toList.drop k)=p s[k]:=by rw[zaC s k h];rfl
theorem zqW{p:UInt8→Bool}{s:ByteArray}{k:Nat}(h:s.size≤k):hdB p (s.data.toList.drop k)=false:=by rw[List.drop_eq_nil_of_le (by simp;omega)];rfl
theorem zfs{s:ByteArray}(h:0<s.size):s.data.toList.head?=some s[0]:=by
 have e:s.data.toList=s[0]::s.data.toList.drop 1:=by have:=zaC s 0 h;simpa using this
 rw[e];rfl
theorem u8_48{c:UInt8}:(c.toNat:Int)=48↔c=48 :=
 ⟨fun h=>UInt8.toNat_inj.1 (by rw[show (48:UInt8).toNat=48 from rfl];omega),fun h=>by rw[h];rfl⟩
theorem zoX{s X:ByteArray}(hp:0<s.size)(hN:0<goN digB s.data.toList)(hX:X.data.toList=s.data.toList.take (goN digB s.data.toList))(hz:¬(1<goN digB s.data.toList∧s.data.toList.head?=some 48)) :
  (val10 X.data.toList≤9223372036854775807→Lib.atoiAll X.data.toList=.ok (val10 X.data.toList:Nat))∧(9223372036854775807<val10 X.data.toList→∀n,Lib.atoiAll X.data.toList≠.ok n):=by
 have hle:=zcW digB s.data.toList
 have hlen:X.data.toList.length=goN digB s.data.toList:=by rw[hX,List.length_take];omega
 refine ziU (fun e=>by rw[e] at hlen;simp at hlen;omega) (by rw[hX];exact zcV _ _) ?_
 rintro ⟨h1,h2⟩
 refine hz ⟨by omega,?_⟩
 rw[hX,List.head?_take,if_neg (by omega)] at h2
 exact h2
set_option maxRecDepth 20000 in
theorem zfC(s:ByteArray)(N:Nat)(w:World)(hs:s.size≤140737488355328)(hlt:N<s.size)(hN:goN digB s.data.toList=N)(hl:letB s[N]=true) :
  Calls Tryz.prog 79 #[.string s] w fun e w'=>e=.returned (.tuple #[.int .i64 0,.int .i64 2])∧w'=w:=by
 have cG:=fun W=>zak s W (by unfold maxLen;omega)
 rw[hN] at cG
 have cL:=zas s[N]
 rw[hl] at cL
 have hltz:(N:Int)<(s.size:Int):=by omega
 have hp:0<s.size:=by omega
 clear hN hl
 go_enter Tryz.func79,Tryz.ntmps79
 go_wp2_with (first|(go_at_call 41;refine (cG _).mono ?_;rintro e w' ⟨rfl,rfl⟩)|(go_at_call 76;refine (cL _).mono ?_;rintro e w' ⟨rfl,rfl⟩))
 all_goals
  go_ret2
  exact⟨rfl,rfl⟩
set_option maxRecDepth 20000 in
theorem zes(s:ByteArray)(N:Nat)(w:World)(hs:s.size≤140737488355328)(hp:0<s.size)(hlt:N<s.size)(hl:letB s[N]=false)(hN:goN digB s.data.toList=N)(h1:1<N)(h0:s[0]=48) :
  Calls Tryz.prog 79 #[.string s] w fun e w'=>e=.returned (.tuple #[.int .i64 0,.int .i64 2])∧w'=w:=by
 have cG:=fun W=>zak s W (by unfold maxLen;omega)
 rw[hN] at cG
 have cL:=zas s[N]
 rw[hl] at cL
 have hltz:(N:Int)<(s.size:Int):=by omega
 clear hl
 have h1z:(1:Int)<(N:Int):=by omega
 have h0z:((s[0].toNat:Int) == 48)=true:=by rw[h0];rfl
 clear hN h0
 go_enter Tryz.func79,Tryz.ntmps79
 go_wp2_with (first|(go_at_call 41;refine (cG _).mono ?_;rintro e w' ⟨rfl,rfl⟩)|(go_at_call 76;refine (cL _).mono ?_;rintro e w' ⟨rfl,rfl⟩))
 go_ret2
 exact⟨rfl,rfl⟩
set_option maxRecDepth 20000 in
theorem zeq(s X:ByteArray)(N:Nat)(w:World)(henv:Env w)(hs:s.size≤140737488355328)(hp:0<s.size)(hNs:N≤s.size)(hlt:N<s.size)(hl:letB s[N]=false)(hN:goN digB s.data.toList=N)(hX:∀W:World,Sem.run Tryz.prog (Instr.slice 9 (.string s) none (some (.int .i64 (N:Int))) none) W=.ok (.string X) W)(hXs:X.size≤140737488355328)(h1:1<N)(h0:s[0]≠48)(hv:∃n,Lib.atoiAll X.data.toList=.ok n) :
  Calls Tryz.prog 79 #[.string s] w fun e w'=>e=.returned (.tuple #[.int .i64 (N:Nat),.int .i64 0])∧Below w.heap.size w w':=by
 have cG:=fun W=>zak s W (by unfold maxLen;omega)
 rw[hN] at cG
 have cL:=zas s[N]
 rw[hl] at cL
 have hltz:(N:Int)<(s.size:Int):=by omega
 clear hl
 have h1z:(1:Int)<(N:Int):=by omega
 have h0z:((s[0].toNat:Int) == 48)=false:=by rw[beq_eq_false_iff_ne];exact fun e=>h0 (u8_48.1 e)
 clear h0
 obtain⟨n,hn⟩:=hv
 have HV:Hid (Lib.atoiAll X.data.toList=.ok n):=hn
 clear hn
 clear hN
 go_enter Tryz.func79,Tryz.ntmps79
 go_wp2_with (first|(go_at_call 41;refine (cG _).mono ?_;rintro e w' ⟨rfl,hq⟩;obtain rfl:w=w':=hq.symm)|(go_at_call 76;refine (cL _).mono ?_;rintro e w' ⟨rfl,hq2⟩;obtain rfl:w=w':=hq2.symm))
 refine (zcO X n _ hXs HV.out).mono ?_
 rintro e w1 ⟨rfl,b1⟩
 go_wp2
 go_ret2
 exact⟨rfl,b1⟩
set_option maxRecDepth 20000 in
theorem zdv(s X:ByteArray)(N:Nat)(w:World)(henv:Env w)(hs:s.size≤140737488355328)(hp:0<s.size)(hNs:N≤s.size)(hlt:N<s.size)(hl:letB s[N]=false)(hN:goN digB s.data.toList=N)(hX:∀W:World,Sem.run Tryz.prog (Instr.slice 9 (.string s) none (some (.int .i64 (N:Int))) none) W=.ok (.string X) W)(hXs:X.size≤140737488355328)(h1:1<N)(h0:s[0]≠48)(hv:∀n,Lib.atoiAll X.data.toList≠.ok n) :
  Calls Tryz.prog 79 #[.string s] w fun e w'=>e=.returned (.tuple #[.int .i64 0,.int .i64 1])∧Below w.heap.size w w':=by
 have cG:=fun W=>zak s W (by unfold maxLen;omega)
 rw[hN] at cG
 have cL:=zas s[N]
 rw[hl] at cL
 have hltz:(N:Int)<(s.size:Int):=by omega
 clear hl
 have h1z:(1:Int)<(N:Int):=by omega
 have h0z:((s[0].toNat:Int) == 48)=false:=by rw[beq_eq_false_iff_ne];exact fun e=>h0 (u8_48.1 e)
 clear h0
 have HV:Hid (∀n,Lib.atoiAll X.data.toList≠.ok n):=hv
 clear hv
 clear hN
 go_enter Tryz.func79,Tryz.ntmps79
 go_wp2_with (first|(go_at_call 41;refine (cG _).mono ?_;rintro e w' ⟨rfl,hq⟩;obtain rfl:w=w':=hq.symm)|(go_at_call 76;refine (cL _).mono ?_;rintro e w' ⟨rfl,hq2⟩;obtain rfl:w=w':=hq2.symm))
 refine (zcd X _ hXs HV.out henv).mono ?_
 rintro e w1 ⟨n,t,v,rfl,b1⟩
 go_wp2
 go_ret2
 exact⟨rfl,b1⟩
set_option maxRecDepth 20000 in
theorem zer(s X:ByteArray)(N:Nat)(w:World)(henv:Env w)(hs:s.size≤140737488355328)(hp:0<s.size)(hNs:N≤s.size)(hlt:N<s.size)(hl:letB s[N]=false)(hN:goN digB s.data.toList=N)(hX:∀W:World,Sem.run Tryz.prog (Instr.slice 9 (.string s) none (some (.int .i64 (N:Int))) none) W=.ok (.string X) W)(hXs:X.size≤140737488355328)(h1:¬1<N)(hv:∃n,Lib.atoiAll X.data.toList=.ok n) :
  Calls Tryz.prog 79 #[.string s] w fun e w'=>e=.returned (.tuple #[.int .i64 (N:Nat),.int .i64 0])∧Below w.heap.size w w':=by
 have cG:=fun W=>zak s W (by unfold maxLen;omega)
 rw[hN] at cG
 have cL:=zas s[N]
 rw[hl] at cL
 have hltz:(N:Int)<(s.size:Int):=by omega
 clear hl
 have h1z:¬(1:Int)<(N:Int):=by omega
 obtain⟨n,hn⟩:=hv
 have HV:Hid (Lib.atoiAll X.data.toList=.ok n):=hn
 clear hn
 clear hN
 go_enter Tryz.func79,Tryz.ntmps79
 go_wp2_with (first|(go_at_call 41;refine (cG _).mono ?_;rintro e w' ⟨rfl,hq⟩;obtain rfl:w=w':=hq.symm)|(go_at_call 76;refine (cL _).mono ?_;rintro e w' ⟨rfl,hq2⟩;obtain rfl:w=w':=hq2.symm))
 refine (zcO X n _ hXs HV.out).mono ?_
 rintro e w1 ⟨rfl,b1⟩
 go_wp2
 go_ret2
 exact⟨rfl,b1⟩
set_option maxRecDepth 20000 in
theorem zdw(s X:ByteArray)(N:Nat)(w:World)(henv:Env w)(hs:s.size≤140737488355328)(hp:0<s.size)(hNs:N≤s.size)(hlt:N<s.size)(hl:letB s[N]=false)(hN:goN digB s.data.toList=N)(hX:∀W:World,Sem.run Tryz.prog (Instr.slice 9 (.string s) none (some (.int .i64 (N:Int))) none) W=.ok (.string X) W)(hXs:X.size≤140737488355328)(h1:¬1<N)(hv:∀n,Lib.atoiAll X.data.toList≠.ok n) :
  Calls Tryz.prog 79 #[.string s] w fun e w'=>e=.returned (.tuple #[.int .i64 0,.int .i64 1])∧Below w.heap.size w w':=by
 have cG:=fun W=>zak s W (by unfold maxLen;omega)
 rw[hN] at cG
 have cL:=zas s[N]
 rw[hl] at cL
 have hltz:(N:Int)<(s.size:Int):=by omega
 clear hl
 have h1z:¬(1:Int)<(N:Int):=by omega
 have HV:Hid (∀n,Lib.atoiAll X.data.toList≠.ok n):=hv
 clear hv
 clear hN
 go_enter Tryz.func79,Tryz.ntmps79
 go_wp2_with (first|(go_at_call 41;refine (cG _).mono ?_;rintro e w' ⟨rfl,hq⟩;obtain rfl:w=w':=hq.symm)|(go_at_call 76;refine (cL _).mono ?_;rintro e w' ⟨rfl,hq2⟩;obtain rfl:w=w':=hq2.symm))
 refine (zcd X _ hXs HV.out henv).mono ?_
 rintro e w1 ⟨n,t,v,rfl,b1⟩
 go_wp2
 go_ret2
 exact⟨rfl,b1⟩
set_option maxRecDepth 20000 in
theorem zdz(s:ByteArray)(N:Nat)(w:World)(hs:s.size≤140737488355328)(hp:0<s.size)(hlt:s.size≤N)(hN:goN digB s.data.toList=N)(h1:1<N)(h0:s[0]=48) :
  Calls Tryz.prog 79 #[.string s] w fun e w'=>e=.returned (.tuple #[.int .i64 0,.int .i64 2])∧w'=w:=by
 have cG:=fun W=>zak s W (by unfold maxLen;omega)
 rw[hN] at cG
 have hltz:¬(N:Int)<(s.size:Int):=by omega
 have h1z:(1:Int)<(N:Int):=by omega
 have h0z:((s[0].toNat:Int) == 48)=true:=by rw[h0];rfl
 clear hN h0
 go_enter Tryz.func79,Tryz.ntmps79
 go_wp2_with (first|(go_at_call 41;refine (cG _).mono ?_;rintro e w' ⟨rfl,rfl⟩))
 go_ret2
 exact⟨rfl,rfl⟩
set_option maxRecDepth 20000 in
theorem zdx(s X:ByteArray)(N:Nat)(w:World)(henv:Env w)(hs:s.size≤140737488355328)(hp:0<s.size)(hNs:N≤s.size)(hlt:s.size≤N)(hN:goN digB s.data.toList=N)(hX:∀W:World,Sem.run Tryz.prog (Instr.slice 9 (.string s) none (some (.int .i64 (N:Int))) none) W=.ok (.string X) W)(hXs:X.size≤140737488355328)(h1:1<N)(h0:s[0]≠48)(hv:∃n,Lib.atoiAll X.data.toList=.ok n) :
  Calls Tryz.prog 79 #[.string s] w fun e w'=>e=.returned (.tuple #[.int .i64 (N:Nat),.int .i64 0])∧Below w.heap.size w w':=by
 have cG:=fun W=>zak s W (by unfold maxLen;omega)
 rw[hN] at cG
 have hltz:¬(N:Int)<(s.size:Int):=by omega
 have h1z:(1:Int)<(N:Int):=by omega
 have h0z:((s[0].toNat:Int) == 48)=false:=by rw[beq_eq_false_iff_ne];exact fun e=>h0 (u8_48.1 e)
 clear h0
 obtain⟨n,hn⟩:=hv
 have HV:Hid (Lib.atoiAll X.data.toList=.ok n):=hn
 clear hn
 clear hN
 go_enter Tryz.func79,Tryz.ntmps79
 go_wp2_with (first|(go_at_call 41;refine (cG _).mono ?_;rintro e w' ⟨rfl,hq⟩;obtain rfl:w=w':=hq.symm))
 refine (zcO X n _ hXs HV.out).mono ?_
 rintro e w1 ⟨rfl,b1⟩
 go_wp2
 go_ret2
 exact⟨rfl,b1⟩
set_option maxRecDepth 20000 in
theorem zdc(s X:ByteArray)(N:Nat)(w:World)(henv:Env w)(hs:s.size≤140737488355328)(hp:0<s.size)(hNs:N≤s.size)(hlt:s.size≤N)(hN:goN digB s.data.toList=N)(hX:∀W:World,Sem.run Tryz.prog (Instr.slice 9 (.string s) none (some (.int .i64 (N:Int))) none) W=.ok (.string X) W)(hXs:X.size≤140737488355328)(h1:1<N)(h0:s[0]≠48)(hv:∀n,Lib.atoiAll X.data.toList≠.ok n) :
  Calls Tryz.prog 79 #[.string s] w fun e w'=>e=.returned (.tuple #[.int .i64 0,.int .i64 1])∧Below w.heap.size w w':=by
 have cG:=fun W=>zak s W (by unfold maxLen;omega)
 rw[hN] at cG
 have hltz:¬(N:Int)<(s.size:Int):=by omega
 have h1z:(1:Int)<(N:Int):=by omega
 have h0z:((s[0].toNat:Int) == 48)=false:=by rw[beq_eq_false_iff_ne];exact fun e=>h0 (u8_48.1 e)
 clear h0
 have HV:Hid (∀n,Lib.atoiAll X.data.toList≠.ok n):=hv
 clear hv
 clear hN
 go_enter Tryz.func79,Tryz.ntmps79
 go_wp2_with (first|(go_at_call 41;refine (cG _).mono ?_;rintro e w' ⟨rfl,hq⟩;obtain rfl:w=w':=hq.symm))
 refine (zcd X _ hXs HV.out henv).mono ?_
 rintro e w1 ⟨n,t,v,rfl,b1⟩
 go_wp2
 go_ret2
 exact⟨rfl,b1⟩
set_option maxRecDepth 20000 in
theorem zdy(s X:ByteArray)(N:Nat)(w:World)(henv:Env w)(hs:s.size≤140737488355328)(hp:0<s.size)(hNs:N≤s.size)(hlt:s.size≤N)(hN:goN digB s.data.toList=N)(hX:∀W:World,Sem.run Tryz.prog (Instr.slice 9 (.string s) none (some (.int .i64 (N:Int))) none) W=.ok (.string X) W)(hXs:X.size≤140737488355328)(h1:¬1<N)(hv:∃n,Lib.atoiAll X.data.toList=.ok n) :
  Calls Tryz.prog 79 #[.string s] w fun e w'=>e=.returned (.tuple #[.int .i64 (N:Nat),.int .i64 0])∧Below w.heap.size w w':=by
 have cG:=fun W=>zak s W (by unfold maxLen;omega)
 rw[hN] at cG
 have hltz:¬(N:Int)<(s.size:Int):=by omega
 have h1z:¬(1:Int)<(N:Int):=by omega
 obtain⟨n,hn⟩:=hv
 have HV:Hid (Lib.atoiAll X.data.toList=.ok n):=hn
 clear hn
 clear hN
 go_enter Tryz.func79,Tryz.ntmps79
 go_wp2_with (first|(go_at_call 41;refine (cG _).mono ?_;rintro e w' ⟨rfl,hq⟩;obtain rfl:w=w':=hq.symm))
 refine (zcO X n _ hXs HV.out).mono ?_
 rintro e w1 ⟨rfl,b1⟩
 go_wp2
 go_ret2
 exact⟨rfl,b1⟩
set_option maxRecDepth 20000 in
theorem zdd(s X:ByteArray)(N:Nat)(w:World)(henv:Env w)(hs:s.size≤140737488355328)(hp:0<s.size)(hNs:N≤s.size)(hlt:s.size≤N)(hN:goN digB s.data.toList=N)(hX:∀W:World,Sem.run Tryz.prog (Instr.slice 9 (.string s) none (some (.int .i64 (N:Int))) none) W=.ok (.string X) W)(hXs:X.size≤140737488355328)(h1:¬1<N)(hv:∀n,Lib.atoiAll X.data.toList≠.ok n) :
  Calls Tryz.prog 79 #[.string s] w fun e w'=>e=.returned (.tuple #[.int .i64 0,.int .i64 1])∧Below w.heap.size w w':=by
 have cG:=fun W=>zak s W (by unfold maxLen;omega)
 rw[hN] at cG
 have hltz:¬(N:Int)<(s.size:Int):=by omega
 have h1z:¬(1:Int)<(N:Int):=by omega
 have HV:Hid (∀n,Lib.atoiAll X.data.toList≠.ok n):=hv
 clear hv
 clear hN
 go_enter Tryz.func79,Tryz.ntmps79
 go_wp2_with (first|(go_at_call 41;refine (cG _).mono ?_;rintro e w' ⟨rfl,hq⟩;obtain rfl:w=w':=hq.symm))
 refine (zcd X _ hXs HV.out henv).mono ?_
 rintro e w1 ⟨n,t,v,rfl,b1⟩
 go_wp2
 go_ret2
 exact⟨rfl,b1⟩
theorem zdu(s:ByteArray)(w:World)(henv:Env w)(hs:s.size≤140737488355328)(hp:0<s.size)(hd:digB s[0]=true) :
  Calls Tryz.prog 79 #[.string s] w fun e w'=>e=.returned (.tuple #[.int .i64 ((zaU s.data.toList).1:Nat),.int .i64 (zaU s.data.toList).2])∧Below w.heap.size w w':=by
 have h0:0<goN digB s.data.toList:=by
  have:=zaC s 0 hp
  rw[List.drop_zero] at this
  rw[this,zdI _ hd];omega
 have hle:goN digB s.data.toList≤s.size:=by have:=zcW digB s.data.toList;simpa using this
 obtain⟨X,hX,hX1,hX2⟩:=zkQ s (goN digB s.data.toList) hle
 have hXs:X.size≤140737488355328:=by omega
 have key:=zoX hp h0 hX1
 rw[hX1] at key
 obtain⟨N,hN⟩:∃N,goN digB s.data.toList=N:=⟨_,rfl⟩
 by_cases hlt:N<s.size
 ·cases hl:letB s[N]
  ·by_cases h1:1<N
   ·by_cases hz:s[0]=48
    ·rw[zaU,if_pos (Or.inr ⟨by omega,by rw[zfs hp,hz]⟩)]
     exact (zes s N w hs hp hlt hl hN h1 hz).mono fun e w' hh=>⟨hh.1,by rw[hh.2];exact Below.refl _ _⟩
    ·have hno:¬(1<goN digB s.data.toList∧s.data.toList.head?=some 48):=fun e=>hz (by rw[zfs hp] at e;exact Option.some.inj e.2)
     obtain⟨k1,k2⟩:=key hno
     rw[zaU,if_neg (fun e=>e.elim (fun e=>by rw[hN,hd_at hlt,hl] at e;cases e) hno)]
     by_cases hv:9223372036854775807<val10 (s.data.toList.take (goN digB s.data.toList))
     ·rw[if_pos hv]
      rw[hN] at hX
      exact zdv s X N w henv hs hp (by omega) hlt hl hN hX hXs h1 hz (by rw[hX1];exact k2 hv)
     ·rw[if_neg hv]
      simp only[hN] at hX ⊢
      exact zeq s X N w henv hs hp (by omega) hlt hl hN hX hXs h1 hz ⟨_,by rw[hX1];exact k1 (by omega)⟩
   ·have hno:¬(1<goN digB s.data.toList∧s.data.toList.head?=some 48):=fun e=>h1 (by omega)
    obtain⟨k1,k2⟩:=key hno
    rw[zaU,if_neg (fun e=>e.elim (fun e=>by rw[hN,hd_at hlt,hl] at e;cases e) hno)]
    by_cases hv:9223372036854775807<val10 (s.data.toList.take (goN digB s.data.toList))
    ·rw[if_pos hv]
     rw[hN] at hX
     exact zdw s X N w henv hs hp (by omega) hlt hl hN hX hXs h1 (by rw[hX1];exact k2 hv)
    ·rw[if_neg hv]
     simp only[hN] at hX ⊢
     exact zer s X N w henv hs hp (by omega) hlt hl hN hX hXs h1 ⟨_,by rw[hX1];exact k1 (by omega)⟩
  ·rw[zaU,if_pos (Or.inl (by rw[hN,hd_at hlt];exact hl))]
   exact (zfC s N w hs hlt hN hl).mono fun e w' hh=>⟨hh.1,by rw[hh.2];exact Below.refl _ _⟩
 ·have hge:s.size≤N:=by omega
  by_cases h1:1<N
  ·by_cases hz:s[0]=48
   ·rw[zaU,if_pos (Or.inr ⟨by omega,by rw[zfs hp,hz]⟩)]
    exact (zdz s N w hs hp hge hN h1 hz).mono fun e w' hh=>⟨hh.1,by rw[hh.2];exact Below.refl _ _⟩
   ·have hno:¬(1<goN digB s.data.toList∧s.data.toList.head?=some 48):=fun e=>hz (by rw[zfs hp] at e;exact Option.some.inj e.2)
    obtain⟨k1,k2⟩:=key hno
    rw[zaU,if_neg (fun e=>e.elim (fun e=>by rw[hN,zqW hge] at e;cases e) hno)]
    by_cases hv:9223372036854775807<val10 (s.data.toList.take (goN digB s.data.toList))
    ·rw[if_pos hv]
     rw[hN] at hX
     exact zdc s X N w henv hs hp (by omega) hge hN hX hXs h1 hz (by rw[hX1];exact k2 hv)
    ·rw[if_neg hv]
     simp only[hN] at hX ⊢
     exact zdx s X N w henv hs hp (by omega) hge hN hX hXs h1 hz ⟨_,by rw[hX1];exact k1 (by omega)⟩
  ·have hno:¬(1<goN digB s.data.toList∧s.data.toList.head?=some 48):=fun e=>h1 (by omega)
   obtain⟨k1,k2⟩:=key hno
   rw[zaU,if_neg (fun e=>e.elim (fun e=>by rw[hN,zqW hge] at e;cases e) hno)]
   by_cases hv:9223372036854775807<val10 (s.data.toList.take (goN digB s.data.toList))
   ·rw[if_pos hv]
    rw[hN] at hX
    exact zdd s X N w henv hs hp (by omega) hge hN hX hXs h1 (by rw[hX1];exact k2 hv)
   ·rw[if_neg hv]
    simp only[hN] at hX ⊢
    exact zdy s X N w henv hs hp (by omega) hge hN hX hXs h1 ⟨_,by rw[hX1];exact k1 (by omega)⟩
def togN:Bool→List UInt8→Nat
 | _,[]=>0
 | b,c::l=>if c=39 then togN (!b) l+1 else if b=true then togN b l+1 else 0
theorem zkY:∀(l:List UInt8) (b:Bool),togN b l≤l.length
 | [],b=>by simp[togN]
 | c::l,b=>by
  rw[togN]
  split
  ·have:=zkY l (!b);simp;omega
  ·split
   ·have:=zkY l b;simp;omega
   ·simp
theorem zgY:∀(n:Nat) (l:List UInt8) (k:Nat),l.length≤n→qscan l=some k→togN true l=k
 | _,[],k,_,h=>by simp[qscan] at h
 | 0,_::_,_,hn,_=>by simp at hn
 | n+1,c::l,k,hn,h=>by
  by_cases hc:c=39
  ·subst hc
   cases l with
   | nil=>simp[qscan] at h;subst h;simp[togN]
   | cons d r =>
    by_cases hd:d=39
    ·subst hd
     rw[zbS,Option.map_eq_some_iff] at h
     obtain⟨j,hj,rfl⟩:=h
     have:=zgY n r j (by simp at hn;omega) hj
     simp[togN,this]
    ·rw[zbR _ (by simpa using hd)] at h
     cases h
     simp[togN,hd]
  ·rw[zdm c l hc,Option.map_eq_some_iff] at h
   obtain⟨j,hj,rfl⟩:=h
   have:=zgY n l j (by simp at hn;omega) hj
   simp[togN,hc,this]
theorem zgX:∀(n:Nat) (l:List UInt8),l.length≤n→qscan l=none→togN true l=l.length∧rd l=none
 | _,[],_,_=>by simp[togN,rd]
 | 0,_::_,hn,_=>by simp at hn
 | n+1,c::l,hn,h=>by
  by_cases hc:c=39
  ·subst hc
   cases l with
   | nil=>simp[qscan] at h
   | cons d r =>
    by_cases hd:d=39
    ·subst hd
     rw[zbS,Option.map_eq_none_iff] at h
     obtain⟨h1,h2⟩:=zgX n r (by simp at hn;omega) h
     exact⟨by simp[togN,h1],by rw[zms,h2];rfl⟩
    ·rw[zbR _ (by simpa using hd)] at h
     cases h
  ·rw[zdm c l hc,Option.map_eq_none_iff] at h
   obtain⟨h1,h2⟩:=zgX n l (by simp at hn;omega) h
   exact⟨by simp[togN,hc,h1],by rw[rd_ne c l hc,h2];rfl⟩
theorem zrJ(r:List UInt8):zbT r=if qE (r.take (togN true r))=0 then (togN true r+1,0) else (0,qE (r.take (togN true r))):=by
 rw[zbT]
 cases h:qscan r with
 | none =>
  obtain⟨h1,h2⟩:=zgX _ r (Nat.le_refl _) h
  have:qE (r.take (togN true r))=2:=by rw[h1,List.take_length,qE,h2]
  rw[this];rfl
 | some k=>rw[zgY _ r k (Nat.le_refl _) h]
theorem zpk(x:List UInt8):qE x=0∨qE x=2∨qE x=4:=by
 rw[qE]
 split
 ·simp
 ·split
  ·simp
  ·split<;>simp
theorem zrN{X:ByteArray}{t:List UInt8}(h:X.data.toList=39::t):(readV X).2.2.2=qE t:=by
 have hz:X.size=t.length+1:=by rw[Lib.size_eq,h,List.length_cons]
 have hp:0<X.size:=by omega
 have h1:X.data.toList≠[116,114,117,101]:=by rw[h];intro e;injection e with e _;revert e;decide
 have h2:X.data.toList≠[102,97,108,115,101]:=by rw[h];intro e;injection e with e _;revert e;decide
 have h0:(X[0].toNat:Int)=39:=by
  have:=zfs hp
  rw[h] at this
  have:(39:UInt8)=X[0]:=Option.some.inj this
  rw[←this];rfl
 have hd:X.data.toList.drop 1=t:=by rw[h];rfl
 rw[qE]
 cases hr:rd t with
 | none=>rw[zgJ h1 h2 hp h0 (by rw[hd];exact hr)]
 | some l =>
  rw[zgK h1 h2 hp h0 (by rw[hd];exact hr)]
  simp only
  split
  ·rfl
  ·split<;>rfl
theorem zkA(b:Bool)(p:Nat)(w:World)(hp:w.cell? ⟨p,0,none⟩=some (.bool b))(hf:w.frozen? ⟨p,0,none⟩=false) :
  Calls Tryz.prog 112 #[.int .u8 39,.pointer (some ⟨p,0,none⟩)] w fun e w'=>e=.returned (.bool true)∧w'=w.setCell ⟨p,0,none⟩ (.bool !b):=by
 go_enter Tryz.func112,Tryz.ntmps112
 go_wp2
 go_ret
 exact⟨rfl,rfl⟩
theorem zkz(r:Int)(b:Bool)(p:Nat)(w:World)(hr:r≠39)(hp:w.cell? ⟨p,0,none⟩=some (.bool b)) :
  Calls Tryz.prog 112 #[.int .u8 r,.pointer (some ⟨p,0,none⟩)] w fun e w'=>e=.returned (.bool b)∧w'=w:=by
 have e1:(r == 39)=false:=by simpa using hr
 go_enter Tryz.func112,Tryz.ntmps112
 go_wp2
 go_ret
 exact⟨rfl,rfl⟩
theorem zmD{s:ByteArray}{k:Nat}{b:Bool}(h:k<s.size)(hc:s[k]=39){E:Nat}(hE:E=k+togN b (s.data.toList.drop k)):E=k+1+togN (!b) (s.data.toList.drop (k+1)):=by
 rw[hE,zaC s k h,togN,if_pos hc];omega
theorem ztF{s:ByteArray}{k:Nat}(h:k<s.size)(hc:s[k]≠39){E:Nat}(hE:E=k+togN true (s.data.toList.drop k)):E=k+1+togN true (s.data.toList.drop (k+1)):=by
 rw[hE,zaC s k h,togN,if_neg hc,if_pos rfl];omega
theorem zsr{s:ByteArray}{k:Nat}(h:k<s.size)(hc:s[k]≠39){E:Nat}(hE:E=k+togN false (s.data.toList.drop k)):E=k:=by
 rw[hE,zaC s k h,togN,if_neg hc,if_neg (by decide)];rfl
theorem zsq{s:ByteArray}{k:Nat}{b:Bool}(h:s.size≤k)(hk:k≤s.size){E:Nat}(hE:E=k+togN b (s.data.toList.drop k)):E=s.size:=by
 rw[hE,List.drop_eq_nil_of_le (by simp;omega)];simp[togN];omega
theorem zsu{c:UInt8}(h:c≠39):(c.toNat:Int)≠39:=fun e=>h (UInt8.toNat_inj.1 (by rw[show (39:UInt8).toNat=39 from rfl];omega))
theorem zoa{w:World}{b o:Nat}{v:Value}(h:w.cell? ⟨b,o,none⟩=some v):b<w.heap.size:=by
 rcases Nat.lt_or_ge b w.heap.size with h'|h'
 ·exact h'
 ·simp[World.cell?,Array.getElem?_eq_none h'] at h
theorem zgw(s:ByteArray)(p:Nat)(w:World)(hs:s.size≤maxLen)(hp:w.cell? ⟨p,0,none⟩=some (.bool false))(hf:w.frozen? ⟨p,0,none⟩=false) :
  Calls Tryz.prog 41 #[.string s,.func (.func 112) #[] #[.pointer (some ⟨p,0,none⟩)]] w fun e w'=>e=.returned (.int .i64 (togN false s.data.toList:Nat))∧Below p w w':=by
 unfold maxLen at hs
 obtain⟨E,hE⟩:∃E,togN false s.data.toList=E:=⟨_,rfl⟩
 rw[hE]
 go_enter Tryz.func41,Tryz.ntmps41
 go_wp2
 go_loopg [5,8] s.size (fun gg _ s8 wr=>∃(kk:Nat) (b:Bool),kk≤s.size∧s.size-kk≤gg∧s8=.int .i64 kk∧Aside (Below p w wr)∧wr.cell? ⟨p,0,none⟩=some (.bool b)∧wr.frozen? ⟨p,0,none⟩=false∧Hid (E=kk+togN b (s.data.toList.drop kk)))
 case atStart=>exact⟨0,false,Nat.zero_le _,by omega,rfl,Below.refl _ w,hp,hf,(show Hid _ by simp[Hid,hE])⟩
 case round =>
  obtain⟨kk,b,hkk,hg,rfl,BW,hpc,hpf,HE⟩:=hrel
  clear hp hf
  by_cases hlt:kk<s.size
  ·have hltz:(kk:Int)<(s.size:Int):=by omega
   by_cases hc:s[kk]=39
   ·have HE2:Hid (E=kk+1+togN (!b) (s.data.toList.drop (kk+1))):=zmD hlt hc HE.out
    have hcz:(s[kk].toNat:Int)=39:=by rw[hc];rfl
    have cS:=zkA b p wr hpc hpf
    rw[←hcz] at cS
    have BW2:=BW.out.setCell (p:=⟨p,0,none⟩) (Nat.le_refl _) (.bool !b)
    have hpc3:=World.cell?_setCell_same wr ⟨p,0,none⟩ (.bool !b) hpc
    have hpf3:(wr.setCell ⟨p,0,none⟩ (.bool !b)).frozen? ⟨p,0,none⟩=false:=by
     have:(wr.setCell ⟨p,0,none⟩ (.bool !b)).frozen? ⟨p,0,none⟩=wr.frozen? ⟨p,0,none⟩:=by simp
     rw[this];exact hpf
    clear hc HE hcz
    go_wp2_with fail
    refine cS.mono ?_
    rintro e w' ⟨rfl,rfl⟩
    go_wp2
    go_roundg (s.size-(kk+1))
    case measure=>omega
    case rel=>exact⟨kk+1,!b,by omega,by omega,by go_num,BW2,hpc3,hpf3,HE2⟩
   ·have hcz:=zsu hc
    have cS:=zkz _ b p wr hcz hpc
    cases b
    ·obtain rfl:kk=E:=(zsr hlt hc HE.out).symm
     clear hc HE hcz
     go_wp2_with fail
     refine cS.mono ?_
     rintro e w' ⟨rfl,hq⟩
     obtain rfl:wr=w':=hq.symm
     go_wp2
     go_ret
     exact⟨rfl,BW.out⟩
    ·have HE2:Hid (E=kk+1+togN true (s.data.toList.drop (kk+1))):=ztF hlt hc HE.out
     clear hc HE hcz
     go_wp2_with fail
     refine cS.mono ?_
     rintro e w' ⟨rfl,hq⟩
     obtain rfl:wr=w':=hq.symm
     go_wp2
     go_roundg (s.size-(kk+1))
     case measure=>omega
     case rel=>exact⟨kk+1,true,by omega,by omega,by go_num,BW,hpc,hpf,HE2⟩
  ·have hltz:¬(kk:Int)<(s.size:Int):=by omega
   obtain rfl:s.size=E:=(zsq (by omega) hkk HE.out).symm
   clear HE
   go_wp2
   go_ret
   exact⟨rfl,BW.out⟩
theorem zmn(s:ByteArray)(w:World)(hs:s.size≤140737488355328)(henv:Env w) :
  Calls Tryz.prog 113 #[.string s] w fun e w'=>(∃(t n:Int) (x:ByteArray) (k:Int),e=.returned (.tuple #[.agg #[.int .i64 t,.int .i64 n,.string x],errV k])∧Hid ((readV s).2.2.2=k))∧Below w.heap.size w w' :=
 (zey s w hs henv).mono fun e w' hh=>⟨⟨_,_,⟨(readV s).2.2.1.toArray⟩,_,hh.1,rfl⟩,hh.2⟩
set_option maxRecDepth 20000 in
theorem zeD(s:ByteArray)(r:List UInt8)(w:World)(henv:Env w)(hs:s.size≤140737488355328)(hr:s.data.toList=39::r) :
  Calls Tryz.prog 80 #[.string s] w fun e w'=>(∃(n:Nat) (k:Int),e=.returned (.tuple #[.int .i64 n,.int .i64 k])∧Hid (zbT r=(n,k)))∧Below w.heap.size w w':=by
 have hsz:s.size=r.length+1:=by rw[Lib.size_eq,hr,List.length_cons]
 have hN:togN false s.data.toList=togN true r+1:=by rw[hr,togN,if_pos rfl];rfl
 have hle:=zkY r true
 obtain⟨X,hX,hX1,hX2⟩:=zkQ s (togN true r+1) (by omega)
 have HX:Hid ((readV X).2.2.2=qE (r.take (togN true r))):=zrN (by rw[hX1,hr,List.take_succ_cons])
 have HQ:Hid (zbT r=if qE (r.take (togN true r))=0 then (togN true r+1,0) else (0,qE (r.take (togN true r)))):=zrJ r
 have HC:Hid (qE (r.take (togN true r))=0∨qE (r.take (togN true r))=2∨qE (r.take (togN true r))=4):=zpk _
 have cG:=zgw s w.heap.size (w.alloc (.cells #[.bool false] 4)) (by unfold maxLen;omega) (by simp) (by simp)
 rw[hN] at cG
 obtain⟨N,hNN⟩:∃N,togN true r+1=N:=⟨_,rfl⟩
 rw[hNN] at cG hX HQ
 clear hN hX1
 go_enter Tryz.func80,Tryz.ntmps80
 go_wp2_with fail
 refine cG.mono ?_
 rintro e w1 ⟨rfl,b1⟩
 have B1:Below w.heap.size w w1:=((Below.refl _ _).alloc (Nat.le_refl _) _).trans b1
 clear b1
 go_wp2_with fail
 refine (zmn X _ (by omega) (henv.on B1)).mono ?_
 rintro e w2 ⟨⟨t,n,x,k,rfl,HK⟩,b2⟩
 have B2:=B1.trans (b2.mono B1.size)
 have hk:qE (r.take (togN true r))=k:=by rw[←HX.out];exact HK.out
 rw[hk] at HQ HC
 have hc:=HC.out
 clear hk HK HX HC b2 B1
 rcases hc with rfl|rfl|rfl
 ·have HQ2:Hid (zbT r=(N,0)):=by have:=HQ.out;rwa [if_pos rfl] at this
  rw[show errV 0=.nilIface from rfl]
  clear HQ
  go_wp2
  go_ret2
  exact⟨⟨N,0,rfl,HQ2⟩,by repeat (first|exact B2|(refine Below.alloc ?_ (by have:=B2.size;simp;omega) _))⟩
 ·have HQ2:Hid (zbT r=(0,2)):=by have:=HQ.out;rwa [if_neg (by decide)] at this
  rw[show errV 2=.iface 35 (.int .i64 2) from rfl]
  have cI:=fun W=>zbx 2 4 W
  rw[show ((2:Int) == 4)=false from rfl] at cI
  clear HQ
  go_wp2_with (go_at_call 12;refine (cI _).mono ?_;rintro e W' ⟨rfl,rfl⟩)
  go_ret2
  exact⟨⟨0,2,rfl,HQ2⟩,by repeat (first|exact B2|(refine Below.alloc ?_ (by have:=B2.size;simp;omega) _))⟩
 ·have HQ2:Hid (zbT r=(0,4)):=by have:=HQ.out;rwa [if_neg (by decide)] at this
  rw[show errV 4=.iface 35 (.int .i64 4) from rfl]
  have cI:=fun W=>zbx 4 4 W
  rw[show ((4:Int) == 4)=true from rfl] at cI
  clear HQ
  go_wp2_with (go_at_call 12;refine (cI _).mono ?_;rintro e W' ⟨rfl,rfl⟩)
  go_ret2
  exact⟨⟨0,4,rfl,HQ2⟩,by repeat (first|exact B2|(refine Below.alloc ?_ (by have:=B2.size;simp;omega) _))⟩
set_option maxRecDepth 20000 in
theorem zeO(s:ByteArray)(w:World)(henv:Env w)(hw:SG w)(hs:s.size≤140737488355328)(hp:0<s.size) :
  Calls Tryz.prog 43 #[.string s] w fun e w'=>(∃(k:Int) (n:Nat) (h:Int),e=.returned (.tuple #[.int .i64 k,.int .i64 n,.int .i64 h])∧Hid (tokAt s.data.toList=(k,n,h)))∧Below w.heap.size w w':=by
 have hcons:s.data.toList=s[0]::s.data.toList.drop 1:=by have:=zaC s 0 hp;simpa using this
 have HT:Hid (tokAt s.data.toList=if letB s[0]=true then (1,goN ldB s.data.toList,0) else if digB s[0]=true then (2,zaU s.data.toList) else if s[0]=39 then (3,zbT (s.data.toList.drop 1)) else (4,sgN zaF s.data.toList,if sgN zaF s.data.toList=0 then 2 else 0)):=by
  show _=_
  rw[hcons,tokAt,←hcons]
 have cL:=zas s[0]
 have cD:=zcm s[0]
 cases hl:letB s[0]
 ·rw[hl] at cL HT
  cases hd:digB s[0]
  ·rw[hd] at cD HT
   by_cases hq:s[0]=39
   ·have hqz:((s[0].toNat:Int) == 39)=true:=by rw[hq];rfl
    have cQ:=zeD s (s.data.toList.drop 1) w henv hs (by rw[←hq];exact hcons)
    have HT2:Hid (tokAt s.data.toList=(3,zbT (s.data.toList.drop 1))):=by have:=HT.out;rwa [if_neg (by decide),if_neg (by decide),if_pos hq] at this
    clear hl hd hq HT hcons
    go_enter Tryz.func43,Tryz.ntmps43
    go_wp2_with (first|(go_at_call 76;refine (cL _).mono ?_;rintro e w' ⟨rfl,hq1⟩;obtain rfl:w=w':=hq1.symm)|(go_at_call 78;refine (cD _).mono ?_;rintro e w' ⟨rfl,hq2⟩;obtain rfl:w=w':=hq2.symm))
    refine cQ.mono ?_
    rintro e w1 ⟨⟨n,k,rfl,HQ⟩,b1⟩
    go_wp2
    refine bodyPost_ret (v:=.tuple #[.int .i64 3,.int .i64 n,.int .i64 k]) (by simp[results,Tryz.results43,go_sem]) rfl ⟨⟨3,n,k,rfl,?_⟩,b1⟩
    show _=_
    rw[HT2.out,HQ.out]
   ·have hqz:((s[0].toNat:Int) == 39)=false:=by rw[beq_eq_false_iff_ne];exact zsu hq
    have cQ:=zfL s w hw
    obtain⟨n,hn⟩:∃n,sgN zaF s.data.toList=n:=⟨_,rfl⟩
    obtain⟨k,hk⟩:∃k:Int,(if n=0 then 2 else 0)=k:=⟨_,rfl⟩
    rw[hn,hk] at cQ
    have HT2:Hid (tokAt s.data.toList=(4,n,k)):=by have:=HT.out;rwa [if_neg (by decide),if_neg (by decide),if_neg hq,hn,hk] at this
    clear hl hd hq HT hcons hn hk
    go_enter Tryz.func43,Tryz.ntmps43
    go_wp2_with (first|(go_at_call 76;refine (cL _).mono ?_;rintro e w' ⟨rfl,hq1⟩;obtain rfl:w=w':=hq1.symm)|(go_at_call 78;refine (cD _).mono ?_;rintro e w' ⟨rfl,hq2⟩;obtain rfl:w=w':=hq2.symm))
    refine cQ.mono ?_
    rintro e w1 ⟨rfl,hq3⟩
    obtain rfl:w=w1:=hq3.symm
    go_wp2
    exact bodyPost_ret (v:=.tuple #[.int .i64 4,.int .i64 n,.int .i64 k]) (by simp[results,Tryz.results43,go_sem]) rfl ⟨⟨4,n,k,rfl,HT2⟩,Below.refl _ _⟩
  ·rw[hd] at cD HT
   have cQ:=zdu s w henv hs hp hd
   obtain⟨n,k,hn⟩:∃n k,zaU s.data.toList=(n,k):=⟨_,_,rfl⟩
   rw[hn] at cQ
   have HT2:Hid (tokAt s.data.toList=(2,n,k)):=by have:=HT.out;rwa [if_neg (by decide),if_pos rfl,hn] at this
   clear hl hd HT hcons hn
   go_enter Tryz.func43,Tryz.ntmps43
   go_wp2_with (first|(go_at_call 76;refine (cL _).mono ?_;rintro e w' ⟨rfl,hq1⟩;obtain rfl:w=w':=hq1.symm)|(go_at_call 78;refine (cD _).mono ?_;rintro e w' ⟨rfl,hq2⟩;obtain rfl:w=w':=hq2.symm))
   refine cQ.mono ?_
   rintro e w1 ⟨rfl,b1⟩
   go_wp2
   exact bodyPost_ret (v:=.tuple #[.int .i64 2,.int .i64 n,.int .i64 k]) (by simp[results,Tryz.results43,go_sem]) rfl ⟨⟨2,n,k,rfl,HT2⟩,b1⟩
 ·rw[hl] at cL HT
  have cG:=zjM s w (by unfold maxLen;omega)
  obtain⟨n,hn⟩:∃n,goN ldB s.data.toList=n:=⟨_,rfl⟩
  rw[hn] at cG
  have HT2:Hid (tokAt s.data.toList=(1,n,0)):=by have:=HT.out;rwa [if_pos rfl,hn] at this
  clear hl HT hcons hn
  go_enter Tryz.func43,Tryz.ntmps43
  go_wp2_with (first|(go_at_call 76;refine (cL _).mono ?_;rintro e w' ⟨rfl,hq1⟩;obtain rfl:w=w':=hq1.symm))
  refine cG.mono ?_
  rintro e w1 ⟨rfl,hq3⟩
  obtain rfl:w=w1:=hq3.symm
  go_wp2
  exact bodyPost_ret (v:=.tuple #[.int .i64 1,.int .i64 n,.int .i64 0]) (by simp[results,Tryz.results43,go_sem]) rfl ⟨⟨1,n,0,rfl,HT2⟩,Below.refl _ _⟩
end Go.Proofs.YtbdnccnfidjiaaaGreatDoor
