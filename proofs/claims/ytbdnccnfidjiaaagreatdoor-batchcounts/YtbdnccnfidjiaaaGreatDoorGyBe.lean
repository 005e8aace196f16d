/-
  RowChk, EvEv, BtP, BtA, BtB, BtC, GoS, WmO, NtW.
-/
import Derived.Test.YtbdnccnfidjiaaaGreatDoorGyAi
import Derived.Test.YtbdnccnfidjiaaaGreatDoorYEvAp
import Derived.Test.YtbdnccnfidjiaaaGreatDoorGyAm
import Derived.Deep.QuietTactic
import Derived.BigQuiet
import Derived.Deep.RegionWith
import Derived.Test.YtbdnccnfidjiaaaGreatDoorGyAp
import Derived.Test.YtbdnccnfidjiaaaGreatDoorGyAu
import Derived.Laws.EntriesVeiled
import Derived.Laws.AppendOwnNone
import Derived.Test.YtbdnccnfidjiaaaGreatDoorGyBb
import Derived.Test.YtbdnccnfidjiaaaGreatDoorGyBc
import Derived.Test.YtbdnccnfidjiaaaGreatDoorGyBd
namespace Go.Proofs.YtbdnccnfidjiaaaGreatDoor
open Go.RowKit
set_option linter.unusedVariables false
set_option linter.unusedSimpArgs false
set_option maxHeartbeats 8000000
section
open Go.BigFrame
def rcGo:List (ByteArray×Int)→List V3→Int
 | z::zs,r::rs=>if chk r.1 r.2.1 r.2.2.data.toList≠0 then chk r.1 r.2.1 r.2.2.data.toList else if r.1≠z.2 then 8 else rcGo zs rs
 | _,_=>0
def zgM(zs:List (ByteArray×Int))(rs:List V3):Int:=if schE zs≠0 then schE zs else if rs.length≠zs.length then 3 else rcGo zs rs
theorem zrL{zs:List (ByteArray×Int)}{rs:List V3}{k:Nat}(hz:k<zs.length)(hr:k<rs.length) :
  rcGo (zs.drop k) (rs.drop k)=if chk rs[k].1 rs[k].2.1 rs[k].2.2.data.toList≠0 then chk rs[k].1 rs[k].2.1 rs[k].2.2.data.toList else if rs[k].1≠zs[k].2 then 8 else rcGo (zs.drop (k+1)) (rs.drop (k+1)):=by
 rw[List.drop_eq_getElem_cons hz,List.drop_eq_getElem_cons hr,rcGo]
theorem zkF(lv rv:Value)(zs:List (ByteArray×Int))(rs:List V3)(w:World)(hw:TW w)(hl:ColsV w lv zs)(hr:ValsV w rv rs)(hsz:zbt rs) :
  Calls Tryz.prog 39 #[lv,rv] w fun e w'=>e=.returned (errV (zgM zs rs))∧Below w.heap.size w w':=by
 have cS:=zkH lv zs w hw hl
 obtain⟨K,hK⟩:∃K,zgM zs rs=K:=⟨_,rfl⟩
 rw[hK]
 rw[zgM] at hK
 by_cases h0:schE zs=0
 ·rw[if_neg (by simpa using h0)] at hK
  rw[h0,show errV 0=.nilIface from rfl] at cS
  have hz0:=(zeF h0).1
  have hzm:=(zeF h0).2.1
  obtain⟨zp,zc,rfl,hzz⟩:=hl
  obtain⟨rp,rc,rfl,hrm,hrr⟩:=hr
  clear h0
  by_cases hle:rs.length=zs.length
  ·rw[if_neg (by simpa using hle)] at hK
   rcases hzz with h|⟨zb,zo,rfl,_,_,hzi⟩
   ·exact absurd h hz0
   ·rcases hrr with h|⟨rb,ro,rfl,hrl,hri⟩
    ·exact absurd (hle.symm.trans h) hz0
    ·have hlez:(rs.length:Int)=(zs.length:Int):=by omega
     have hqz:((rs.length:Int) != (zs.length:Int))=false:=by rw[hlez];simp
     have HK:Hid (rcGo zs rs=K):=hK
     unfold maxLen at hrm
     clear hK
     go_enter Tryz.func39,Tryz.ntmps39
     go_wp2_with fail
     refine cS.mono ?_
     rintro e w0 ⟨rfl,b0⟩
     go_wp2
     go_loopg [6,7,8,22] rs.length (fun gg _ _ _ s22 wr=>∃kk:Nat,kk≤rs.length∧rs.length-kk≤gg∧s22=.int .i64 kk∧Aside (Below w.heap.size w wr)∧Hid (K=rcGo (zs.drop kk) (rs.drop kk)))
     case atStart=>exact⟨0,Nat.zero_le _,by omega,rfl,b0,(show Hid _ by simp[Hid,HK.out])⟩
     case round =>
      obtain⟨kk,hkk,hg,rfl,BW,HS⟩:=hrel
      by_cases hlt:kk<rs.length
      ·have hltz:(kk:Int)<(rs.length:Int):=by omega
       have hltz2:(kk:Int)<(zs.length:Int):=by omega
       have k0:(0:Int)≤(kk:Int):=by omega
       obtain⟨c0,c1,c2⟩:=hri kk hlt
       have kR:∀o,wr.cell? ⟨rb,o,none⟩=w.cell? ⟨rb,o,none⟩:=fun o=>BW.out.cell (p:=⟨rb,o,none⟩) hrl
       rw[←kR] at c0 c1 c2
       have hrlr:rb<wr.heap.size:=by have:=BW.out.size;omega
       clear kR
       have hltn:kk<zs.length:=by omega
       have HS2:Hid (K=_):=HS.out.trans (zrL hltn hlt)
       obtain⟨hs1,hn1⟩:=hsz _ (List.getElem_mem hlt)
       have hzi2:=(hzi.on BW.out)
       obtain⟨d0,d1⟩:=hzi2.2 kk hltn
       have hzl:=hzi2.1
       generalize hy:rs[kk]=y at c0 c1 c2 HS2 hs1 hn1
       generalize hyz:zs[kk]=z at d0 d1 HS2
       obtain⟨yt,yn,ys⟩:=y
       obtain⟨zn,zt⟩:=z
       simp only at c0 c1 c2 d0 d1 HS2 hs1 hn1
       have B1:=BW.out.alloc BW.out.size (.cells #[.int .i64 yt,.int .i64 yn,.string ys] 28)
       have cC:=zbH yt yn ys (wr.alloc (.cells #[.int .i64 yt,.int .i64 yn,.string ys] 28)) hs1
       obtain⟨ce,hce⟩:∃ce,chk yt yn ys.data.toList=ce:=⟨_,rfl⟩
       rw[hce] at cC
       have HS3:Hid (K=if ce≠0 then ce else if yt≠zt then 8 else rcGo (zs.drop (kk+1)) (rs.drop (kk+1))):=by
        rw[←hce];exact HS2
       have e1:=zjy ce
       have e2:=zhl ce
       clear HS HS2 hy hyz hce hsz
       go_wp2_with fail
       refine cC.mono ?_
       rintro e w1 ⟨rfl,b1⟩
       obtain⟨hc1,hf1⟩:=bcell b1
       have l1:wr.heap.size<w1.heap.size:=by have:=b1.size;simp at this;omega
       have q0:w1.cell? ⟨wr.heap.size,0,none⟩=some (.int .i64 yt):=by
        rw[hc1 _ _ (by simp),World.cell?_alloc_at _ _ _ _ rfl];rfl
       have g1:w1.cell? ⟨zb,zo+kk*2+1,none⟩=some (.int .i64 zt):=by
        rw[hc1 _ _ (by simp;omega),World.cell?_alloc_lt _ _ _ hzl];exact d1
       have B2:=B1.trans (b1.mono B1.size)
       clear hc1 hf1 b1 cC c0 c1 c2 d0 d1 B1 hzi2
       by_cases hz:ce=0
       ·have hb:(ce != 0)=false:=by simpa using hz
        rw[hb] at e1
        by_cases htt:yt=zt
        ·have hq:(yt != zt)=false:=by simpa using htt
         have HS4:Hid (K=rcGo (zs.drop (kk+1)) (rs.drop (kk+1))):=by
          have:=HS3.out
          rwa [if_neg (by simpa using hz),if_neg (by simpa using htt)] at this
         clear HS3 hz hb htt
         go_wp2
         go_quiet (fail)
         go_wp2
         go_roundg (rs.length-(kk+1))
         case measure=>omega
         case rel=>exact⟨kk+1,by omega,by omega,by go_num,by repeat (first|exact B2|apply below_drewN|refine Below.drew ?_),HS4⟩
        ·have hq:(yt != zt)=true:=by simpa using htt
         have HS4:K=8:=by
          have:=HS3.out
          rwa [if_neg (by simpa using hz),if_pos htt] at this
         subst HS4
         clear HS3 hz hb htt
         go_wp2
         go_quiet (fail)
         go_wp2
         go_ret
         exact⟨rfl,by repeat (first|exact B2|apply below_drewN|refine Below.drew ?_)⟩
       ·have hb:(ce != 0)=true:=by simpa using hz
        rw[hb] at e1
        have HS4:K=ce:=by
         have:=HS3.out
         rwa [if_pos hz] at this
        subst HS4
        clear HS3 hz hb
        go_wp2
        go_ret
        exact⟨rfl,B2⟩
      ·have hltz:¬(kk:Int)<(rs.length:Int):=by omega
       have hkz:K=0:=by
        rw[HS.out,List.drop_eq_nil_of_le (show zs.length≤kk by omega)];rfl
       subst hkz
       clear HS HK
       go_wp2
       go_ret
       exact⟨rfl,BW.out⟩
  ·rw[if_pos hle] at hK
   subst hK
   have hqz:((rs.length:Int) != (zs.length:Int))=true:=by simp;omega
   clear hle hzz hrr
   go_enter Tryz.func39,Tryz.ntmps39
   go_wp2_with fail
   refine cS.mono ?_
   rintro e w0 ⟨rfl,b0⟩
   go_wp2
   go_ret
   exact⟨rfl,b0⟩
 ·rw[if_pos h0] at hK
  rw[hK] at cS h0
  have HE:Hid (errV K=.iface 35 (.int .i64 K)):=by show errV K=_;rw[errV,if_neg h0]
  clear hK h0 hl hr
  go_enter Tryz.func39,Tryz.ntmps39
  go_wp2_with fail
  refine cS.mono ?_
  rintro e w0 ⟨rfl,b0⟩
  rw[HE.out]
  go_wp2
  go_ret
  exact⟨by rw[HE.out];rfl,b0⟩
def evP(zs:List (ByteArray×Int))(rs:List V3)(x:Ex):V3×Int:=if (ofP zs x).2.1≠0 then (noV,(ofP zs x).2.1) else if zgM zs rs≠0 then (noV,zgM zs rs) else cmP zs rs x
end
def comP(zs:List Cl)(rs:List V3)(x:Ex):V3×Int:=if noOp x=true then (noV,0) else evP zs rs x
def pasP(zs:List Cl)(rs:List V3)(x:Ex):Bool×Int:=if noOp x=true then (true,0) else ((evP zs rs x).1.2.1 == 1,(evP zs rs x).2)
def gatP(zs:List Cl)(rs:List V3):List V3→List Ex→List V3×Int
 | acc,[]=>(acc,0)
 | acc,x::xs=>if (comP zs rs x).2≠0 then ([],(comP zs rs x).2) else gatP zs rs (acc++[(comP zs rs x).1]) xs
def takP(zs:List Cl)(wh:Ex)(es:List Ex)(rs:List V3):List V3×Bool×Int :=
 if (pasP zs rs wh).2≠0 then ([],false,(pasP zs rs wh).2)
 else if (pasP zs rs wh).1=false then ([],false,0)
 else if (gatP zs rs [] es).2≠0 then ([],false,(gatP zs rs [] es).2)
 else ((gatP zs rs [] es).1,true,0)
theorem znf{zs:List Cl}{rs:List V3}:∀(es:List Ex) (acc:List V3),(gatP zs rs acc es).2=0→(gatP zs rs acc es).1.length=acc.length+es.length
 | [],acc,_=>by simp[gatP]
 | x::xs,acc,h=>by
  rw[gatP] at h ⊢
  split at h
  ·rename_i h1;exact absurd h h1
  ·rename_i h1
   rw[if_neg h1,znf xs _ h]
   simp;omega
section
open Go.BigFrame
theorem zkP:(Tryz.prog.info? 92).map (·.size)=some 9:=by kernel_rfl
theorem zfx{W:World}{b:Nat}{cs:Array Value}{t:TypeId}{d:TypeDesc}(hb:Blk W b cs t)(hu:Tryz.prog.underlying t=some d)(hd:d.isRow=true)(hs:(Tryz.prog.info? t).map (·.size)=some cs.size) :
  ∀{ops:Array Oper} {rest:List Oper} {op:Oper} {a:Act} {Q:Exit→Act→World→Prop} (hgd:op.guard=none) (x:Operand) (ho:op.op=.load t x) (hx:a.eval x=.pointer (some ⟨b,0,none⟩)),wpList Tryz.prog ops Q rest (a.put op.dst (.agg cs)) W→wpList Tryz.prog ops Q (op::rest) a W :=
 fun hgd x ho hx h=>zaj hgd t x ho b 0 hx cs t hb cs.toList (fun j v hv=>by rw[Nat.zero_add];simpa using hv) d hu hd (by rw[hs,Array.length_toList]) h
theorem zee{w:World}{lo:Nat→Prop}{XC:Array Value}{x:Ex}(h:ExIn w lo (.agg XC) x):XC.size=7:=by
 obtain⟨o1,n1,t1,k1,s1,p1,m1,c1,a1,e⟩:=h.agg
 injection e with e
 rw[e]
 rfl
theorem come3(w:World)(SC XC:Array Value):Below w.heap.size w (((w.alloc (.cells SC 92)).alloc (.cells XC 31)).alloc (.cells #[.int .i64 0,.int .i64 0,.string ⟨#[]⟩] 28))∧∀W,Below (w.heap.size+3) (((w.alloc (.cells SC 92)).alloc (.cells XC 31)).alloc (.cells #[.int .i64 0,.int .i64 0,.string ⟨#[]⟩] 28)) W→Blk W w.heap.size SC 92∧Blk W (w.heap.size+1) XC 31∧Blk W (w.heap.size+2) #[.int .i64 0,.int .i64 0,.string ⟨#[]⟩] 28∧w.heap.size+3≤W.heap.size∧Below w.heap.size w W:=by
 have b0:=(Below.refl w.heap.size w).alloc (Nat.le_refl _) (.cells SC 92)
 have b1:=b0.alloc (by simp) (.cells XC 31)
 have b2:=b1.alloc (by simp;omega) (.cells #[.int .i64 0,.int .i64 0,.string ⟨#[]⟩] 28)
 refine⟨b2,fun W hb=>?_⟩
 have hz:=hb.size
 simp at hz
 have k0:=zab w SC 92
 have k1:=zab (w.alloc (.cells SC 92)) XC 31
 have k2:=zab ((w.alloc (.cells SC 92)).alloc (.cells XC 31)) #[.int .i64 0,.int .i64 0,.string ⟨#[]⟩] 28
 rw[show (w.alloc (.cells SC 92)).heap.size=w.heap.size+1 by simp] at k1
 rw[show ((w.alloc (.cells SC 92)).alloc (.cells XC 31)).heap.size=w.heap.size+2 by simp] at k2
 have a1:∀(X:World) o,Below X.heap.size X (X.alloc o):=fun X o=>(Below.refl _ _).alloc (Nat.le_refl _) o
 refine⟨(((k0.on (a1 _ _)).on (a1 _ _))).keep (hb.block _ (by omega)),(k1.on (a1 _ _)).keep (hb.block _ (by omega)),k2.keep (hb.block _ (by omega)),hz,b2.trans (hb.mono (by omega))⟩
set_option maxRecDepth 20000 in
theorem zqp(x:Ex)(lo:Nat→Prop)(XC SC:Array Value)(vl vr:Value)(zs:List Cl)(rs:List V3)(w:World)(hx:ExIn w lo (.agg XC) x)(hS0:SC[0]?=some vl)(hcv:ColsV w vl zs)(t k:Int)(s:ByteArray)(E:Int)(hR:comP zs rs x=((t,k,s),E))(hEv:noOp x=false→evP zs rs x=((t,k,s),E)→∀W,Below w.heap.size w W→Calls Tryz.prog 128 #[.agg XC,vl,vr] W fun e w'=>e=.returned (.tuple #[.agg #[.int .i64 t,.int .i64 k,.string s],errV E])∧Below W.heap.size W w') :
  Calls Tryz.prog 101 #[.agg SC,.agg XC,vr] w fun e w'=>e=.returned (.tuple #[.agg #[.int .i64 t,.int .i64 k,.string s],errV E])∧Below w.heap.size w w':=by
 have hX7:=zee hx
 obtain⟨b1,box⟩:=come3 w SC XC
 have cN:=fun W (hb:Below w.heap.size w W)=>zaG x lo (.agg XC) W (hx.on hb)
 have hs7:(Tryz.prog.info? 31).map (·.size)=some XC.size:=by rw[hX7];kernel_rfl
 have hld:=fun W (hb:Blk W (w.heap.size+1) XC 31)=>@zfx W _ _ _ _ hb Tryz.underlying31 rfl hs7
 obtain⟨z1,z2,rfl⟩:=zaO hcv
 rw[comP] at hR
 by_cases hn:noOp x=true
 ·rw[if_pos hn] at hR
  simp only[noV,Prod.mk.injEq] at hR
  obtain⟨⟨rfl,rfl,rfl⟩,rfl⟩:=hR
  rw[errV,if_pos rfl]
  rw[hn] at cN
  clear hx hcv hS0 hs7 hEv
  go_enter Tryz.func101,Tryz.ntmps101
  go_wp2_with (refine hld _ (box _ (Below.refl _ _)).2.1 rfl _ rfl rfl ?_)
  go_wp2_with fail
  refine (cN _ b1).mono ?_
  rintro e w1 ⟨rfl,b2⟩
  obtain⟨k0,k1,k2,hl,B⟩:=box w1 (b2.mono (by simp))
  have f0:=k2.cell 0
  have f1:=k2.cell 1
  have f2:=k2.cell 2
  have ff:=fun o=>k2.frozen o
  have hl2:w.heap.size+2<w1.heap.size:=by omega
  simp at f0 f1 f2
  clear cN hld box k0 k1 k2 b2
  go_wp2
  refine bodyPost_ret (v:=.tuple #[.agg #[.int .i64 0,.int .i64 0,.string ⟨#[]⟩],.nilIface]) (by simp[results,Tryz.results101,go_sem,World.cell?_setCell_other,World.cell?_setCell_same,f0,f1,f2]) rfl ⟨rfl,?_⟩
  exact zqd B (by omega) _ _ _
 ·have hnb:noOp x=false:=by simpa using hn
  rw[if_neg hn] at hR
  rw[hnb] at cN
  have cE:=hEv hnb hR
  clear hx hcv hs7 hR hn hnb hEv
  generalize errV E=RV at *
  go_enter Tryz.func101,Tryz.ntmps101
  go_wp2_with (refine hld _ (box _ (Below.refl _ _)).2.1 rfl _ rfl rfl ?_)
  go_wp2_with fail
  refine (cN _ b1).mono ?_
  rintro e w1 ⟨rfl,b2⟩
  have B3:=b2.mono (show w.heap.size+3≤_ by simp)
  obtain⟨k0,k1,k2,hl,B⟩:=box w1 B3
  have hs0:=k0.cell 0
  rw[hS0] at hs0
  have hl0:w.heap.size<w1.heap.size:=by omega
  clear cN
  go_wp2_with (refine hld _ k1 rfl _ rfl rfl ?_)
  go_wp2_with fail
  refine (cE _ B).mono ?_
  rintro e w2 ⟨rfl,b4⟩
  obtain⟨k0',k1',k2',hl',B'⟩:=box w2 (B3.trans (b4.mono hl))
  have f0:=k2'.cell 0
  have f1:=k2'.cell 1
  have f2:=k2'.cell 2
  have ff:=fun o=>k2'.frozen o
  have hl2:w.heap.size+2<w2.heap.size:=by omega
  simp at f0 f1 f2
  clear cE hld box k0 k1 k2 k0' k1' k2' b2 b4 B3 hs0 hS0
  go_wp2
  refine bodyPost_ret (v:=.tuple #[.agg #[.int .i64 t,.int .i64 k,.string s],RV]) (by simp[results,Tryz.results101,go_sem,World.cell?_setCell_other,World.cell?_setCell_same,f0,f1,f2]) rfl ⟨rfl,?_⟩
  exact zqd B' (by omega) _ _ _
theorem ld_ex{W:World}{b o:Nat}{cs XC:Array Value}{T:TypeId}(hb:Blk W b cs T)(hr:∀j v,XC[j]?=some v→cs[o+j]?=some v)(h7:XC.size=7) :
  ∀{ops:Array Oper} {rest:List Oper} {op:Oper} {a:Act} {Q:Exit→Act→World→Prop} (hgd:op.guard=none) (x:Operand) (ho:op.op=.load 31 x) (hx:a.eval x=.pointer (some ⟨b,o,none⟩)),wpList Tryz.prog ops Q rest (a.put op.dst (.agg XC)) W→wpList Tryz.prog ops Q (op::rest) a W :=
 fun hgd x ho hx h=>zaj hgd 31 x ho b o hx cs T hb XC.toList (by simpa using hr) _ Tryz.underlying31 rfl (by rw[Array.length_toList,h7];kernel_rfl) h
structure SvIs(SC:Array Value)(vl:Value)(XC:Array Value)(cv:Value):Prop where
 size:SC.size=9
 s0:SC[0]?=some vl
 ex:∀j v,XC[j]?=some v→SC[1+j]?=some v
 s8:SC[8]?=some cv
set_option maxRecDepth 20000 in
theorem zph(x:Ex)(lo:Nat→Prop)(XC SC:Array Value)(vl vr cv:Value)(zs:List Cl)(rs:List V3)(w:World)(hx:ExIn w lo (.agg XC) x)(hS:SvIs SC vl XC cv)(hcv:ColsV w vl zs)(P:Bool)(E:Int)(hR:pasP zs rs x=(P,E))(hEv:noOp x=false→∀t k s E',evP zs rs x=((t,k,s),E')→∀W,Below w.heap.size w W→Calls Tryz.prog 128 #[.agg XC,vl,vr] W fun e w'=>e=.returned (.tuple #[.agg #[.int .i64 t,.int .i64 k,.string s],errV E'])∧Below W.heap.size W w') :
  Calls Tryz.prog 100 #[.agg SC,vr] w fun e w'=>e=.returned (.tuple #[.bool P,errV E])∧Below w.heap.size w w':=by
 have hX7:=zee hx
 have b1:=(Below.refl w.heap.size w).alloc (Nat.le_refl _) (.cells SC 92)
 have hbk:∀W,Below (w.heap.size+1) (w.alloc (.cells SC 92)) W→Blk W w.heap.size SC 92:=fun W hb=>(zab w SC _).keep (hb.block _ (by omega))
 have cN:=fun W (hb:Below w.heap.size w W)=>zaG x lo (.agg XC) W (hx.on hb)
 have hldx:=fun W (hb:Below (w.heap.size+1) (w.alloc (.cells SC 92)) W)=>@ld_ex W _ 1 _ _ _ (hbk W hb) hS.ex hX7
 have hlds:=fun W (hb:Below (w.heap.size+1) (w.alloc (.cells SC 92)) W)=>@zfx W _ _ _ _ (hbk W hb) Tryz.underlying92 rfl (by rw[hS.size];exact zkP)
 rw[pasP] at hR
 by_cases hn:noOp x=true
 ·rw[if_pos hn] at hR
  obtain⟨rfl,rfl⟩:=Prod.mk.inj hR
  rw[errV,if_pos rfl]
  rw[hn] at cN
  clear hx hcv hS hbk hEv
  go_enter Tryz.func100,Tryz.ntmps100
  go_wp2_with (refine hldx _ (Below.refl _ _) rfl _ rfl rfl ?_)
  go_wp2_with fail
  refine (cN _ b1).mono ?_
  rintro e w1 ⟨rfl,b2⟩
  have B:=b1.trans (b2.mono (by simp))
  clear cN hldx hlds b2
  go_wp2
  go_ret2
  exact⟨rfl,B⟩
 ·have hnb:noOp x=false:=by simpa using hn
  rw[if_neg hn] at hR
  rw[hnb] at cN
  obtain⟨t,k,s,E',hev⟩:∃t k s E',evP zs rs x=((t,k,s),E'):=⟨_,_,_,_,rfl⟩
  rw[hev] at hR
  obtain⟨rfl,rfl⟩:=Prod.mk.inj hR
  have cE:=fun W (hb:Below w.heap.size w W)=>zqp x lo XC SC vl vr zs rs W (hx.on hb) hS.s0 (hcv.on hb) t k s E' (by rw[comP,if_neg hn,hev]) (fun h1 h2 V hV=>hEv h1 t k s E' h2 V (hb.trans (hV.mono hb.size)))
  clear hx hcv hR hn hnb hS hbk hev hEv
  generalize errV E'=RV at *
  go_enter Tryz.func100,Tryz.ntmps100
  go_wp2_with (refine hldx _ (Below.refl _ _) rfl _ rfl rfl ?_)
  go_wp2_with fail
  refine (cN _ b1).mono ?_
  rintro e w1 ⟨rfl,b2⟩
  have B3:=b2.mono (show w.heap.size+1≤_ by simp)
  have B:=b1.trans (b2.mono (by simp))
  have hl:w.heap.size+1≤w1.heap.size:=by have:=B3.size;simpa using this
  clear cN
  go_wp2_with (first|(refine hlds _ B3 rfl _ rfl rfl ?_)|(refine hldx _ B3 rfl _ rfl rfl ?_))
  go_wp2_with fail
  refine (cE _ B).mono ?_
  rintro e w2 ⟨rfl,b4⟩
  have B':=B.trans (b4.mono (by omega))
  have hl2:w.heap.size≤w2.heap.size:=B'.size
  clear cE hldx hlds b2 b4 B3
  go_wp2
  go_ret2
  exact⟨rfl,B'.alloc hl2 _⟩
def FrV(B:Nat)(W:World)(u:Value)(T:List V3):Prop:=∃q c,u=.slice q T.length c∧zaf W q T∧(T.length=0∨∃b off,q=some ⟨b,off,none⟩∧B≤b)
theorem FrV.own{B n:Nat}{W:World}{u:Value}{T:List V3}(hn:T.length=n)(h:W.ownsRow B 28 3 u n (zao T)):FrV B W u T:=by
 subst hn
 obtain⟨q,c,rfl⟩:=zaa h
 refine⟨q,c,rfl,zdL rfl h,?_⟩
 rcases h.2 with ⟨e1,h0⟩|⟨g,cap,cur,e1,hb,_⟩
 ·exact .inl h0
 ·injection e1 with e1
  subst e1
  exact .inr ⟨g,0,rfl,hb⟩
theorem FrV.nil(B:Nat)(W:World):FrV B W (.slice none 0 0) []:=⟨none,0,rfl,.inl rfl,.inl rfl⟩
theorem zoz{zs:List Cl}{rs acc:List V3}{es:List Ex}{k:Nat}(h:k<es.length):gatP zs rs acc (es.drop k)=if (comP zs rs es[k]).2≠0 then ([],(comP zs rs es[k]).2) else gatP zs rs (acc++[(comP zs rs es[k]).1]) (es.drop (k+1)):=by
 rw[List.drop_eq_getElem_cons h,gatP]
set_option maxRecDepth 20000 in
theorem ztB(x:Ex)(es:List Ex)(lo:Nat→Prop)(XC SC:Array Value)(vl vr:Value)(cp:Option Addr)(cc:Nat)(zs:List Cl)(rs:List V3)(w:World)(hx:ExIn w lo (.agg XC) x)(hes:zaq w lo (.slice cp es.length cc) es)(hel:es.length≤1048576)(hS:SvIs SC vl XC (.slice cp es.length cc))(hcv:ColsV w vl zs)(T:List V3)(P:Bool)(E:Int)(hR:takP zs x es rs=(T,P,E))(hEvx:noOp x=false→∀t k s E',evP zs rs x=((t,k,s),E')→∀W,Below w.heap.size w W→Calls Tryz.prog 128 #[.agg XC,vl,vr] W fun e w'=>e=.returned (.tuple #[.agg #[.int .i64 t,.int .i64 k,.string s],errV E'])∧Below W.heap.size W w')(hEvs:∀y∈es,noOp y=false→∀YC t k s E',evP zs rs y=((t,k,s),E')→∀W,Below w.heap.size w W→ExIn W lo (.agg YC) y→Calls Tryz.prog 128 #[.agg YC,vl,vr] W fun e w'=>e=.returned (.tuple #[.agg #[.int .i64 t,.int .i64 k,.string s],errV E'])∧Below W.heap.size W w') :
  Calls Tryz.prog 66 #[.agg SC,vr] w fun e w'=>(∃u,e=.returned (.tuple #[u,.bool P,errV E])∧Aside (FrV w.heap.size w' u T))∧Below w.heap.size w w':=by
 have b1:=(Below.refl w.heap.size w).alloc (Nat.le_refl _) (.cells SC 92)
 have hbk:∀W,Below (w.heap.size+1) (w.alloc (.cells SC 92)) W→Blk W w.heap.size SC 92:=fun W hb=>(zab w SC _).keep (hb.block _ (by omega))
 have hlds:=fun W (hb:Below (w.heap.size+1) (w.alloc (.cells SC 92)) W)=>@zfx W _ _ _ _ (hbk W hb) Tryz.underlying92 rfl (by rw[hS.size];exact zkP)
 have hc8:∀W,Below (w.heap.size+1) (w.alloc (.cells SC 92)) W→W.cell? ⟨w.heap.size,8,none⟩=some (.slice cp es.length cc):=fun W hb=>by rw[(hbk W hb).cell];exact hS.s8
 obtain⟨PP,PE,hpa⟩:∃PP PE,pasP zs rs x=(PP,PE):=⟨_,_,rfl⟩
 have cP:=zph x lo XC SC vl vr _ zs rs _ (hx.on b1) hS (hcv.on b1) PP PE hpa (fun h1 t k s E' h2 V hV=>hEvx h1 t k s E' h2 V (b1.trans (hV.mono b1.size)))
 rw[takP,hpa] at hR
 have hs0:=hS.s0
 clear hpa hx hbk hS hEvx
 by_cases hE:PE=0
 ·subst hE
  rw[errV,if_pos rfl] at cP
  rw[if_neg (by simp)] at hR
  cases PP
  ·rw[if_pos rfl] at hR
   simp only[Prod.mk.injEq] at hR
   obtain⟨rfl,rfl,rfl⟩:=hR
   rw[errV,if_pos rfl]
   clear hc8 hes hel hcv hEvs
   go_enter Tryz.func66,Tryz.ntmps66
   go_wp2_with (refine hlds _ (Below.refl _ _) rfl _ rfl rfl ?_)
   go_wp2_with fail
   refine cP.mono ?_
   rintro e w1 ⟨rfl,b2⟩
   have B:=b1.trans (b2.mono (by simp))
   clear cP hlds b2
   go_wp2
   exact bodyPost_ret (v:=.tuple #[.slice none 0 0,.bool false,.nilIface]) (by simp[results,Tryz.results66,go_sem]) rfl ⟨⟨_,rfl,(show Aside _ from FrV.nil _ _)⟩,B⟩
  ·rw[if_neg (by simp)] at hR
   obtain⟨G,GE,hg⟩:∃G GE,gatP zs rs [] es=(G,GE):=⟨_,_,rfl⟩
   have hGl:=znf (zs:=zs) (rs:=rs) es []
   rw[hg] at hR hGl
   have HG:Hid (gatP zs rs [] es=(G,GE)):=hg
   have HGL:Hid (GE=0→G.length=es.length):=by simpa [Hid] using hGl
   have HR:Hid ((if GE≠0 then ([],false,GE) else (G,true,0))=(T,P,E)):=hR
   have cE:=fun W (hb:Below w.heap.size w W) y (hm:y∈es) YC hy t k s E' hc=>zqp y lo YC SC vl vr zs rs W hy hs0 (hcv.on hb) t k s E' hc (fun h1 h2 V hV=>hEvs y hm h1 YC t k s E' h2 V (hb.trans (hV.mono hb.size)) (hy.on hV))
   have HES:Aside (zaq w lo (.slice cp es.length cc) es):=hes
   have HCE:=(show Aside _ from cE)
   obtain⟨N,hN⟩:∃N,es.length=N:=⟨_,rfl⟩
   have HN:Hid (es.length=N):=hN
   rw[hN] at hc8 HES hel HGL
   clear hg hGl hR hes hcv cE hN hEvs
   go_enter Tryz.func66,Tryz.ntmps66
   go_wp2_with (refine hlds _ (Below.refl _ _) rfl _ rfl rfl ?_)
   go_wp2_with fail
   refine cP.mono ?_
   rintro e w1 ⟨rfl,b2⟩
   have BQ1:Below (w.heap.size+1) (w.alloc (.cells SC 92)) w1:=b2.mono (by simp)
   have hs1:w.heap.size+1≤w1.heap.size:=by have:=BQ1.size;simpa using this
   have hcell:=hc8 _ BQ1
   clear cP b2 hc8
   have hnz:(N:Int)≤1048576:=by omega
   go_wp2
   go_loopg [9,11,12,13,30] N (fun gg s9 _ _ _ s30 wr=>∃(kk:Nat) (acc:List V3) (u:Value),kk≤N∧N-kk≤gg∧s30=.int .i64 (kk:Int)∧s9=u∧Aside (wr.ownsRow w1.heap.size 28 3 u kk (zao acc))∧Aside (Below w1.heap.size w1 wr)∧Hid (acc.length=kk)∧Hid (gatP zs rs acc (es.drop kk)=(G,GE)))
   case atStart=>exact⟨0,[],.slice none 0 0,Nat.zero_le _,by omega,rfl,rfl,(show Aside _ from World.ownsRow_nil _ _ _ _),(show Aside _ from Below.refl _ _),(show Hid _ from rfl),HG⟩
   case round =>
    obtain⟨kk,acc,u,hkk,hgk,rfl,hu,OJ,BJ,HOL,HC⟩:=hrel
    obtain rfl:u=_:=hu.symm
    clear HG
    have hbs:=BJ.out.size
    have BQ:Below (w.heap.size+1) (w.alloc (.cells SC 92)) wr:=BQ1.trans (BJ.out.mono hs1)
    have Bw:Below w.heap.size w wr:=b1.trans (BQ.mono (by omega))
    by_cases hlt:kk<N
    ·have hltz:(kk:Int)<(N:Int):=by omega
     have h0z:(0:Int)≤(kk:Int):=by omega
     have hk2:kk<es.length:=by rw[HN.out];exact hlt
     have hAr:=HES.out.onB Bw
     obtain⟨ba,oa,yp,yc,rfl,hbl,hlo,hrg,hEx⟩:=zez hAr hk2
     have hym:=List.getElem_mem hk2
     have HC2:=HC.out
     rw[zoz hk2] at HC2
     have HC3:Hid _:=HC2
     clear HC HC2 hAr HES hcell
     generalize es[kk]=y at hrg hEx hym HC3
     obtain⟨t,k,s,E',hcm⟩:∃t k s E',comP zs rs y=((t,k,s),E'):=⟨_,_,_,_,rfl⟩
     have HC4:=HC3.out
     rw[hcm] at HC4
     have HC5:Hid _:=HC4
     clear HC3 HC4
     have BX:=Bw.alloc Bw.size (.cells #[.string y.op,.string y.nm,.int .i64 y.vt,.int .i64 y.vn,.string y.vs,.slice yp y.args.length yc,.int .i64 y.pos] 31)
     have BQX:=BQ.alloc (by omega) (.cells #[.string y.op,.string y.nm,.int .i64 y.vt,.int .i64 y.vn,.string y.vs,.slice yp y.args.length yc,.int .i64 y.pos] 31)
     have BJX:=BJ.out.alloc hbs (.cells #[.string y.op,.string y.nm,.int .i64 y.vt,.int .i64 y.vn,.string y.vs,.slice yp y.args.length yc,.int .i64 y.pos] 31)
     have cE:=HCE.out _ BX y hym _ (hEx.on ((Below.refl _ _).alloc (Nat.le_refl _) _)) t k s E' hcm
     have hldy:=@zfx (wr.alloc (.cells #[.string y.op,.string y.nm,.int .i64 y.vt,.int .i64 y.vn,.string y.vs,.slice yp y.args.length yc,.int .i64 y.pos] 31)) wr.heap.size _ 31 _ (zbb wr _ _) Tryz.underlying31 rfl (by kernel_rfl)
     clear hEx hym hcm hlo
     by_cases hE:E'=0
     ·subst hE
      rw[errV,if_pos rfl] at cE
      have HC6:Hid (gatP zs rs (acc++[(t,k,s)]) (es.drop (kk+1))=(G,GE)):=by
       have:=HC5.out
       rwa [if_neg (by simp)] at this
      clear HC5
      obtain⟨uq,uc,rfl⟩:=zaa OJ.out
      go_wp2_with (first|(refine wpList_load_mid rfl 31 _ rfl ba (oa+kk*7) rfl _ _ hrg Tryz.underlying31 rfl zbf ?_)|(refine hlds _ BQX rfl _ rfl rfl ?_)|(refine hldy rfl _ rfl rfl ?_))
      go_wp2_with fail
      refine cE.mono ?_
      rintro e w2 ⟨rfl,b3⟩
      have hs2:=b3.size
      simp at hs2
      clear cE hldy hlds hrg
      have O2:=((zac (zac OJ.out ((Below.refl _ _).alloc (Nat.le_refl _) _)) b3))
      have BJ2:=BJX.trans (b3.mono (by simp;omega))
      have a1:∀(X:World) o,Below X.heap.size X (X.alloc o):=fun X o=>(Below.refl _ _).alloc (Nat.le_refl _) o
      have O3:=zac O2 (a1 w2 (.cells #[.int .i64 t,.int .i64 k,.string s] 28))
      have BJ3:=BJ2.alloc (by omega) (.cells #[.int .i64 t,.int .i64 k,.string s] 28)
      have O4:=zac O3 (a1 _ (.cells #[.int .i64 t,.int .i64 k,.string s] 28))
      have BJ4:=BJ3.alloc (by simp;omega) (.cells #[.int .i64 t,.int .i64 k,.string s] 28)
      have HO4:=(show Aside _ from O4)
      have HJ4:=(show Aside _ from BJ4)
      clear O2 O3 O4 BJ2 BJ3 BJ4 OJ BJ BJX BQX BX b3
      go_wp2_with (at_builtin;refine zaz rfl _ _ rfl w1.heap.size _ kk acc rfl HO4.out (w2.heap.size+1) 1 t k s rfl (news1 (by simp) _) (by omega) (by simp;omega) ?_)
      intro q' c' w4 ho hg
      have hown4:∀m,(Value.slice uq kk uc).ownBlock=some m→w1.heap.size≤m:=fun m hm=>(World.ownsRow.lt HO4.out m hm).1
      have B6:Aside (Below w1.heap.size w1 w4):=HJ4.out.grown hg (by simp;omega) hown4
      have O6:Aside (w4.ownsRow w1.heap.size 28 3 (.slice q' (kk+1) c') (kk+1) (zao (acc++[(t,k,s)]))):=ho
      have HL6:Hid ((acc++[(t,k,s)]).length=kk+1):=by show _=_;rw[List.length_append,HOL.out];rfl
      clear ho hg HO4 HJ4 hown4 HOL
      go_wp2
      go_roundg (N-(kk+1))
      case measure=>omega
      case rel=>exact⟨kk+1,acc++[(t,k,s)],_,by omega,by omega,by go_num,rfl,O6,B6,HL6,HC6⟩
     ·rw[errV,if_neg hE] at cE
      have he:=HC5.out
      rw[if_pos hE] at he
      obtain⟨rfl,rfl⟩:=Prod.mk.inj he
      have he2:=HR.out
      rw[if_pos hE] at he2
      simp only[Prod.mk.injEq] at he2
      obtain⟨rfl,rfl,rfl⟩:=he2
      clear HC5 he HR
      go_wp2_with (first|(refine wpList_load_mid rfl 31 _ rfl ba (oa+kk*7) rfl _ _ hrg Tryz.underlying31 rfl zbf ?_)|(refine hlds _ BQX rfl _ rfl rfl ?_)|(refine hldy rfl _ rfl rfl ?_))
      go_wp2_with fail
      refine cE.mono ?_
      rintro e w2 ⟨rfl,b3⟩
      have hs2:=b3.size
      simp at hs2
      have BX2:=(BX.trans (b3.mono (by simp;omega))).alloc (by omega) (.cells #[.int .i64 t,.int .i64 k,.string s] 28)
      clear cE hldy hlds hrg HCE BQX BJX BX b3
      go_wp2
      refine bodyPost_ret (v:=.tuple #[.slice none 0 0,.bool false,.iface 35 (.int .i64 E')]) (by simp[results,Tryz.results66,go_sem]) rfl ⟨⟨_,?_,(show Aside _ from FrV.nil _ _)⟩,BX2⟩
      rw[errV,if_neg hE]
    ·have hltz:¬(kk:Int)<(N:Int):=by omega
     obtain rfl:kk=N:=by omega
     have he:=HC.out
     rw[List.drop_eq_nil_of_le (by rw[HN.out];exact Nat.le_refl _),gatP] at he
     obtain⟨rfl,rfl⟩:=Prod.mk.inj he
     have he2:=HR.out
     rw[if_neg (by simp)] at he2
     simp only[Prod.mk.injEq] at he2
     obtain⟨rfl,rfl,rfl⟩:=he2
     have F:=FrV.own HOL.out OJ.out
     have F2:Aside (FrV w.heap.size wr u acc):=by
      obtain⟨q,c,e1,e2,e3⟩:=F
      refine⟨q,c,e1,e2,?_⟩
      rcases e3 with e3|⟨b,off,e3,e4⟩
      ·exact .inl e3
      ·exact .inr ⟨b,off,e3,by omega⟩
     clear OJ BJ HCE hlds HC he F
     go_wp2
     refine bodyPost_ret (v:=.tuple #[u,.bool true,.nilIface]) (by simp[results,Tryz.results66,go_sem]) rfl ⟨⟨u,?_,F2⟩,Bw⟩
     rw[errV,if_pos rfl]
 ·rw[errV,if_neg hE] at cP
  rw[if_pos hE] at hR
  simp only[Prod.mk.injEq] at hR
  obtain⟨rfl,rfl,rfl⟩:=hR
  rw[errV,if_neg hE]
  clear hc8 hes hel hcv hEvs
  go_enter Tryz.func66,Tryz.ntmps66
  go_wp2_with (refine hlds _ (Below.refl _ _) rfl _ rfl rfl ?_)
  go_wp2_with fail
  refine cP.mono ?_
  rintro e w1 ⟨rfl,b2⟩
  have B:=b1.trans (b2.mono (by simp))
  clear cP hlds b2
  go_wp2
  exact bodyPost_ret (v:=.tuple #[.slice none 0 0,.bool false,.iface 35 (.int .i64 PE)]) (by simp[results,Tryz.results66,go_sem]) rfl ⟨⟨_,rfl,(show Aside _ from FrV.nil _ _)⟩,B⟩
set_option maxRecDepth 20000 in
theorem zhp(E:Int)(w:World)(hg:EtAt w) :
  Calls Tryz.prog 67 #[.iface 35 (.int .i64 E)] w fun e w'=>e=.returned (.agg #[.slice none 0 0,.int .i64 E,.int .i64 0])∧Below w.heap.size w w':=by
 have b2:=((Below.refl w.heap.size w).alloc (Nat.le_refl _) (.cells #[.slice none 0 0,.int .i64 0,.int .i64 0] 49)).alloc (by simp) (.cells #[.int .i64 0] 35)
 have hgA:=hg.on b2
 unfold EtAt at hgA
 have htA:((w.alloc (.cells #[.slice none 0 0,.int .i64 0,.int .i64 0] 49)).alloc (.cells #[.int .i64 0] 35)).cell? ⟨w.heap.size+1,0,none⟩=some (.int .i64 0):=by simp
 have hfA:((w.alloc (.cells #[.slice none 0 0,.int .i64 0,.int .i64 0] 49)).alloc (.cells #[.int .i64 0] 35)).frozen? ⟨w.heap.size+1,0,none⟩=false:=by simp
 have cA:=zsM E ⟨w.heap.size+1,0,none⟩ (.int .i64 0) _ hgA htA hfA
 clear hgA htA hfA hg b2
 go_enter Tryz.func67,Tryz.ntmps67
 go_wp2_with (first|(go_at_call 102;refine cA.mono ?_;rintro e w' ⟨rfl,rfl⟩))
 refine bodyPost_ret (v:=.agg #[.slice none 0 0,.int .i64 E,.int .i64 0]) (by simp[results,Tryz.results67,go_sem]) rfl ⟨rfl,?_⟩
 repeat (first|exact Below.refl _ _|(refine Below.setCell ?_ (by simp) _)|(refine Below.alloc ?_ (by simp;omega) _)|(refine Below.alloc ?_ (by simp) _))
theorem zfT:∀{vs:List V3},∀u∈zao vs,u.oneCell'=true
 | [],u,h=>by simp[zao] at h
 | v::vs,u,h=>by
  simp only[zao,List.mem_cons] at h
  rcases h with rfl|rfl|rfl|h
  ·rfl
  ·rfl
  ·rfl
  ·exact zfT u h
theorem ziH{w:World}{b off:Nat}{vs:List V3}(h:∀j (h:j<vs.length),w.cell? ⟨b,off+j*3,none⟩=some (.int .i64 vs[j].1)∧w.cell? ⟨b,off+j*3+1,none⟩=some (.int .i64 vs[j].2.1)∧w.cell? ⟨b,off+j*3+2,none⟩=some (.string vs[j].2.2)) :
  ∀j u,(zao vs)[j]?=some u→w.cell? ((⟨b,off,none⟩:Addr).add j)=some u:=fun j u hu=>by
 rw[Go.WideShapes.add_plain]
 have hj:j<vs.length*3:=by rw[←zdq];exact (List.getElem?_eq_some_iff.1 hu).1
 have hk:j / 3<vs.length:=by omega
 obtain⟨c0,c1,c2⟩:=zeR hk
 obtain⟨d0,d1,d2⟩:=h _ hk
 rcases (show j % 3=0∨j % 3=1∨j % 3=2 by omega) with m|m|m
 ·have e:j=j / 3*3:=by omega
  rw[e] at hu
  rw[c0] at hu
  rw[show off+j=off+j / 3*3 by omega,d0,←hu]
 ·have e:j=j / 3*3+1:=by omega
  rw[e] at hu
  rw[c1] at hu
  rw[show off+j=off+j / 3*3+1 by omega,d1,←hu]
 ·have e:j=j / 3*3+2:=by omega
  rw[e] at hu
  rw[c2] at hu
  rw[show off+j=off+j / 3*3+2 by omega,d2,←hu]

theorem zrs{B B' n size:Nat}{w:World}{e:TypeId}{v:Value}{xs:List Value}(h:w.ownsRow B e size v n xs)(hb:B'≤B):w.ownsRow B' e size v n xs :=
 ⟨h.1,h.2.imp id (fun ⟨g,cap,cur,e,hbg,r⟩=>⟨g,cap,cur,e,Nat.le_trans hb hbg,r⟩)⟩
set_option maxRecDepth 20000 in
theorem zrq(gz a:Nat)(E:Int)(kv:Value)(w:World)(henv:EtAt w)(h0:w.cell? ⟨gz,0,none⟩=some kv)(h1:w.cell? ⟨gz,1,none⟩=some (.pointer (some ⟨a,0,none⟩)))
  (hR:∀W,Below w.heap.size w W→Calls Tryz.prog 204 #[.pointer (some ⟨a,0,none⟩)] W fun e w'=>e=.returned (.tuple #[.slice none 0 0,.iface 35 (.int .i64 E)])∧Below W.heap.size W w') :
  Calls Tryz.prog 175 #[.pointer (some ⟨gz,0,none⟩)] w fun e w'=>e=.returned (.agg #[.slice none 0 0,.int .i64 E,.int .i64 0])∧Below w.heap.size w w':=by
 have hF:=fun W (hb:Below w.heap.size w W)=>zhp E W (henv.on hb)
 have b0:Below w.heap.size w (w.alloc (.cells #[.slice none 0 0,.int .i64 0,.int .i64 0] 49)):=alB w _
 have hgl:gz<w.heap.size:=by
  rcases Nat.lt_or_ge gz w.heap.size with h|h
  ·exact h
  ·simp[World.cell?,Array.getElem?_eq_none h] at h1
 have h1':(w.alloc (.cells #[.slice none 0 0,.int .i64 0,.int .i64 0] 49)).cell? ⟨gz,1,none⟩=some (.pointer (some ⟨a,0,none⟩)):=by rw[b0.cell (p:=⟨gz,1,none⟩) hgl];exact h1
 have hR0:=hR _ b0
 clear henv hR h1 h0
 go_enter Tryz.func175,Tryz.ntmps175
 go_wp2_with fail
 refine hR0.mono ?_
 rintro e w1 ⟨rfl,b1⟩
 have B1:Below w.heap.size w w1:=b0.trans (b1.mono b0.size)
 have hF1:=hF _ B1
 clear hR0 hF h1'
 go_wp2_with fail
 refine hF1.mono ?_
 rintro e w2 ⟨rfl,b2⟩
 have B2:Below w.heap.size w w2:=B1.trans (b2.mono B1.size)
 obtain⟨k1,k2,hl⟩:=zgc w _ _ (b1.trans (b2.mono b1.size)) (by simp)
 have f0:w2.cell? ⟨w.heap.size,0,none⟩=some (.slice none 0 0):=k1 0
 have f1:w2.cell? ⟨w.heap.size,1,none⟩=some (.int .i64 0):=k1 1
 have f2:w2.cell? ⟨w.heap.size,2,none⟩=some (.int .i64 0):=k1 2
 clear hF1 B1 b1 b2 b0 k1
 go_wp2
 refine bodyPost_ret (v:=.agg #[.slice none 0 0,.int .i64 E,.int .i64 0]) (by simp[results,Tryz.results175,go_sem,World.cell?_setCell_other,World.cell?_setCell_same,f0,f1,f2]) rfl ⟨rfl,?_⟩
 exact ((B2.setCell (p:=⟨w.heap.size,0,none⟩) (Nat.le_refl _) _).setCell (p:=⟨w.heap.size,1,none⟩) (by simp) _).setCell (p:=⟨w.heap.size,2,none⟩) (by simp) _

set_option maxRecDepth 20000 in
theorem ztr(gz a:Nat)(kq:Option Addr)(kc:Nat)(ks rv:List V3)(w:World)(h0:w.cell? ⟨gz,0,none⟩=some (.slice kq ks.length kc))(h1:w.cell? ⟨gz,1,none⟩=some (.pointer (some ⟨a,0,none⟩)))
  (hk:zaf w kq ks)(hkn:ks.length≤1000000)(hks:∀v∈ks,v.2.2.size≤281474976710656)(hrn:rv.length≤1000000)
  (hR:∀W,Below w.heap.size w W→Calls Tryz.prog 204 #[.pointer (some ⟨a,0,none⟩)] W fun e w'=>(∃q c,e=.returned (.tuple #[.slice q rv.length c,.nilIface])∧(q=none→c=0)∧zaf w' q rv)∧Below W.heap.size W w') :
  Calls Tryz.prog 175 #[.pointer (some ⟨gz,0,none⟩)] w fun e w'=>(∃u,e=.returned (.agg #[u,.int .i64 0,.int .i64 0])∧Aside (w'.ownsRow w.heap.size 28 3 u (ks++rv).length (zao (ks++rv))))∧Below w.heap.size w w':=by
 have hgl:gz<w.heap.size:=by
  rcases Nat.lt_or_ge gz w.heap.size with h|h
  ·exact h
  ·simp[World.cell?,Array.getElem?_eq_none h] at h0
 have HK:Aside (zaf w kq ks):=hk
 have HS:Aside _:=hks
 have H0:Aside _:=h0
 obtain⟨N,hN⟩:∃N,ks.length=N:=⟨_,rfl⟩
 obtain⟨M,hM⟩:∃M,rv.length=M:=⟨_,rfl⟩
 rw[show (ks++rv).length=N+M by rw[List.length_append,hN,hM]]
 have HN:Hid (ks.length=N):=hN
 have HM:Hid (rv.length=M):=hM
 rw[hN] at h0 hkn
 rw[hM] at hR hrn
 clear hk hks hN hM H0
 have b0:Below w.heap.size w (w.alloc (.cells #[.slice none 0 0,.int .i64 0,.int .i64 0] 49)):=alB w _
 have h1':(w.alloc (.cells #[.slice none 0 0,.int .i64 0,.int .i64 0] 49)).cell? ⟨gz,1,none⟩=some (.pointer (some ⟨a,0,none⟩)):=by rw[b0.cell (p:=⟨gz,1,none⟩) hgl];exact h1
 have hR0:=hR _ b0
 clear hR h1
 go_enter Tryz.func175,Tryz.ntmps175
 go_wp2_with fail
 refine hR0.mono ?_
 rintro e w1 ⟨⟨q,c,rfl,hqc,hv⟩,b1⟩
 have B1:Below w.heap.size w w1:=b0.trans (b1.mono b0.size)
 have hs1:=b1.size
 simp at hs1
 have hf:=zfo kq kc ks w1 (by rw[HN.out];exact hkn) (HK.out.on B1) HS.out
 rw[HN.out] at hf
 have hc0:w1.cell? ⟨gz,0,none⟩=some (.slice kq N kc):=by rw[B1.cell (p:=⟨gz,0,none⟩) hgl];exact h0
 have HV:Aside (zaf w1 q rv):=hv
 have HQ:Aside (q=none→c=0):=hqc
 have HB1:Aside _:=B1
 have Hb1:Aside _:=b1
 clear hR0 B1 b1 h0 h1' hv hqc
 go_wp2_with fail
 refine hf.mono ?_
 rintro e w2 ⟨⟨u,rfl,OW⟩,b2⟩
 have hs2:=b2.size
 have hown:∀m,u.ownBlock=some m→w1.heap.size≤m:=fun m hm=>(World.ownsRow.lt OW.out m hm).1
 have HO:Aside _:=OW.out
 have B2:Below w.heap.size w w2:=HB1.out.trans (b2.mono HB1.out.size)
 have bb2:=Hb1.out.trans (b2.mono Hb1.out.size)
 have HV2:Aside (zaf w2 q rv):=HV.out.on b2
 clear hf b2 OW HV
 obtain⟨k1,k2,hl⟩:=zgc w _ _ bb2 (by simp)
 have f0:w2.cell? ⟨w.heap.size,0,none⟩=some (.slice none 0 0):=k1 0
 have f1:w2.cell? ⟨w.heap.size,1,none⟩=some (.int .i64 0):=k1 1
 have f2:w2.cell? ⟨w.heap.size,2,none⟩=some (.int .i64 0):=k1 2
 obtain⟨i0,hinf,hz0,hzs,hzb⟩:=info_parts zjU
 have hB2:Aside (Below w.heap.size w w2):=B2
 have HS2:Hid (w1.heap.size≤w2.heap.size):=hs2
 have HS1:Hid (w.heap.size+1≤w1.heap.size):=hs1
 have HZ:Aside ((Value.agg #[.int .i64 0,.int .i64 0,.string ⟨#[]⟩]).cells.size=3):=by rfl
 obtain⟨uq,uc,rfl⟩:=zaa HO.out
 clear k1 B2 bb2 hs2 hs1
 cases q with
 | none =>
  obtain rfl:=HQ.out rfl
  have hM0:M=0:=by
   rcases HV2.out with h|⟨b,off,h,_⟩
   ·rw[←HM.out];exact h
   ·cases h
  subst hM0
  have hrv:rv=[]:=List.length_eq_zero_iff.1 HM.out
  subst hrv
  go_wp2_with (at_builtin;refine wpList_append_own_none rfl _ _ 42 rfl w1.heap.size 28 i0 3 Tryz.underlying42 hinf (.slice uq N uc) N _ rfl HO.out rfl ?_)
  refine bodyPost_ret (v:=.agg #[.slice uq N uc,.int .i64 0,.int .i64 0]) (by simp[results,Tryz.results175,go_sem,World.cell?_setCell_other,World.cell?_setCell_same,f0,f1,f2]) rfl ⟨⟨_,rfl,?_⟩,?_⟩
  ·have h:=ownsRow_setCell_below (ownsRow_setCell_below (ownsRow_setCell_below HO.out (a:=⟨w.heap.size,0,none⟩) (by have:=HS1.out;show _<_;simp;omega) (.slice uq N uc)) (a:=⟨w.heap.size,1,none⟩) (by have:=HS1.out;show _<_;simp;omega) (.int .i64 0)) (a:=⟨w.heap.size,2,none⟩) (by have:=HS1.out;show _<_;simp;omega) (.int .i64 0)
   rw[show zao (ks++[])=zao ks by rw[List.append_nil]]
   exact zrs h (by have:=HS1.out;omega)
  ·exact ((hB2.out.setCell (p:=⟨w.heap.size,0,none⟩) (Nat.le_refl _) _).setCell (p:=⟨w.heap.size,1,none⟩) (by simp) _).setCell (p:=⟨w.heap.size,2,none⟩) (by simp) _
 | some ad =>
  have hnews:Aside (∀j u,(zao rv)[j]?=some u→w2.cell? (ad.add j)=some u):=by
   rcases HV2.out with h|⟨b,off,h,_,hr⟩
   ·intro j u hu
    rw[List.length_eq_zero_iff.1 h] at hu
    simp[zao] at hu
   ·injection h with h
    subst h
    exact ziH hr
  have L:=fun (ops:Array Oper) (rest:List Oper) (o:Oper) (ac:Act) (Q:Exit→Act→World→Prop) hgd s x ho hs hx h=>wpList_append_own (P:=Tryz.prog) (w:=w2) (ops:=ops) (rest:=rest) (o:=o) (a:=ac) (Q:=Q) hgd s x 42 ho w1.heap.size 28 i0 (.agg #[.int .i64 0,.int .i64 0,.string ⟨#[]⟩]) 3 32 Tryz.underlying42 hinf hz0 hzs hzb rfl (by decide) (.slice uq N uc) N _ hs HO.out ad M c (zao rv) hx (by rw[zdq,HM.out]) hnews.out zfT (by unfold maxLen;omega) (by omega) HS2.out h
  have HL:=(show Aside _ from L)
  clear L hnews
  go_wp2_with (at_builtin;refine HL.out _ _ _ _ _ rfl _ _ rfl rfl rfl ?_)
  intro v' w3 o1 g1 _
  have hsz3:=g1.size
  have B3:Below w.heap.size w w3:=hB2.out.grown g1 (by have:=HS1.out;have:=HS2.out;omega) (fun m hm=>by have:=hown m hm;have:=HS1.out;omega)
  have F:∀i,w3.cell? ⟨w.heap.size,i,none⟩=w2.cell? ⟨w.heap.size,i,none⟩:=fun i=>by
   have hb:w3.heap[w.heap.size]?=w2.heap[w.heap.size]?:=g1.block _ hl (fun h=>by have:=hown _ h.symm;have:=HS1.out;omega)
   simp only[World.cell?,hb]
  have G:∀i,w3.frozen? ⟨w.heap.size,i,none⟩=w2.frozen? ⟨w.heap.size,i,none⟩:=fun i=>by
   have hb:w3.heap[w.heap.size]?=w2.heap[w.heap.size]?:=g1.block _ hl (fun h=>by have:=hown _ h.symm;have:=HS1.out;omega)
   simp only[World.frozen?,hb]
  have f0':=(F 0).trans f0
  have f1':=(F 1).trans f1
  have f2':=(F 2).trans f2
  have k2':∀o,w3.frozen? ⟨w.heap.size,o,none⟩=false:=fun o=>(G o).trans (k2 o)
  have O6:Aside (w3.ownsRow w1.heap.size 28 3 v' (N+M) (zao (ks++rv))):=by rw[zbh];exact o1
  have HB3:Aside _:=B3
  have hl3:w.heap.size<w3.heap.size:=Nat.lt_of_lt_of_le hl hsz3
  obtain⟨vq,vc,rfl⟩:=zaa O6.out
  clear f0 f1 f2 k2 F G o1 g1 HL B3
  go_wp2
  refine bodyPost_ret (v:=.agg #[.slice vq (N+M) vc,.int .i64 0,.int .i64 0]) (by simp[results,Tryz.results175,go_sem,World.cell?_setCell_other,World.cell?_setCell_same,f0',f1',f2']) rfl ⟨⟨_,rfl,?_⟩,?_⟩
  ·have h:=ownsRow_setCell_below (ownsRow_setCell_below (ownsRow_setCell_below O6.out (a:=⟨w.heap.size,0,none⟩) (by have:=HS1.out;show _<_;simp;omega) (.slice vq (N+M) vc)) (a:=⟨w.heap.size,1,none⟩) (by have:=HS1.out;show _<_;simp;omega) (.int .i64 0)) (a:=⟨w.heap.size,2,none⟩) (by have:=HS1.out;show _<_;simp;omega) (.int .i64 0)
   exact zrs h (by have:=HS1.out;omega)
  ·exact ((HB3.out.setCell (p:=⟨w.heap.size,0,none⟩) (Nat.le_refl _) _).setCell (p:=⟨w.heap.size,1,none⟩) (by simp) _).setCell (p:=⟨w.heap.size,2,none⟩) (by simp) _
theorem zrr(sb:Nat)(a:Option Addr)(c:Nat)(w:World)(hs:w.cell? ⟨sb,1,none⟩=some (.slice a 0 c)) :
  Calls Tryz.prog 145 #[.pointer (some ⟨sb,0,none⟩)] w fun e w'=>e=.returned (.slice none 0 0)∧Below w.heap.size w w':=by
 go_enter Tryz.func145,Tryz.ntmps145
 go_wp2
 go_loopg [3,5,6,12] 0 (fun gg s3 _ _ s12 wr=>s12=.int .i64 0∧s3=.slice none 0 0∧Aside (Below w.heap.size w wr))
 case atStart=>exact⟨rfl,rfl,(show Aside _ from Below.refl _ _)⟩
 case round =>
  obtain⟨rfl,rfl,BJ⟩:=hrel
  go_wp2
  go_ret
  exact⟨rfl,BJ.out⟩
theorem zru{W:World}{B:Nat}{q:Option Addr}{n c:Nat}{vs:List V3}(h:W.ownsRow B 28 3 (.slice q n c) n (zao vs)):n=0∨∃b off,q=some ⟨b,off,none⟩∧B≤b:=by
 rcases h.2 with ⟨_,h0⟩|⟨g,cap,cur,e,hb,_⟩
 ·exact .inl h0
 ·injection e with e _ _
  exact .inr ⟨g,0,e,hb⟩
theorem zte{w:World}{base:Nat}{ps0:List Pt}{g:Gm}(h:GmAt w base ps0 g)(het:EtAt w)(hp:ps0.length≤1000)(hk:g.key.length≤1000)(hks:∀v∈g.key,v.2.2.size≤40)(fr:Int) :
  Calls Tryz.prog 175 #[.pointer (some ⟨g.z,0,none⟩)] w fun e w'=>(∃rq rc,e=.returned (.agg #[.slice rq (gOt ps0 fr g.pl).1.length rc,.int .i64 (gOt ps0 fr g.pl).2.1,.int .i64 0])∧Aside (zaf w' rq (gOt ps0 fr g.pl).1∧((gOt ps0 fr g.pl).1.length=0∨∃b off,rq=some ⟨b,off,none⟩∧w.heap.size≤b)))∧Below w.heap.size w w':=by
 obtain⟨⟨kv,h1,h2⟩,⟨ps,a1,a2⟩,-⟩:=h
 have c0:w.cell? ⟨g.z,0,none⟩=some kv:=by rw[h1.cell];rfl
 have c1:w.cell? ⟨g.z,1,none⟩=some (.pointer (some ⟨g.a,0,none⟩)):=by rw[h1.cell];rfl
 obtain⟨t1,t2⟩:=tl_of a2
 have hlen:(reV ps (g.rs.length:Int)).length≤1000000:=by
  have:=a2.al.1
  rw[reV,List.length_map];omega
 by_cases hE:tlE ps0 g.rs=0
 ·have hgo:gOt ps0 fr g.pl=(g.key++tlR ps0 g.rs,0,fr):=by rw[gOt];exact if_pos hE
  rw[hgo]
  obtain⟨kq,kc,rfl⟩:=zaa h2
  have hR:=fun W (hb:Below w.heap.size w W)=>(zmu g.a g.v _ ps W (a1.on hb) a2.ok (by rw[t1];exact hE)).mono (R':=fun e w'=>(∃q c,e=.returned (.tuple #[.slice q (tlR ps0 g.rs).length c,.nilIface])∧(q=none→c=0)∧zaf w' q (tlR ps0 g.rs))∧Below W.heap.size W w') fun e w' hh=>by
   obtain⟨⟨q,c,e1,e2,e3⟩,e4⟩:=hh
   rw[t2] at e1 e2
   exact⟨⟨q,c,e1,e3.out,e2.out⟩,e4.out⟩
  refine (ztr g.z g.a kq kc g.key (tlR ps0 g.rs) w c0 c1 (zdL rfl h2) (by omega) (fun v hv=>by have:=hks v hv;omega) (by rw[←t2];exact hlen) hR).mono ?_
  rintro e w' ⟨⟨u,rfl,HU⟩,hB⟩
  obtain⟨rq,rc,rfl⟩:=zaa HU.out
  refine⟨⟨rq,rc,rfl,(show Aside _ from ⟨zdL rfl HU.out,?_⟩)⟩,hB⟩
  exact zru HU.out
 ·have hgo:gOt ps0 fr g.pl=([],tlE ps0 g.rs,fr):=by rw[gOt];exact if_neg hE
  rw[hgo]
  have hR:=fun W (hb:Below w.heap.size w W)=>(zkE g.a g.v _ ps W (a1.on hb) a2.ok (tlE ps0 g.rs) t1 hE).mono (R':=fun e w'=>e=.returned (.tuple #[.slice none 0 0,.iface 35 (.int .i64 (tlE ps0 g.rs))])∧Below W.heap.size W w') fun e w' hh=>⟨hh.1,hh.2.out⟩
  refine (zrq g.z g.a (tlE ps0 g.rs) kv w het c0 c1 hR).mono ?_
  rintro e w' ⟨rfl,hB⟩
  exact⟨⟨none,0,rfl,(show Aside _ from ⟨.inl rfl,.inl rfl⟩)⟩,hB⟩
theorem zsE{w:World}{base:Nat}{ps0:List Pt}{x:Wm}(h:WmAt w base ps0 x)(het:EtAt w)(hp:ps0.length≤1000)(hn:x.gs.length≤1000)(hk:∀g∈x.gs,g.key.length≤1000∧∀v∈g.key,v.2.2.size≤40) :
  Calls Tryz.prog 145 #[.pointer (some ⟨x.z,0,none⟩)] w fun e w'=>(∃u,e=.returned u∧Aside (OutsF w.heap.size w' u (wOt ps0 x.pl)))∧Below w.heap.size w w':=by
 have hc0:w.cell? ⟨x.z,0,none⟩=some (.int .i64 x.fr):=by rw[h.blk.cell];rfl
 have hc1:w.cell? ⟨x.z,1,none⟩=some x.gv:=by rw[h.blk.cell];rfl
 by_cases h0:x.gs.length=0
 ·obtain⟨q,c,hq⟩:=zaa h.row
  rw[hq,h0] at hc1
  have e0:x.gs=[]:=List.length_eq_zero_iff.1 h0
  refine (zrr x.z q c w hc1).mono ?_
  rintro e w' ⟨rfl,hB⟩
  exact⟨⟨_,rfl,(show Aside _ from by rw[wOt,Wm.pl,e0];exact OutsF.nil _ _)⟩,hB⟩
 ·obtain⟨n,hn'⟩:∃n,x.gs.length=n+1:=⟨x.gs.length-1,by omega⟩
  have hrow:=h.row
  rw[hn'] at hrow
  obtain⟨g,cap,hg⟩:=zdi hrow
  rw[←hn'] at hg hrow
  rw[hg] at hc1 hrow
  have hgl:=(zdA hrow g rfl).2
  have:=zts x.z g x.gs.length cap x.fr (fun j=>(x.gs.getD j dgm).z) (fun j=>(gOt ps0 x.fr (x.gs.getD j dgm).pl).1) (fun j=>(gOt ps0 x.fr (x.gs.getD j dgm).pl).2.1) w hc0 hc1 hn hgl (fun j hj=>by
   have:=World.ownsRow.cells hrow (g:=g) rfl j (x.gs.getD j dgm).p (by rw[List.getElem?_map,List.getElem?_eq_getElem hj,zbd hj];rfl)
   rw[Go.WideShapes.add_plain,Nat.zero_add] at this
   exact this) (fun j hj W hb=>zte ((h.gp _ (zbe hj)).on hb) (het.on hb) hp (hk _ (zbe hj)).1 (hk _ (zbe hj)).2 x.fr)
  have hl:(List.range x.gs.length).map (fun j=>((gOt ps0 x.fr (x.gs.getD j dgm).pl).1,(gOt ps0 x.fr (x.gs.getD j dgm).pl).2.1,x.fr))=wOt ps0 x.pl:=by
   rw[wOt,Wm.pl]
   refine List.ext_getElem (by simp) fun j h1 h2=>?_
   simp only[List.getElem_map,List.getElem_range]
   have hj:j<x.gs.length:=by simpa using h1
   rw[zbd hj,gOt]
   split<;>rfl
  rw[hl] at this
  exact this
theorem zic(base:Nat)(q:Option Addr)(n c j:Nat)(xs:List Value)(w:World)(hown:w.ownsRow base 147 1 (.slice q n c) n xs)(hx1:∀x∈xs,x.oneCell'=true)(hj:j≤n)(hn:n≤100000) :
  Calls Tryz.prog 111 #[.slice q n c,.int .i64 0,.int .i64 (j:Int)] w fun r w'=>r=.returned (.slice q (n-j) c)∧Aside (w'.ownsRow base 147 1 (.slice q (n-j) c) (n-j) (xs.drop j))∧Aside (Kp (fun k=>(Value.slice q n c).ownBlock=some k) w w'):=by
 by_cases h0:j=0
 ·subst h0
  have hc:n≤c:=by
   rcases hown.2 with ⟨e1,h0⟩|⟨g,cap,cur,e1,hb,hg,hnc,-⟩
   ·omega
   ·injection e1 with _ _ e3;omega
  refine (zgo q n c w hc).mono ?_
  rintro r w' ⟨rfl,rfl⟩
  have ho:w'.ownsRow base 147 1 (.slice q (n-0) c) (n-0) (xs.drop 0):=by simpa using hown
  exact⟨rfl,(show Aside _ from ho),(show Aside _ from Kp.refl _ _)⟩
 ·rcases hown.2 with ⟨e1,h0⟩|⟨g,cap,cur,e1,hb,hg,hnc,hm,hcs,htk⟩
  ·omega
  injection e1 with e1 _ e3
  subst e1
  subst e3
  simp only[Nat.mul_one] at hcs htk
  refine (zgp g n c j cur w hg hcs (fun x hx=>hx1 x (by rw[←htk];exact hx)) (by omega) hj hn hnc hm).mono ?_
  rintro r w' ⟨rfl,ho,hk⟩
  have hL:cur.toList.length=c:=by rw[Array.length_toList,hcs]
  obtain⟨d1,d2⟩:=zoj (r:=List.replicate j (Value.pointer none)) hL htk hnc hj (by simp)
  refine⟨rfl,(show Aside _ from ⟨by have:=hown.1;simp;omega,.inr ⟨g,c,_,rfl,hb,ho.out,by omega,hm,?_,?_⟩⟩),(show Aside _ from hk.mono (fun k _ hs=>by rw[show k=g from hs];rfl))⟩
  ·simp only[List.size_toArray]
   rw[d2];omega
  ·rw[Nat.mul_one]
   exact d1
theorem GrAt.del{w w5:World}{base:Nat}{ps0:List Pt}{gb:Nat}{s:Gs}{last:Int}{ov ov':Value}{xs:List Wm}(h:GrAt w base ps0 gb s last ov xs)(j:Nat)(hj:j≤xs.length)(hk:Kp (fun k=>ov.ownBlock=some k) w w5)(hrow:w5.ownsRow base 147 1 ov' (xs.length-j) ((xs.map Wm.p).drop j))(hb:ov'.ownBlock=ov.ownBlock) :
  GrAt (w5.setCell ⟨gb,16,none⟩ ov') base ps0 gb s last ov' (xs.drop j)∧Kp (GrS gb ov xs) w (w5.setCell ⟨gb,16,none⟩ ov')∧(∀k,GrS gb ov' (xs.drop j) k→GrS gb ov xs k):=by
 obtain⟨C,c1,c2⟩:=h.blk
 have hog:ov.ownBlock≠some gb:=fun e=>by
  rcases h.row.2 with ⟨e1,-⟩|⟨g,cap,cur,e1,-,hg,-⟩
  ·rw[e1] at e;simp[Value.ownBlock] at e
  ·rw[e1] at e
   have e:g=gb:=by simpa [Value.ownBlock] using e
   subst e
   exact zfa (show Blk w g cur _ from hg) c1 (by decide) rfl
 have K:Kp (fun k=>k=gb∨ov.ownBlock=some k) w (w5.setCell ⟨gb,16,none⟩ ov'):=(hk.mono (fun _ _ h=>.inr h)).set 16 _ (fun _=>.inl rfl)
 have hM:MutS w (fun k=>k=gb∨ov.ownBlock=some k):=(MutS.one c1 (by decide)).or (zdh h.row (by decide))
 refine⟨⟨⟨_,(c1.kp hk hog).set 16 _,c2.opens⟩,?_,fun y hy=>?_,?_,h.lt⟩,K.mono fun k _ hk=>?_,fun k hk=>?_⟩
 ·rw[List.length_drop,List.map_drop]
  exact ownsRow_setCell_other hrow (a:=⟨gb,16,none⟩) (by rw[hb];exact hog) ov'
 ·have hy:=List.mem_of_mem_drop hy
  refine (h.wm y hy).kp K hM (fun k k1 k2=>?_)
  rcases k2 with rfl|k2
  ·exact (h.wm y hy).notblk c1 (by decide) k1
  ·exact (h.wm y hy).notown h.row (by decide) k2 k1
 ·exact h.dj.sublist (List.drop_sublist j xs)
 ·rcases hk with hk|hk
  ·exact .inl hk
  ·exact .inr (.inl hk)
 ·rcases hk with hk|hk|⟨x,hx,hk⟩
  ·exact .inl hk
  ·exact .inr (.inl (by rw[←hb];exact hk))
  ·exact .inr (.inr ⟨x,List.mem_of_mem_drop hx,hk⟩)
set_option maxRecDepth 20000 in
theorem zio(QC:Array Value)(vl:Value)(SZ k:Int)(w:World)(RC:Value→World→Prop)(RG:Nat→World→Prop)(hq14:(Tryz.prog.info? 34).map (·.size)=some QC.size)(h11:QC[11]?=some (.int .i64 SZ))(hSZ:SZ≠0)(hRC:∀u W W',RC u W→Below W.heap.size W W'→RC u W')
  (hCk:∀W,Below w.heap.size w W→Calls Tryz.prog 33 #[.agg QC,vl] W fun e w'=>(∃u,e=.returned (.tuple #[u,.nilIface])∧Aside (RC u w'))∧Below W.heap.size W w')
  (hTp:∀W,Below w.heap.size w W→Calls Tryz.prog 36 #[vl] W fun e w'=>e=.returned (.tuple #[.int .i64 k,.nilIface])∧Below W.heap.size W w')
  (hNg:∀W u,Below w.heap.size w W→RC u W→Calls Tryz.prog 38 #[.agg QC,vl,u,.int .i64 k] W fun e w'=>(∃gb,e=.returned (.pointer (some ⟨gb,0,none⟩))∧Aside (RG gb w'∧∃q n c,w'.cell? ⟨gb,0,none⟩=some (.slice q n c)))∧Below W.heap.size W w') :
  Calls Tryz.prog 17 #[.agg QC,vl] w fun e w'=>(∃tb,e=.returned (.tuple #[.pointer (some ⟨tb,0,none⟩),.nilIface])∧Aside (∃gb cv w1,RG gb w1∧Below w1.heap.size w1 w'∧Blk w' tb (tlG cv gb) 102∧w1.heap.size≤tb∧w1.cell? ⟨gb,0,none⟩=some cv))∧Below w.heap.size w w':=by
 have b1:=alB w (.cells QC 34)
 have box:∀W,Below (w.heap.size+1) (w.alloc (.cells QC 34)) W→Blk W w.heap.size QC 34∧Below w.heap.size w W∧w.heap.size+1≤W.heap.size:=fun W hb=>⟨(zab w QC _).keep (hb.block _ (by omega)),b1.trans (hb.mono (by omega)),by have:=hb.size;simpa using this⟩
 have hld:=fun W (hb:Blk W w.heap.size QC 34)=>@zfx W _ _ _ _ hb Tryz.underlying34 rfl hq14
 go_enter Tryz.func17,Tryz.ntmps17
 go_wp2_with (refine hld _ (box _ (Below.refl _ _)).1 rfl _ rfl rfl ?_)
 go_wp2_with fail
 refine (hCk _ b1).mono ?_
 rintro e w1 ⟨⟨u,rfl,HU⟩,c1⟩
 have C1:Below (w.heap.size+1) (w.alloc (.cells QC 34)) w1:=c1.mono (by simp)
 obtain⟨k1,B1,s1⟩:=box w1 C1
 have hsz:=k1.cell 11
 rw[h11] at hsz
 have hne:¬SZ=0:=hSZ
 have hq:(SZ == 0)=false:=by simpa using hSZ
 have cTp:=hTp w1 B1
 clear hTp hCk k1
 go_wp2_with fail
 refine cTp.mono ?_
 rintro e w2 ⟨rfl,c2⟩
 have C2:Below (w.heap.size+1) (w.alloc (.cells QC 34)) w2:=C1.trans (c2.mono s1)
 obtain⟨k2,B2,s2⟩:=box w2 C2
 have cNg:=hNg w2 u B2 (hRC u w1 w2 HU.out c2)
 clear cTp hsz
 go_wp2_with (refine hld _ k2 rfl _ rfl rfl ?_)
 go_wp2_with fail
 refine cNg.mono ?_
 rintro e w3 ⟨⟨gb,rfl,HG⟩,c3⟩
 obtain⟨hRG,cq,cn,cc,hg0⟩:=HG.out
 have cO:=zkm gb _ w3 hg0 ⟨cq,cn,cc,rfl⟩
 have HRG:Aside (RG gb w3):=hRG
 have HG0:Aside (w3.cell? ⟨gb,0,none⟩=some (.slice cq cn cc)):=hg0
 have HB3:Aside (Below w.heap.size w w3):=B2.trans (c3.mono B2.size)
 clear cNg hNg hld box hRC k2 hRG hg0 HG HU
 go_wp2_with fail
 refine cO.mono ?_
 rintro e w4 ⟨⟨tb,rfl,HT⟩,c4⟩
 obtain⟨t1,t3⟩:=HT.out
 have HF:Aside (∃gb cv w1,RG gb w1∧Below w1.heap.size w1 w4∧Blk w4 tb (tlG cv gb) 102∧w1.heap.size≤tb∧w1.cell? ⟨gb,0,none⟩=some cv):=⟨gb,_,w3,HRG.out,c4,t1,t3,HG0.out⟩
 have HBF:Aside (Below w.heap.size w w4):=HB3.out.trans (c4.mono HB3.out.size)
 clear cO t1 t3 HT c4
 go_wp2
 go_ret2
 exact⟨⟨tb,rfl,HF⟩,HBF.out⟩
end
end Go.Proofs.YtbdnccnfidjiaaaGreatDoor
