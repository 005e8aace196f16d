/-
  CfI, KyS, RowChk, EvEv, BtP.
-/
import Derived.Test.YtopghagjmdbglaaGreatDoorGyAp
import Derived.Deep.LoopGhost
import Derived.Test.YtopghagjmdbglaaGreatDoorGyAk
import Derived.Deep.QuietTactic
import Derived.Test.YtopghagjmdbglaaGreatDoorGyAo
import Derived.BigQuiet
import Derived.Deep.RegionWith
namespace Go.Proofs.YtopghagjmdbglaaGreatDoor
open Go.RowKit
set_option linter.unusedVariables false
set_option linter.unusedSimpArgs false
set_option maxHeartbeats 8000000
section
open Go.BigFrame
set_option maxRecDepth 20000 in
theorem zjt(fn:FuncId)(hent:∀(args:Array Value) (W:World),Sem.run Tryz.prog (callFunc fn args) W=.ok (.enter fn args) W)(caps:Array Value)(u:Value)(ts:List Int)(P:Int→Bool)(w:World)(hu:IntA w u ts)
  (hc:∀t∈ts,∀W,Below w.heap.size w W→Calls Tryz.prog fn (#[.int .i64 t]++caps) W fun e w'=>e=.returned (.bool (P t))∧Below W.heap.size W w') :
  Calls Tryz.prog 176 #[u,.func (.func fn) #[] caps] w fun e w'=>(∃i,e=.returned (.int .i64 i)∧((0≤i∧ts.any P=true)∨(i=-1∧ts.any P=false)))∧Below w.heap.size w w':=by
 obtain⟨p,c,rfl,⟨hl1,hl2⟩,hnil,hcell⟩:=hu
 obtain⟨N,hN⟩:∃N,ts.length=N:=⟨_,rfl⟩
 have HN:Hid (ts.length=N):=hN
 have HC:Aside _:=hc
 have HCE:Aside _:=hcell
 rw[hN] at hl1 hl2 ⊢
 have hnz:(N:Int)≤1048576:=by omega
 clear hc hcell hN
 go_enter Tryz.func176,Tryz.ntmps176
 go_wp2
 go_loopg [5,8] N (fun gg _ s8 wr=>∃kk:Nat,kk≤N∧N-kk≤gg∧s8=.int .i64 (kk:Int)∧Hid ((ts.take kk).any P=false)∧Aside (Below w.heap.size w wr))
 case atStart=>exact⟨0,Nat.zero_le _,by omega,rfl,(show Hid _ from rfl),(show Aside _ from Below.refl _ _)⟩
 case round =>
  obtain⟨kk,hkk,hg,rfl,HA,BW⟩:=hrel
  by_cases hlt:kk<N
  ·have hltz:(kk:Int)<(N:Int):=by omega
   have h0z:(0:Int)≤(kk:Int):=by omega
   have hlt2:kk<ts.length:=by rw[HN.out];exact hlt
   have hcap:c≠0:=by omega
   cases p with
   | none=>exact absurd (hnil rfl) hcap
   | some a =>
   obtain⟨g,off,rfl,hgl,hce⟩:=HCE.out a rfl
   have hck:=hce kk hlt2
   rw[←BW.out.cell (p:=⟨g,off+kk,none⟩) hgl] at hck
   have cC:=HC.out ts[kk] (List.getElem_mem hlt2) wr BW.out
   have HS:Hid ((ts.take (kk+1)).any P=((ts.take kk).any P||P ts[kk])):=by
    show _=_
    rw[List.take_succ_eq_append_getElem hlt2,List.any_append];simp
   have HD:Hid (P ts[kk]=true→ts.any P=true):=fun h=>List.any_eq_true.2 ⟨ts[kk],List.getElem_mem hlt2,h⟩
   clear hce
   generalize ts[kk]=y at *
   generalize P y=Q at *
   cases Q
   ·go_wp2_with fail
    refine cC.mono ?_
    rintro e w1 ⟨rfl,b1⟩
    have HE2:Hid ((ts.take (kk+1)).any P=false):=by show _=_;rw[HS.out,HA.out];rfl
    have BW2:Aside (Below w.heap.size w w1):=BW.out.trans (b1.mono BW.out.size)
    clear cC HS HD HA BW b1 hck
    go_wp2
    go_roundg (N-(kk+1))
    case measure=>omega
    case rel=>exact⟨kk+1,by omega,by omega,by go_num,HE2,BW2⟩
   ·go_wp2_with fail
    refine cC.mono ?_
    rintro e w1 ⟨rfl,b1⟩
    have BW2:Aside (Below w.heap.size w w1):=BW.out.trans (b1.mono BW.out.size)
    have hT:ts.any P=true:=HD.out (by first|rfl|trivial)
    have HT:Hid (ts.any P=true):=hT
    clear cC HS HD HA BW b1 hck hT
    go_wp2
    go_ret
    exact⟨⟨_,rfl,.inl ⟨h0z,HT.out⟩⟩,BW2.out⟩
  ·have hltz:¬(kk:Int)<(N:Int):=by omega
   have HT:Hid (ts.any P=false):=by
    show _=_
    have h:=HA.out
    rwa [List.take_of_length_le (by rw[HN.out];omega)] at h
   clear HA
   go_wp2
   go_ret
   exact⟨⟨_,rfl,.inr ⟨rfl,by have h:=HT.out;first|exact h|(simpa using h)⟩⟩,BW.out⟩
set_option maxRecDepth 20000 in
theorem zeU(fn:FuncId)(hent:∀(args:Array Value) (W:World),Sem.run Tryz.prog (callFunc fn args) W=.ok (.enter fn args) W)(caps:Array Value)(u:Value)(ts:List Int)(P:Int→Bool)(w:World)(hu:IntA w u ts)
  (hc:∀t∈ts,∀W,Below w.heap.size w W→Calls Tryz.prog fn (#[.int .i64 t]++caps) W fun e w'=>e=.returned (.bool (P t))∧Below W.heap.size W w') :
  Calls Tryz.prog 147 #[u,.func (.func fn) #[] caps] w fun e w'=>e=.returned (.bool (ts.any P))∧Below w.heap.size w w':=by
 have cI:=zjt fn hent caps u ts P w hu hc
 generalize ts.any P=R at cI ⊢
 clear hu hc
 go_enter Tryz.func147,Tryz.ntmps147
 go_wp2_with fail
 refine cI.mono ?_
 rintro e w1 ⟨⟨i,rfl,hi⟩,b1⟩
 clear cI
 rcases hi with ⟨h0,rfl⟩|⟨rfl,rfl⟩
 ·go_wp2
  go_ret
  exact⟨rfl,b1⟩
 ·go_wp2
  go_ret
  exact⟨rfl,b1⟩
def zaR(w:World)(p:Option Addr)(ns:List Nat):Prop:=ns.length=0∨∃b off,p=some ⟨b,off,none⟩∧b<w.heap.size∧∀j (h:j<ns.length),w.cell? ⟨b,off+j,none⟩=some (.int .i64 (ns[j]:Int))
theorem zaR.on{w w':World}{p:Option Addr}{vs:List Nat}(h:zaR w p vs)(hb:Below w.heap.size w w'):zaR w' p vs:=by
 rcases h with h|⟨b,off,e,hl,h⟩
 ·exact .inl h
 ·exact .inr ⟨b,off,e,by have:=hb.size;omega,fun j hj=>by rw[hb.cell (p:=⟨b,_,none⟩) hl];exact h j hj⟩
def keyP(rs:List V3)(ns:List Nat):List V3:=ns.map fun i=>rs.getD i (0,0,⟨#[]⟩)

set_option maxRecDepth 20000 in
theorem key_s(gb:Nat)(p q:Option Addr)(pc c:Nat)(ns:List Nat)(rs:List V3)(w:World)(hg:w.cell? ⟨gb,10,none⟩=some (.slice p ns.length pc))(hn:ns.length≤1000000)(hr:rs.length≤1000000)(hp:zaR w p ns)(h:zaf w q rs)(hi:∀i∈ns,i<rs.length) :
  Calls Tryz.prog 143 #[.pointer (some ⟨gb,0,none⟩),.slice q rs.length c] w fun e w'=>(∃u,e=.returned u∧Aside (w'.ownsRow w.heap.size 27 3 u ns.length (zao (keyP rs ns))))∧Below w.heap.size w w':=by
 have H:Aside (zaf w q rs):=h
 have HP:Aside (zaR w p ns):=hp
 have HI:Aside _:=hi
 obtain⟨N,hN⟩:∃N,ns.length=N:=⟨_,rfl⟩
 have HN:Hid (ns.length=N):=hN
 obtain⟨M,hM⟩:∃M,rs.length=M:=⟨_,rfl⟩
 have HM:Hid (rs.length=M):=hM
 rw[hN] at hn hg ⊢
 rw[hM] at hr ⊢
 clear h hp hi hN hM
 have hnz:(N:Int)≤1000000:=by omega
 have hmz:(M:Int)≤1000000:=by omega
 go_enter Tryz.func143,Tryz.ntmps143
 go_wp2
 go_loopg [5,7,13] N (fun gg s5 _ s13 wr=>∃(kk:Nat) (u:Value),kk≤N∧N-kk≤gg∧s13=.int .i64 (kk:Int)∧s5=u∧Aside (wr.ownsRow w.heap.size 27 3 u kk (zao (keyP rs (ns.take kk))))∧Aside (Below w.heap.size w wr))
 case atStart=>exact⟨0,.slice none 0 0,Nat.zero_le _,by omega,rfl,rfl,(show Aside _ from World.ownsRow_nil _ _ _ _),(show Aside _ from Below.refl _ _)⟩
 case round =>
  obtain⟨kk,u,hkk,hg',rfl,hu,OW,BW⟩:=hrel
  obtain rfl:u=_:=hu.symm
  by_cases hlt:kk<N
  ·have hltz:(kk:Int)<(N:Int):=by omega
   have h0z:(0:Int)≤(kk:Int):=by omega
   have hk1:kk<ns.length:=by rw[HN.out];exact hlt
   obtain⟨b0,o0,rfl,l0,r0⟩:=(HP.out.on BW.out).resolve_left (by omega)
   have hpl:=r0 kk hk1
   have hin:=HI.out _ (List.getElem_mem hk1)
   have HT:Hid (keyP rs (ns.take (kk+1))=keyP rs (ns.take kk)++[rs.getD ns[kk] (0,0,⟨#[]⟩)]):=by show _=_;rw[List.take_succ_eq_append_getElem hk1,keyP,keyP,List.map_append];rfl
   clear r0
   generalize ns[kk]=i at hpl hin HT
   obtain⟨b1,o1,rfl,l1,r1⟩:=(H.out.on BW.out).resolve_left (by omega)
   obtain⟨e0,e1,e2⟩:=r1 i hin
   have hgi:rs.getD i (0,0,⟨#[]⟩)=rs[i]:=by rw[List.getD_eq_getElem?_getD,List.getElem?_eq_getElem hin];rfl
   rw[hgi] at HT
   have hiM:i<M:=by rw[←HM.out];exact hin
   clear r1 hgi
   generalize rs[i]=x at e0 e1 e2 HT
   obtain⟨t,n,s⟩:=x
   simp only at e0 e1 e2
   have hiz:(i:Int)<(M:Int):=by omega
   have hi0:(0:Int)≤(i:Int):=by omega
   obtain⟨uq,uc,rfl⟩:=zaa OW.out
   have hbs:=BW.out.size
   have a1:∀(X:World) o,Below X.heap.size X (X.alloc o):=fun X o=>(Below.refl _ _).alloc (Nat.le_refl _) o
   have HO4:=(show Aside _ from zac OW.out (a1 wr (.cells #[.int .i64 t,.int .i64 n,.string s] 27)))
   have HJ4:=(show Aside _ from BW.out.alloc hbs (.cells #[.int .i64 t,.int .i64 n,.string s] 27))
   clear BW OW hin
   go_wp2_with (at_builtin;refine zax rfl _ _ rfl w.heap.size _ kk (keyP rs (ns.take kk)) rfl HO4.out wr.heap.size 1 t n s rfl (news1 (by simp) _) (by omega) (by simp;omega) ?_)
   intro q' c' w4 ho hgr
   have hown4:∀m,(Value.slice uq kk uc).ownBlock=some m→w.heap.size≤m:=fun m hm=>(World.ownsRow.lt HO4.out m hm).1
   have B6:Aside (Below w.heap.size w w4):=HJ4.out.grown hgr (by simp;omega) hown4
   rw[←HT.out] at ho
   have O6:Aside (w4.ownsRow w.heap.size 27 3 (.slice q' (kk+1) c') (kk+1) (zao (keyP rs (ns.take (kk+1))))):=ho
   clear ho hgr HO4 HJ4 hown4
   go_wp2
   go_roundg (N-(kk+1))
   case measure=>omega
   case rel=>exact⟨kk+1,_,by omega,by omega,by go_num,rfl,O6,B6⟩
  ·have hltz:¬(kk:Int)<(N:Int):=by omega
   obtain rfl:kk=N:=by omega
   have ht:ns.take kk=ns:=List.take_of_length_le (by rw[HN.out];exact Nat.le_refl _)
   rw[ht] at OW
   go_wp2
   go_ret
   exact⟨⟨_,rfl,OW⟩,BW.out⟩
def rcGo:List (ByteArray×Int)→List V3→Int
 | z::zs,r::rs=>if chk r.1 r.2.1 r.2.2.data.toList≠0 then chk r.1 r.2.1 r.2.2.data.toList else if r.1≠z.2 then 8 else rcGo zs rs
 | _,_=>0
def zgx(zs:List (ByteArray×Int))(rs:List V3):Int:=if schE zs≠0 then schE zs else if rs.length≠zs.length then 3 else rcGo zs rs
theorem zqZ{zs:List (ByteArray×Int)}{rs:List V3}{k:Nat}(hz:k<zs.length)(hr:k<rs.length) :
  rcGo (zs.drop k) (rs.drop k)=if chk rs[k].1 rs[k].2.1 rs[k].2.2.data.toList≠0 then chk rs[k].1 rs[k].2.1 rs[k].2.2.data.toList else if rs[k].1≠zs[k].2 then 8 else rcGo (zs.drop (k+1)) (rs.drop (k+1)):=by
 rw[List.drop_eq_getElem_cons hz,List.drop_eq_getElem_cons hr,rcGo]
theorem zki(lv rv:Value)(zs:List (ByteArray×Int))(rs:List V3)(w:World)(hw:TW w)(hl:ColsV w lv zs)(hr:ValsV w rv rs)(hsz:zbs rs) :
  Calls Tryz.prog 44 #[lv,rv] w fun e w'=>e=.returned (errV (zgx zs rs))∧Below w.heap.size w w':=by
 have cS:=zkk lv zs w hw hl
 obtain⟨K,hK⟩:∃K,zgx zs rs=K:=⟨_,rfl⟩
 rw[hK]
 rw[zgx] at hK
 by_cases h0:schE zs=0
 ·rw[if_neg (by simpa using h0)] at hK
  rw[h0,show errV 0=.nilIface from rfl] at cS
  have hz0:=(zes h0).1
  have hzm:=(zes h0).2.1
  obtain⟨zp,zc,rfl,hzz⟩:=hl
  obtain⟨rp,rc,rfl,hrm,hrr⟩:=hr
  clear h0
  by_cases hle:rs.length=zs.length
  ·rw[if_neg (by simpa using hle)] at hK
   rcases hzz with h|⟨zb,zo,rfl,_,_,hzi⟩
   ·exact absurd h hz0
   ·rcases hrr with h|⟨rb,ro,rfl,hrl,hri⟩
    ·exact absurd (hle.symm.trans h) hz0
    ·have hlez:(rs.length:Int)=(zs.length:Int):=by omega
     have hqz:((rs.length:Int) != (zs.length:Int))=false:=by rw[hlez];simp
     have HK:Hid (rcGo zs rs=K):=hK
     unfold maxLen at hrm
     clear hK
     go_enter Tryz.func44,Tryz.ntmps44
     go_wp2_with fail
     refine cS.mono ?_
     rintro e w0 ⟨rfl,b0⟩
     go_wp2
     go_loopg [6,7,8,22] rs.length (fun gg _ _ _ s22 wr=>∃kk:Nat,kk≤rs.length∧rs.length-kk≤gg∧s22=.int .i64 kk∧Aside (Below w.heap.size w wr)∧Hid (K=rcGo (zs.drop kk) (rs.drop kk)))
     case atStart=>exact⟨0,Nat.zero_le _,by omega,rfl,b0,(show Hid _ by simp[Hid,HK.out])⟩
     case round =>
      obtain⟨kk,hkk,hg,rfl,BW,HS⟩:=hrel
      by_cases hlt:kk<rs.length
      ·have hltz:(kk:Int)<(rs.length:Int):=by omega
       have hltz2:(kk:Int)<(zs.length:Int):=by omega
       have k0:(0:Int)≤(kk:Int):=by omega
       obtain⟨c0,c1,c2⟩:=hri kk hlt
       have kR:∀o,wr.cell? ⟨rb,o,none⟩=w.cell? ⟨rb,o,none⟩:=fun o=>BW.out.cell (p:=⟨rb,o,none⟩) hrl
       rw[←kR] at c0 c1 c2
       have hrlr:rb<wr.heap.size:=by have:=BW.out.size;omega
       clear kR
       have hltn:kk<zs.length:=by omega
       have HS2:Hid (K=_):=HS.out.trans (zqZ hltn hlt)
       obtain⟨hs1,hn1⟩:=hsz _ (List.getElem_mem hlt)
       have hzi2:=(hzi.on BW.out)
       obtain⟨d0,d1⟩:=hzi2.2 kk hltn
       have hzl:=hzi2.1
       generalize hy:rs[kk]=y at c0 c1 c2 HS2 hs1 hn1
       generalize hyz:zs[kk]=z at d0 d1 HS2
       obtain⟨yt,yn,ys⟩:=y
       obtain⟨zn,zt⟩:=z
       simp only at c0 c1 c2 d0 d1 HS2 hs1 hn1
       have B1:=BW.out.alloc BW.out.size (.cells #[.int .i64 yt,.int .i64 yn,.string ys] 27)
       have cC:=zbF yt yn ys (wr.alloc (.cells #[.int .i64 yt,.int .i64 yn,.string ys] 27)) hs1
       obtain⟨ce,hce⟩:∃ce,chk yt yn ys.data.toList=ce:=⟨_,rfl⟩
       rw[hce] at cC
       have HS3:Hid (K=if ce≠0 then ce else if yt≠zt then 8 else rcGo (zs.drop (kk+1)) (rs.drop (kk+1))):=by
        rw[←hce];exact HS2
       have e1:=ziZ ce
       have e2:=zgW ce
       clear HS HS2 hy hyz hce hsz
       go_wp2_with fail
       refine cC.mono ?_
       rintro e w1 ⟨rfl,b1⟩
       obtain⟨hc1,hf1⟩:=bcell b1
       have l1:wr.heap.size<w1.heap.size:=by have:=b1.size;simp at this;omega
       have q0:w1.cell? ⟨wr.heap.size,0,none⟩=some (.int .i64 yt):=by
        rw[hc1 _ _ (by simp),World.cell?_alloc_at _ _ _ _ rfl];rfl
       have g1:w1.cell? ⟨zb,zo+kk*2+1,none⟩=some (.int .i64 zt):=by
        rw[hc1 _ _ (by simp;omega),World.cell?_alloc_lt _ _ _ hzl];exact d1
       have B2:=B1.trans (b1.mono B1.size)
       clear hc1 hf1 b1 cC c0 c1 c2 d0 d1 B1 hzi2
       by_cases hz:ce=0
       ·have hb:(ce != 0)=false:=by simpa using hz
        rw[hb] at e1
        by_cases htt:yt=zt
        ·have hq:(yt != zt)=false:=by simpa using htt
         have HS4:Hid (K=rcGo (zs.drop (kk+1)) (rs.drop (kk+1))):=by
          have:=HS3.out
          rwa [if_neg (by simpa using hz),if_neg (by simpa using htt)] at this
         clear HS3 hz hb htt
         go_wp2
         go_quiet (fail)
         go_wp2
         go_roundg (rs.length-(kk+1))
         case measure=>omega
         case rel=>exact⟨kk+1,by omega,by omega,by go_num,by repeat (first|exact B2|apply below_drewN|refine Below.drew ?_),HS4⟩
        ·have hq:(yt != zt)=true:=by simpa using htt
         have HS4:K=8:=by
          have:=HS3.out
          rwa [if_neg (by simpa using hz),if_pos htt] at this
         subst HS4
         clear HS3 hz hb htt
         go_wp2
         go_quiet (fail)
         go_wp2
         go_ret
         exact⟨rfl,by repeat (first|exact B2|apply below_drewN|refine Below.drew ?_)⟩
       ·have hb:(ce != 0)=true:=by simpa using hz
        rw[hb] at e1
        have HS4:K=ce:=by
         have:=HS3.out
         rwa [if_pos hz] at this
        subst HS4
        clear HS3 hz hb
        go_wp2
        go_ret
        exact⟨rfl,B2⟩
      ·have hltz:¬(kk:Int)<(rs.length:Int):=by omega
       have hkz:K=0:=by
        rw[HS.out,List.drop_eq_nil_of_le (show zs.length≤kk by omega)];rfl
       subst hkz
       clear HS HK
       go_wp2
       go_ret
       exact⟨rfl,BW.out⟩
  ·rw[if_pos hle] at hK
   subst hK
   have hqz:((rs.length:Int) != (zs.length:Int))=true:=by simp;omega
   clear hle hzz hrr
   go_enter Tryz.func44,Tryz.ntmps44
   go_wp2_with fail
   refine cS.mono ?_
   rintro e w0 ⟨rfl,b0⟩
   go_wp2
   go_ret
   exact⟨rfl,b0⟩
 ·rw[if_pos h0] at hK
  rw[hK] at cS h0
  have HE:Hid (errV K=.iface 35 (.int .i64 K)):=by show errV K=_;rw[errV,if_neg h0]
  clear hK h0 hl hr
  go_enter Tryz.func44,Tryz.ntmps44
  go_wp2_with fail
  refine cS.mono ?_
  rintro e w0 ⟨rfl,b0⟩
  rw[HE.out]
  go_wp2
  go_ret
  exact⟨by rw[HE.out];rfl,b0⟩
def evP(zs:List (ByteArray×Int))(rs:List V3)(x:Ex):V3×Int:=if (ofP zs x).2.1≠0 then (noV,(ofP zs x).2.1) else if zgx zs rs≠0 then (noV,zgx zs rs) else cmP zs rs x
end
def comP(zs:List Cl)(rs:List V3)(x:Ex):V3×Int:=if noOp x=true then (noV,0) else evP zs rs x
def pasP(zs:List Cl)(rs:List V3)(x:Ex):Bool×Int:=if noOp x=true then (true,0) else ((evP zs rs x).1.2.1 == 1,(evP zs rs x).2)
def gatP(zs:List Cl)(rs:List V3):List V3→List Ex→List V3×Int
 | acc,[]=>(acc,0)
 | acc,x::xs=>if (comP zs rs x).2≠0 then ([],(comP zs rs x).2) else gatP zs rs (acc++[(comP zs rs x).1]) xs
def takP(zs:List Cl)(wh:Ex)(es:List Ex)(rs:List V3):List V3×Bool×Int :=
 if (pasP zs rs wh).2≠0 then ([],false,(pasP zs rs wh).2)
 else if (pasP zs rs wh).1=false then ([],false,0)
 else if (gatP zs rs [] es).2≠0 then ([],false,(gatP zs rs [] es).2)
 else ((gatP zs rs [] es).1,true,0)
theorem zmC{zs:List Cl}{rs:List V3}:∀(es:List Ex) (acc:List V3),(gatP zs rs acc es).2=0→(gatP zs rs acc es).1.length=acc.length+es.length
 | [],acc,_=>by simp[gatP]
 | x::xs,acc,h=>by
  rw[gatP] at h ⊢
  split at h
  ·rename_i h1;exact absurd h h1
  ·rename_i h1
   rw[if_neg h1,zmC xs _ h]
   simp;omega
end Go.Proofs.YtopghagjmdbglaaGreatDoor
