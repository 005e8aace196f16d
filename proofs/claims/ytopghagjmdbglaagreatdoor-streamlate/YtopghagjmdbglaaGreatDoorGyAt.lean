/-
  BtC, OuS, GoS, DeS, WmO, AdW.
-/
import Derived.Test.YtopghagjmdbglaaGreatDoorGyAs
import Derived.Laws.EntriesVeiled
import Derived.Test.YtopghagjmdbglaaGreatDoorGyAq
import Derived.Test.YtopghagjmdbglaaGreatDoorGyAl
import Derived.Test.YtopghagjmdbglaaGreatDoorGyAo
import Derived.Laws.AppendOwnNone
import Derived.Lib.SliceRun
import Derived.Test.YtopghagjmdbglaaGreatDoorGyAp
import Derived.Test.YtopghagjmdbglaaGreatDoorGyAr
namespace Go.Proofs.YtopghagjmdbglaaGreatDoor
open Go.RowKit
set_option linter.unusedVariables false
set_option linter.unusedSimpArgs false
set_option maxHeartbeats 8000000
set_option maxRecDepth 20000
section
open Go.BigFrame
theorem zil(E:Int)(w:World)(hg:EtAt w) :
  Calls Tryz.prog 72 #[.iface 35 (.int .i64 E)] w fun e w'=>e=.returned (.agg #[.slice none 0 0,.int .i64 E,.int .i64 0])∧Below w.heap.size w w':=by
 have b2:=((Below.refl w.heap.size w).alloc (Nat.le_refl _) (.cells #[.slice none 0 0,.int .i64 0,.int .i64 0] 52)).alloc (by simp) (.cells #[.int .i64 0] 35)
 have hgA:=hg.on b2
 unfold EtAt at hgA
 have htA:((w.alloc (.cells #[.slice none 0 0,.int .i64 0,.int .i64 0] 52)).alloc (.cells #[.int .i64 0] 35)).cell? ⟨w.heap.size+1,0,none⟩=some (.int .i64 0):=by simp
 have hfA:((w.alloc (.cells #[.slice none 0 0,.int .i64 0,.int .i64 0] 52)).alloc (.cells #[.int .i64 0] 35)).frozen? ⟨w.heap.size+1,0,none⟩=false:=by simp
 have cA:=zsS E ⟨w.heap.size+1,0,none⟩ (.int .i64 0) _ hgA htA hfA
 clear hgA htA hfA hg b2
 go_enter Tryz.func72,Tryz.ntmps72
 go_wp2_with (first|(go_at_call 107;refine cA.mono ?_;rintro e w' ⟨rfl,rfl⟩))
 refine bodyPost_ret (v:=.agg #[.slice none 0 0,.int .i64 E,.int .i64 0]) (by simp[results,Tryz.results72,go_sem]) rfl ⟨rfl,?_⟩
 repeat (first|exact Below.refl _ _|(refine Below.setCell ?_ (by simp) _)|(refine Below.alloc ?_ (by simp;omega) _)|(refine Below.alloc ?_ (by simp) _))
theorem zuV(sb b n c:Nat)(fr:Int)(zs:Nat→Nat)(L:Nat→List V3)(E:Nat→Int)(w:World)(hf:w.cell? ⟨sb,0,none⟩=some (.int .i64 fr))(hs:w.cell? ⟨sb,1,none⟩=some (.slice (some ⟨b,0,none⟩) n c))(hn:n≤1000)(hbl:b<w.heap.size)
  (hp:∀j,j<n→w.cell? ⟨b,j,none⟩=some (.pointer (some ⟨zs j,0,none⟩)))
  (hO:∀j,j<n→∀W,Below w.heap.size w W→Calls Tryz.prog 180 #[.pointer (some ⟨zs j,0,none⟩)] W fun e w'=>(∃rq rc,e=.returned (.agg #[.slice rq (L j).length rc,.int .i64 (E j),.int .i64 0])∧Aside (zah w' rq (L j)∧((L j).length=0∨∃b off,rq=some ⟨b,off,none⟩∧W.heap.size≤b)))∧Below W.heap.size W w') :
  Calls Tryz.prog 150 #[.pointer (some ⟨sb,0,none⟩)] w fun e w'=>(∃u,e=.returned u∧Aside (OutsF w.heap.size w' u ((List.range n).map fun j=>(L j,E j,fr))))∧Below w.heap.size w w':=by
 have hsl:sb<w.heap.size:=by
  rcases Nat.lt_or_ge sb w.heap.size with h|h
  ·exact h
  ·simp[World.cell?,Array.getElem?_eq_none h] at hs
 have HP:Aside _:=hp
 have HO:Aside _:=hO
 have HF:Aside (w.cell? ⟨sb,0,none⟩=some (.int .i64 fr)):=hf
 have hnz:(n:Int)≤1000:=by omega
 clear hp hO hf
 go_enter Tryz.func150,Tryz.ntmps150
 go_wp2
 go_loopg [3,5,6,12] n (fun gg s3 _ _ s12 wr=>∃(kk:Nat) (cs:List Value) (u:Value),kk≤n∧n-kk≤gg∧s12=.int .i64 (kk:Int)∧s3=u∧Aside (wr.ownsRow w.heap.size 52 3 u kk cs)∧Aside (OtCs wr u.ownBlock cs ((List.range kk).map fun j=>(L j,E j,fr))∧FrC w.heap.size cs∧(kk=0→u=.slice none 0 0))∧Aside (Below w.heap.size w wr))
 case atStart=>exact⟨0,[],.slice none 0 0,Nat.zero_le _,by omega,rfl,rfl,(show Aside _ from World.ownsRow_nil _ _ _ _),(show Aside _ from ⟨OtCs.nil _ _,FrC.nil _,fun _=>rfl⟩),(show Aside _ from Below.refl _ _)⟩
 case round =>
  obtain⟨kk,cs,u,hkk,hg,rfl,hu,OJ,CJ,BJ⟩:=hrel
  obtain rfl:u=_:=hu.symm
  by_cases hlt:kk<n
  ·have hltz:(kk:Int)<(n:Int):=by omega
   have h0z:(0:Int)≤(kk:Int):=by omega
   have hcell:=HP.out kk hlt
   rw[←BJ.out.cell (p:=⟨b,kk,none⟩) hbl] at hcell
   have cO:=HO.out kk hlt wr BJ.out
   have hbs:=BJ.out.size
   have HR:Hid (((List.range (kk+1)).map fun j=>(L j,E j,fr))=((List.range kk).map fun j=>(L j,E j,fr))++[(L kk,E kk,fr)]):=by show _=_;rw[List.range_succ,List.map_append];rfl
   generalize zs kk=z at hcell cO
   obtain⟨uq,uc,rfl⟩:=zaa OJ.out
   go_wp2_with fail
   refine cO.mono ?_
   rintro e w4 ⟨⟨rq,rc,rfl,hV⟩,b4⟩
   obtain⟨gv,gd⟩:=hV.out
   have hs6:=b4.size
   have hf4:w4.cell? ⟨sb,0,none⟩=some (.int .i64 fr):=by rw[(BJ.out.trans (b4.mono hbs)).cell (p:=⟨sb,0,none⟩) hsl];exact HF.out
   have hown0:∀m,(Value.slice uq kk uc).ownBlock=some m→w.heap.size≤m∧m<wr.heap.size:=fun m hm=>OJ.out.lt m hm
   have hoff:OffR (Value.slice uq kk uc).ownBlock rq (L kk):=by
    rcases gd with gd|⟨b',off',e1,e2⟩
    ·exact .inl gd
    ·refine .inr ⟨b',off',e1,fun e=>?_⟩
     have:=hown0 b' e.symm
     omega
   have O4:=zab OJ.out b4
   have C4:=CJ.out.1.on b4
   have HFR:Aside (FrC w.heap.size (cs++[.slice rq (L kk).length rc,.int .i64 (E kk),.int .i64 fr])):=FrC.append (n:=kk) (by rw[CJ.out.1.1];simp) CJ.out.2.1 (B2:=wr.heap.size) (fun j rq' n' rc' e=>by
    have hj:j=0:=by have:=(List.getElem?_eq_some_iff.1 e).1;simp at this;omega
    subst hj
    simp at e
    obtain⟨rfl,rfl,rfl⟩:=e
    exact gd) hbs
   have B4:=BJ.out.trans (b4.mono hbs)
   obtain⟨LN,hLN⟩:∃LN,(L kk).length=LN:=⟨_,rfl⟩
   have HLN:Hid ((L kk).length=LN):=hLN
   obtain⟨Ek,hEk⟩:∃Ek,E kk=Ek:=⟨_,rfl⟩
   have HEk:Hid (E kk=Ek):=hEk
   have x3:Below w4.heap.size w4 ((w4.alloc (.cells #[.slice rq LN rc,.int .i64 Ek,.int .i64 fr] 52)).alloc (.cells #[.slice rq LN rc,.int .i64 Ek,.int .i64 fr] 52)):=(alB w4 _).alloc (by simp) _
   have K3:=zac (w4.alloc (.cells #[.slice rq LN rc,.int .i64 Ek,.int .i64 fr] 52)) #[.slice rq LN rc,.int .i64 Ek,.int .i64 fr] 52
   rw[show (w4.alloc (.cells #[.slice rq LN rc,.int .i64 Ek,.int .i64 fr] 52)).heap.size=w4.heap.size+1 by simp] at K3
   have HO4:=(show Aside _ from zab O4 x3)
   have HC4:=(show Aside _ from C4.on x3)
   have HB4:=(show Aside _ from B4.trans (x3.mono B4.size))
   have HV4:=(show Aside _ from gv.on x3)
   have HOF:Aside _:=hoff
   have g0:=K3.cell 0
   have g1:=K3.cell 1
   have g2:=K3.cell 2
   have hown1:∀m,(Value.slice uq kk uc).ownBlock=some m→w.heap.size≤m:=fun m hm=>(hown0 m hm).1
   have HW:Hid (w.heap.size≤w4.heap.size):=B4.size
   have hsb4:sb<w4.heap.size:=by have:=B4.size;omega
   rw[hLN,hEk] at HFR
   rw[hLN,hEk]
   clear hV gv gd hoff hown0 O4 C4 B4 cO b4 OJ CJ BJ hcell x3 K3 hs6 hbs hLN hEk
   go_wp2_with (at_builtin;refine zcT rfl _ _ rfl w.heap.size (.slice uq kk uc) kk cs rfl HO4.out (w4.heap.size+1) rq LN rc Ek fr rfl g0 g1 g2 (by omega) (by have:=HW.out;simp;omega) ?_)
   intro q' c' w6 ho hg ho3
   have hsz6:=hg.size
   have B6:Aside (Below w.heap.size w w6):=HB4.out.grown hg (by have:=HW.out;simp;omega) hown1
   have C6:Aside (OtCs w6 (Value.slice q' (kk+1) c').ownBlock (cs++[.slice rq LN rc,.int .i64 Ek,.int .i64 fr]) ((List.range (kk+1)).map fun j=>(L j,E j,fr))):=by
    have:=OtCs.push (o:=(L kk,E kk,fr)) (rc:=rc) HC4.out HV4.out HOF.out hg hsz6 (k':=(Value.slice q' (kk+1) c').ownBlock) (by simpa using ho3)
    simp only[HLN.out,HEk.out] at this
    rw[HR.out]
    simp only[HEk.out]
    exact this
   have O6:Aside (w6.ownsRow w.heap.size 52 3 (.slice q' (kk+1) c') (kk+1) (cs++[.slice rq LN rc,.int .i64 Ek,.int .i64 fr])):=ho
   clear ho hg ho3 HO4 HC4 HB4 hown1 HV4 HOF g0 g1 g2 hf4
   go_wp2
   go_roundg (n-(kk+1))
   case measure=>omega
   case rel=>exact⟨kk+1,_,_,by omega,by omega,by go_num,rfl,O6,(show Aside _ from ⟨C6.out,HFR.out,fun h=>by omega⟩),B6⟩
  ·have hltz:¬(kk:Int)<(n:Int):=by omega
   obtain rfl:kk=n:=by omega
   have hV:OutsF w.heap.size _ _ ((List.range kk).map fun j=>(L j,E j,fr)):=⟨⟨cs,by simpa using OJ.out,CJ.out.1,CJ.out.2.1⟩,fun h=>CJ.out.2.2 (by simpa using h)⟩
   have HV:Aside _:=hV
   clear hV OJ CJ
   go_wp2
   go_ret
   exact⟨⟨_,rfl,HV⟩,BJ.out⟩
theorem zgF:∀{vs:List V3},∀u∈zan vs,u.oneCell'=true
 | [],u,h=>by simp[zan] at h
 | v::vs,u,h=>by
  simp only[zan,List.mem_cons] at h
  rcases h with rfl|rfl|rfl|h
  ·rfl
  ·rfl
  ·rfl
  ·exact zgF u h
theorem zje{w:World}{b off:Nat}{vs:List V3}(h:∀j (h:j<vs.length),w.cell? ⟨b,off+j*3,none⟩=some (.int .i64 vs[j].1)∧w.cell? ⟨b,off+j*3+1,none⟩=some (.int .i64 vs[j].2.1)∧w.cell? ⟨b,off+j*3+2,none⟩=some (.string vs[j].2.2)) :
  ∀j u,(zan vs)[j]?=some u→w.cell? ((⟨b,off,none⟩:Addr).add j)=some u:=fun j u hu=>by
 rw[Go.WideShapes.add_plain]
 have hj:j<vs.length*3:=by rw[←zdJ];exact (List.getElem?_eq_some_iff.1 hu).1
 have hk:j / 3<vs.length:=by omega
 obtain⟨c0,c1,c2⟩:=zeW hk
 obtain⟨d0,d1,d2⟩:=h _ hk
 rcases (show j % 3=0∨j % 3=1∨j % 3=2 by omega) with m|m|m
 ·have e:j=j / 3*3:=by omega
  rw[e] at hu
  rw[c0] at hu
  rw[show off+j=off+j / 3*3 by omega,d0,←hu]
 ·have e:j=j / 3*3+1:=by omega
  rw[e] at hu
  rw[c1] at hu
  rw[show off+j=off+j / 3*3+1 by omega,d1,←hu]
 ·have e:j=j / 3*3+2:=by omega
  rw[e] at hu
  rw[c2] at hu
  rw[show off+j=off+j / 3*3+2 by omega,d2,←hu]

theorem zud{B B' n size:Nat}{w:World}{e:TypeId}{v:Value}{xs:List Value}(h:w.ownsRow B e size v n xs)(hb:B'≤B):w.ownsRow B' e size v n xs :=
 ⟨h.1,h.2.imp id (fun ⟨g,cap,cur,e,hbg,r⟩=>⟨g,cap,cur,e,Nat.le_trans hb hbg,r⟩)⟩
theorem zsY(gz a:Nat)(E:Int)(kv:Value)(w:World)(henv:EtAt w)(h0:w.cell? ⟨gz,0,none⟩=some kv)(h1:w.cell? ⟨gz,1,none⟩=some (.pointer (some ⟨a,0,none⟩)))
  (hR:∀W,Below w.heap.size w W→Calls Tryz.prog 209 #[.pointer (some ⟨a,0,none⟩)] W fun e w'=>e=.returned (.tuple #[.slice none 0 0,.iface 35 (.int .i64 E)])∧Below W.heap.size W w') :
  Calls Tryz.prog 180 #[.pointer (some ⟨gz,0,none⟩)] w fun e w'=>e=.returned (.agg #[.slice none 0 0,.int .i64 E,.int .i64 0])∧Below w.heap.size w w':=by
 have hF:=fun W (hb:Below w.heap.size w W)=>zil E W (henv.on hb)
 have b0:Below w.heap.size w (w.alloc (.cells #[.slice none 0 0,.int .i64 0,.int .i64 0] 52)):=alB w _
 have hgl:gz<w.heap.size:=by
  rcases Nat.lt_or_ge gz w.heap.size with h|h
  ·exact h
  ·simp[World.cell?,Array.getElem?_eq_none h] at h1
 have h1':(w.alloc (.cells #[.slice none 0 0,.int .i64 0,.int .i64 0] 52)).cell? ⟨gz,1,none⟩=some (.pointer (some ⟨a,0,none⟩)):=by rw[b0.cell (p:=⟨gz,1,none⟩) hgl];exact h1
 have hR0:=hR _ b0
 clear henv hR h1 h0
 go_enter Tryz.func180,Tryz.ntmps180
 go_wp2_with fail
 refine hR0.mono ?_
 rintro e w1 ⟨rfl,b1⟩
 have B1:Below w.heap.size w w1:=b0.trans (b1.mono b0.size)
 have hF1:=hF _ B1
 clear hR0 hF h1'
 go_wp2_with fail
 refine hF1.mono ?_
 rintro e w2 ⟨rfl,b2⟩
 have B2:Below w.heap.size w w2:=B1.trans (b2.mono B1.size)
 obtain⟨k1,k2,hl⟩:=zhh w _ _ (b1.trans (b2.mono b1.size)) (by simp)
 have f0:w2.cell? ⟨w.heap.size,0,none⟩=some (.slice none 0 0):=k1 0
 have f1:w2.cell? ⟨w.heap.size,1,none⟩=some (.int .i64 0):=k1 1
 have f2:w2.cell? ⟨w.heap.size,2,none⟩=some (.int .i64 0):=k1 2
 clear hF1 B1 b1 b2 b0 k1
 go_wp2
 refine bodyPost_ret (v:=.agg #[.slice none 0 0,.int .i64 E,.int .i64 0]) (by simp[results,Tryz.results180,go_sem,World.cell?_setCell_other,World.cell?_setCell_same,f0,f1,f2]) rfl ⟨rfl,?_⟩
 exact ((B2.setCell (p:=⟨w.heap.size,0,none⟩) (Nat.le_refl _) _).setCell (p:=⟨w.heap.size,1,none⟩) (by simp) _).setCell (p:=⟨w.heap.size,2,none⟩) (by simp) _

theorem zuP(gz a:Nat)(kq:Option Addr)(kc:Nat)(ks rv:List V3)(w:World)(h0:w.cell? ⟨gz,0,none⟩=some (.slice kq ks.length kc))(h1:w.cell? ⟨gz,1,none⟩=some (.pointer (some ⟨a,0,none⟩)))
  (hk:zah w kq ks)(hkn:ks.length≤1000000)(hks:∀v∈ks,v.2.2.size≤281474976710656)(hrn:rv.length≤1000000)
  (hR:∀W,Below w.heap.size w W→Calls Tryz.prog 209 #[.pointer (some ⟨a,0,none⟩)] W fun e w'=>(∃q c,e=.returned (.tuple #[.slice q rv.length c,.nilIface])∧(q=none→c=0)∧zah w' q rv)∧Below W.heap.size W w') :
  Calls Tryz.prog 180 #[.pointer (some ⟨gz,0,none⟩)] w fun e w'=>(∃u,e=.returned (.agg #[u,.int .i64 0,.int .i64 0])∧Aside (w'.ownsRow w.heap.size 27 3 u (ks++rv).length (zan (ks++rv))))∧Below w.heap.size w w':=by
 have hgl:gz<w.heap.size:=by
  rcases Nat.lt_or_ge gz w.heap.size with h|h
  ·exact h
  ·simp[World.cell?,Array.getElem?_eq_none h] at h0
 have HK:Aside (zah w kq ks):=hk
 have HS:Aside _:=hks
 have H0:Aside _:=h0
 obtain⟨N,hN⟩:∃N,ks.length=N:=⟨_,rfl⟩
 obtain⟨M,hM⟩:∃M,rv.length=M:=⟨_,rfl⟩
 rw[show (ks++rv).length=N+M by rw[List.length_append,hN,hM]]
 have HN:Hid (ks.length=N):=hN
 have HM:Hid (rv.length=M):=hM
 rw[hN] at h0 hkn
 rw[hM] at hR hrn
 clear hk hks hN hM H0
 have b0:Below w.heap.size w (w.alloc (.cells #[.slice none 0 0,.int .i64 0,.int .i64 0] 52)):=alB w _
 have h1':(w.alloc (.cells #[.slice none 0 0,.int .i64 0,.int .i64 0] 52)).cell? ⟨gz,1,none⟩=some (.pointer (some ⟨a,0,none⟩)):=by rw[b0.cell (p:=⟨gz,1,none⟩) hgl];exact h1
 have hR0:=hR _ b0
 clear hR h1
 go_enter Tryz.func180,Tryz.ntmps180
 go_wp2_with fail
 refine hR0.mono ?_
 rintro e w1 ⟨⟨q,c,rfl,hqc,hv⟩,b1⟩
 have B1:Below w.heap.size w w1:=b0.trans (b1.mono b0.size)
 have hs1:=b1.size
 simp at hs1
 have hf:=zgz kq kc ks w1 (by rw[HN.out];exact hkn) (HK.out.on B1) HS.out
 rw[HN.out] at hf
 have hc0:w1.cell? ⟨gz,0,none⟩=some (.slice kq N kc):=by rw[B1.cell (p:=⟨gz,0,none⟩) hgl];exact h0
 have HV:Aside (zah w1 q rv):=hv
 have HQ:Aside (q=none→c=0):=hqc
 have HB1:Aside _:=B1
 have Hb1:Aside _:=b1
 clear hR0 B1 b1 h0 h1' hv hqc
 go_wp2_with fail
 refine hf.mono ?_
 rintro e w2 ⟨⟨u,rfl,OW⟩,b2⟩
 have hs2:=b2.size
 have hown:∀m,u.ownBlock=some m→w1.heap.size≤m:=fun m hm=>(World.ownsRow.lt OW.out m hm).1
 have HO:Aside _:=OW.out
 have B2:Below w.heap.size w w2:=HB1.out.trans (b2.mono HB1.out.size)
 have bb2:=Hb1.out.trans (b2.mono Hb1.out.size)
 have HV2:Aside (zah w2 q rv):=HV.out.on b2
 clear hf b2 OW HV
 obtain⟨k1,k2,hl⟩:=zhh w _ _ bb2 (by simp)
 have f0:w2.cell? ⟨w.heap.size,0,none⟩=some (.slice none 0 0):=k1 0
 have f1:w2.cell? ⟨w.heap.size,1,none⟩=some (.int .i64 0):=k1 1
 have f2:w2.cell? ⟨w.heap.size,2,none⟩=some (.int .i64 0):=k1 2
 obtain⟨i0,hinf,hz0,hzs,hzb⟩:=info_parts zkI
 have hB2:Aside (Below w.heap.size w w2):=B2
 have HS2:Hid (w1.heap.size≤w2.heap.size):=hs2
 have HS1:Hid (w.heap.size+1≤w1.heap.size):=hs1
 have HZ:Aside ((Value.agg #[.int .i64 0,.int .i64 0,.string ⟨#[]⟩]).cells.size=3):=by rfl
 obtain⟨uq,uc,rfl⟩:=zaa HO.out
 clear k1 B2 bb2 hs2 hs1
 cases q with
 | none =>
  obtain rfl:=HQ.out rfl
  have hM0:M=0:=by
   rcases HV2.out with h|⟨b,off,h,_⟩
   ·rw[←HM.out];exact h
   ·cases h
  subst hM0
  have hrv:rv=[]:=List.length_eq_zero_iff.1 HM.out
  subst hrv
  go_wp2_with (at_builtin;refine wpList_append_own_none rfl _ _ 49 rfl w1.heap.size 27 i0 3 Tryz.underlying49 hinf (.slice uq N uc) N _ rfl HO.out rfl ?_)
  refine bodyPost_ret (v:=.agg #[.slice uq N uc,.int .i64 0,.int .i64 0]) (by simp[results,Tryz.results180,go_sem,World.cell?_setCell_other,World.cell?_setCell_same,f0,f1,f2]) rfl ⟨⟨_,rfl,?_⟩,?_⟩
  ·have h:=ownsRow_setCell_below (ownsRow_setCell_below (ownsRow_setCell_below HO.out (a:=⟨w.heap.size,0,none⟩) (by have:=HS1.out;show _<_;simp;omega) (.slice uq N uc)) (a:=⟨w.heap.size,1,none⟩) (by have:=HS1.out;show _<_;simp;omega) (.int .i64 0)) (a:=⟨w.heap.size,2,none⟩) (by have:=HS1.out;show _<_;simp;omega) (.int .i64 0)
   rw[show zan (ks++[])=zan ks by rw[List.append_nil]]
   exact zud h (by have:=HS1.out;omega)
  ·exact ((hB2.out.setCell (p:=⟨w.heap.size,0,none⟩) (Nat.le_refl _) _).setCell (p:=⟨w.heap.size,1,none⟩) (by simp) _).setCell (p:=⟨w.heap.size,2,none⟩) (by simp) _
 | some ad =>
  have hnews:Aside (∀j u,(zan rv)[j]?=some u→w2.cell? (ad.add j)=some u):=by
   rcases HV2.out with h|⟨b,off,h,_,hr⟩
   ·intro j u hu
    rw[List.length_eq_zero_iff.1 h] at hu
    simp[zan] at hu
   ·injection h with h
    subst h
    exact zje hr
  have L:=fun (ops:Array Oper) (rest:List Oper) (o:Oper) (ac:Act) (Q:Exit→Act→World→Prop) hgd s x ho hs hx h=>wpList_append_own (P:=Tryz.prog) (w:=w2) (ops:=ops) (rest:=rest) (o:=o) (a:=ac) (Q:=Q) hgd s x 49 ho w1.heap.size 27 i0 (.agg #[.int .i64 0,.int .i64 0,.string ⟨#[]⟩]) 3 32 Tryz.underlying49 hinf hz0 hzs hzb rfl (by decide) (.slice uq N uc) N _ hs HO.out ad M c (zan rv) hx (by rw[zdJ,HM.out]) hnews.out zgF (by unfold maxLen;omega) (by omega) HS2.out h
  have HL:=(show Aside _ from L)
  clear L hnews
  go_wp2_with (at_builtin;refine HL.out _ _ _ _ _ rfl _ _ rfl rfl rfl ?_)
  intro v' w3 o1 g1 _
  have hsz3:=g1.size
  have B3:Below w.heap.size w w3:=hB2.out.grown g1 (by have:=HS1.out;have:=HS2.out;omega) (fun m hm=>by have:=hown m hm;have:=HS1.out;omega)
  have F:∀i,w3.cell? ⟨w.heap.size,i,none⟩=w2.cell? ⟨w.heap.size,i,none⟩:=fun i=>by
   have hb:w3.heap[w.heap.size]?=w2.heap[w.heap.size]?:=g1.block _ hl (fun h=>by have:=hown _ h.symm;have:=HS1.out;omega)
   simp only[World.cell?,hb]
  have G:∀i,w3.frozen? ⟨w.heap.size,i,none⟩=w2.frozen? ⟨w.heap.size,i,none⟩:=fun i=>by
   have hb:w3.heap[w.heap.size]?=w2.heap[w.heap.size]?:=g1.block _ hl (fun h=>by have:=hown _ h.symm;have:=HS1.out;omega)
   simp only[World.frozen?,hb]
  have f0':=(F 0).trans f0
  have f1':=(F 1).trans f1
  have f2':=(F 2).trans f2
  have k2':∀o,w3.frozen? ⟨w.heap.size,o,none⟩=false:=fun o=>(G o).trans (k2 o)
  have O6:Aside (w3.ownsRow w1.heap.size 27 3 v' (N+M) (zan (ks++rv))):=by rw[zbx];exact o1
  have HB3:Aside _:=B3
  have hl3:w.heap.size<w3.heap.size:=Nat.lt_of_lt_of_le hl hsz3
  obtain⟨vq,vc,rfl⟩:=zaa O6.out
  clear f0 f1 f2 k2 F G o1 g1 HL B3
  go_wp2
  refine bodyPost_ret (v:=.agg #[.slice vq (N+M) vc,.int .i64 0,.int .i64 0]) (by simp[results,Tryz.results180,go_sem,World.cell?_setCell_other,World.cell?_setCell_same,f0',f1',f2']) rfl ⟨⟨_,rfl,?_⟩,?_⟩
  ·have h:=ownsRow_setCell_below (ownsRow_setCell_below (ownsRow_setCell_below O6.out (a:=⟨w.heap.size,0,none⟩) (by have:=HS1.out;show _<_;simp;omega) (.slice vq (N+M) vc)) (a:=⟨w.heap.size,1,none⟩) (by have:=HS1.out;show _<_;simp;omega) (.int .i64 0)) (a:=⟨w.heap.size,2,none⟩) (by have:=HS1.out;show _<_;simp;omega) (.int .i64 0)
   exact zud h (by have:=HS1.out;omega)
  ·exact ((HB3.out.setCell (p:=⟨w.heap.size,0,none⟩) (Nat.le_refl _) _).setCell (p:=⟨w.heap.size,1,none⟩) (by simp) _).setCell (p:=⟨w.heap.size,2,none⟩) (by simp) _
theorem zdI{P:Program}{ops:Array Oper}{o:Oper}{a:Act}{w:World}{K:Act→World→Prop}{Q:Exit→Act→World→Prop}{E:Prop}
  (hg:o.guard=none)(s x:Operand)(sT xT:TypeId)(hop:o.op=Op.call { callee:=Callee.builtin Builtin.append,args:=#[s,x],argTypes:=#[sT,xT] })
  (v u:Value)(hd:a.eval s=v)(hx:a.eval x=u){v':Value}{w':World}(hr:(Builtin.append_ #[sT,xT] o.type #[v,u]).run P w=.ok v' w')(hK:K (a.put o.dst v') w') :
  if Region.wanted o (yielded ops a.tmps)=true then Oper.wp P o a w K Q else E:=by
 have hw:Region.wanted o (yielded ops a.tmps)=true:=by simp[Region.wanted,hg]
 rw[if_pos hw]
 unfold Oper.wp
 simp[execOp,hop,resolve,invoke,builtin,hd,hx,hr,Result.andThen]
 exact hK

theorem zfX{P:Program}(w:World)(t e ty:TypeId)(z:Value)(ht:P.underlying t=some (.slice e))(hv:∀w,(zeroValue e).run P w=.ok z w)(hz:z.cells=#[z])(h1:z.oneCell'=true)(g o n c:Nat)(cur:Array Value)(t':TypeId)(hg:w.heap[g]?=some (.cells cur t' (0,0)))(hn:0<n)(hfit:o+n≤cur.size) :
  (Builtin.clear_ #[t] ty #[.slice (some ⟨g,o,none⟩) n c]).run P w=.ok (.tuple #[])(w.setRow g (cur.toList.take o++List.replicate n z++cur.toList.drop (o+n)).toArray):=by
 have hzc:(Builtin.zeroCells z.cells n).toList=List.replicate n z:=by
  rw[hz]
  simp[Builtin.zeroCells]
  apply List.ext_getElem
  ·simp
  ·intro i h1 h2
   simp[Nat.mod_one]
 have hst:=run_storeCells_at P g o t' (List.replicate n z) 0 cur w hg (by simpa using hfit) (by intro v hv';rw[List.eq_of_mem_replicate hv'];exact h1)
 simp only[Nat.add_zero,List.length_replicate] at hst
 obtain⟨m,rfl⟩:∃m,n=m+1:=⟨n-1,by omega⟩
 simp[Builtin.clear_,run_underlying ht,hv,hzc,hst]

theorem zgQ(a:Option Addr)(n c:Nat)(w:World)(hn:n≤c) :
  Calls Tryz.prog 116 #[.slice a n c,.int .i64 0,.int .i64 0] w fun r w'=>r=.returned (.slice a n c)∧w'=w:=by
 have hn0:(0:Int)≤(n:Int):=by omega
 go_enter Tryz.func116,Tryz.ntmps116
 go_wp2
 all_goals (go_ret;exact⟨rfl,rfl⟩)

theorem zhB(g n c j:Nat)(cur:Array Value)(w:World)(hg:w.heap[g]?=some (.cells cur 152 (0,0)))(hcs:cur.size=c)(hx1:∀x∈cur.toList.take n,x.oneCell'=true)(hj0:0<j)(hj:j≤n)(hn:n≤100000)(hnc:n≤c)(hc:c≤maxLen) :
  Calls Tryz.prog 116 #[.slice (some ⟨g,0,none⟩) n c,.int .i64 0,.int .i64 (j:Int)] w fun r w'=>r=.returned (.slice (some ⟨g,0,none⟩) (n-j) c)∧Hid (w'.heap[g]?=some (.cells (splice (splice cur.toList 0 ((cur.toList.take n).drop j)) (n-j) (List.replicate j (Value.pointer none))).toArray 152 (0,0)))∧Kp (·=g) w w':=by
 unfold maxLen at hc
 have hnz:(n:Int)≤100000:=by omega
 have hjz:(0:Int)<(j:Int):=by omega
 have hj1:(j:Int)≤(n:Int):=by omega
 have hncz:(n:Int)≤(c:Int):=by omega
 have hjcz:(j:Int)≤(c:Int):=by omega
 have hne0:¬((0:Int)=(j:Int)):=by omega
 obtain⟨L,hL⟩:∃L,cur.toList=L:=⟨_,rfl⟩
 have hgL:w.heap[g]?=some (.cells L.toArray 152 (0,0)):=by rw[hg,←hL]
 have hLc:L.length=c:=by rw[←hL,Array.length_toList,hcs]
 obtain⟨XD,hXD⟩:∃XD,(L.take n).drop j=XD:=⟨_,rfl⟩
 have hXl:XD.length=n-j:=by rw[←hXD,List.length_drop,List.length_take];omega
 obtain⟨i0,hinf,hz0,hzs,hzb⟩:=info_parts zka
 have hsz:i0.size=1:=hzs
 rw[hL,hXD]
 obtain⟨ad,had,hsrc⟩:∃ad:Addr,(if c=j then some (⟨g,0,none⟩:Addr) else some ⟨g,j,none⟩)=some ad∧Hid (∀t u,XD[t]?=some u→w.drew.cell? (ad.add t)=some u):=by
  by_cases h:c=j
  ·refine⟨⟨g,0,none⟩,by simp[h],fun t u hu=>?_⟩
   have h0:XD.length=0:=by rw[hXl];omega
   rw[List.length_eq_zero_iff.1 h0] at hu
   simp at hu
  ·refine⟨⟨g,j,none⟩,by simp[h],fun t u hu=>?_⟩
   have ht:t<n-j:=by
    have:=(List.getElem?_eq_some_iff.1 hu).1
    rwa [hXl] at this
   rw[←hXD,List.getElem?_drop,List.getElem?_take_of_lt (by omega)] at hu
   rw[Go.WideShapes.add_plain]
   have hd:w.drew.heap[g]?=some (.cells L.toArray 152 (0,0)):=hgL
   simp only[World.cell?,hd]
   simpa using hu
 have hX1:∀u∈XD,u.oneCell'=true:=fun u hu=>by
  rw[←hXD] at hu
  exact hx1 u (by rw[hL];exact List.mem_of_mem_drop hu)
 have hgd:w.drew.heap[g]?=some (.cells L.toArray 152 (0,0)):=hgL
 have hap:∀ty mc,(Builtin.append_ #[108,108] ty #[.slice (some ⟨g,0,none⟩) 0 c,.slice (some ad) (n-j) mc]).run Tryz.prog w.drew=.ok (.slice (some ⟨g,0,none⟩) (n-j) c) (w.drew.setRow g (splice L 0 XD).toArray):=fun ty mc=>by
  have h:=run_append_room (P:=Tryz.prog) w.drew _ ty _ i0 Tryz.underlying108 hinf g 0 c L.toArray hgd ad (n-j) mc XD (by rw[hsz,hXl];omega) hsrc.out hX1 (by omega) (by rw[hXl,List.size_toArray,hLc];omega)
  simpa [splice] using h
 obtain⟨R1,hR1⟩:∃R1,splice L 0 XD=R1:=⟨_,rfl⟩
 have hR1l:R1.length=c:=by rw[←hR1,length_splice _ _ _ (by rw[hXl,hLc];omega),hLc]
 rw[hR1] at hap
 obtain⟨W1,hW1⟩:∃W1,w.drew.setRow g R1.toArray=W1:=⟨_,rfl⟩
 rw[hW1] at hap
 have HW1:Hid (W1.heap[g]?=some (.cells R1.toArray 152 (0,0))):=by
  show _=_
  rw[←hW1]
  exact setRow_heap w.drew g _ _ _ _ hgd
 have HB1:Aside (Kp (·=g) w W1):=by
  rw[←hW1]
  exact zbE (S:=fun x=>x=g) (Kp.refl _ w).drew rfl _
 have hcl:∀ty cc,(Builtin.clear_ #[108] ty #[.slice (some ⟨g,n-j,none⟩) (n-(n-j)) cc]).run Tryz.prog W1=.ok (.tuple #[]) (W1.setRow g (splice R1 (n-j) (List.replicate j (Value.pointer none))).toArray):=fun ty cc=>by
  have h:=zfX (P:=Tryz.prog) W1 _ _ ty (Value.pointer none) Tryz.underlying108 (fun w=>by kernel_rfl) (by kernel_rfl) rfl g (n-j) (n-(n-j)) cc R1.toArray _ HW1.out (by omega) (by rw[List.size_toArray,hR1l];omega)
  have hk:n-(n-j)=j:=by omega
  rw[hk] at h ⊢
  simpa [splice] using h
 obtain⟨W2,hW2⟩:∃W2,W1.setRow g (splice R1 (n-j) (List.replicate j (Value.pointer none))).toArray=W2:=⟨_,rfl⟩
 rw[hW2] at hcl
 have HW2:Hid (W2.heap[g]?=some (.cells (splice R1 (n-j) (List.replicate j (Value.pointer none))).toArray 152 (0,0))):=by
  show _=_
  rw[←hW2]
  exact setRow_heap W1 g _ _ _ _ HW1.out
 have HB2:Aside (Kp (·=g) w W2):=by
  rw[←hW2]
  exact zbE (S:=fun x=>x=g) HB1.out rfl _
 have hb1:(0:Int)≤(n:Int):=by omega
 have hb2:((n-j:Nat):Int)≤(n:Int):=by omega
 have hb3:¬(c=n-j):=by omega
 have hb4:(0:Int)≤((n-j:Nat):Int):=by omega
 have hb5:(0:Int)≤(c:Int):=by omega
 have mixed:Tryz.prog.follows .mixedOrders=true:=by kernel_rfl
 rw[hR1]
 clear hW1 hW2 HW1 HB1 hR1 hR1l hsrc hX1 hXD hXl hL hgL hgd hg hcs hx1 hLc hinf hz0 hzs hzb hsz
 go_enter Tryz.func116,Tryz.ntmps116
 go_wp2_with fail
 go_region_law_o (refine zdI rfl _ _ 108 108 rfl _ _ (by simp[Act.eval,Act.put]) (by simp[Act.eval,Act.put,had]) (hap _ (c-j)) ?_)
 go_wp2
 go_ret
 exact⟨rfl,HW2,HB2.out⟩
theorem zur(sb:Nat)(a:Option Addr)(c:Nat)(w:World)(hs:w.cell? ⟨sb,1,none⟩=some (.slice a 0 c)) :
  Calls Tryz.prog 150 #[.pointer (some ⟨sb,0,none⟩)] w fun e w'=>e=.returned (.slice none 0 0)∧Below w.heap.size w w':=by
 go_enter Tryz.func150,Tryz.ntmps150
 go_wp2
 go_loopg [3,5,6,12] 0 (fun gg s3 _ _ s12 wr=>s12=.int .i64 0∧s3=.slice none 0 0∧Aside (Below w.heap.size w wr))
 case atStart=>exact⟨rfl,rfl,(show Aside _ from Below.refl _ _)⟩
 case round =>
  obtain⟨rfl,rfl,BJ⟩:=hrel
  go_wp2
  go_ret
  exact⟨rfl,BJ.out⟩
theorem zul{W:World}{B:Nat}{q:Option Addr}{n c:Nat}{vs:List V3}(h:W.ownsRow B 27 3 (.slice q n c) n (zan vs)):n=0∨∃b off,q=some ⟨b,off,none⟩∧B≤b:=by
 rcases h.2 with ⟨_,h0⟩|⟨g,cap,cur,e,hb,_⟩
 ·exact .inl h0
 ·injection e with e _ _
  exact .inr ⟨g,0,e,hb⟩
theorem zuJ{w:World}{base:Nat}{ps0:List Pt}{g:Gm}(h:GmAt w base ps0 g)(het:EtAt w)(hp:ps0.length≤1000)(hk:g.key.length≤1000)(hks:∀v∈g.key,v.2.2.size≤40)(fr:Int) :
  Calls Tryz.prog 180 #[.pointer (some ⟨g.z,0,none⟩)] w fun e w'=>(∃rq rc,e=.returned (.agg #[.slice rq (gOt ps0 fr g.pl).1.length rc,.int .i64 (gOt ps0 fr g.pl).2.1,.int .i64 0])∧Aside (zah w' rq (gOt ps0 fr g.pl).1∧((gOt ps0 fr g.pl).1.length=0∨∃b off,rq=some ⟨b,off,none⟩∧w.heap.size≤b)))∧Below w.heap.size w w':=by
 obtain⟨⟨kv,h1,h2⟩,⟨ps,a1,a2⟩,-⟩:=h
 have c0:w.cell? ⟨g.z,0,none⟩=some kv:=by rw[h1.cell];rfl
 have c1:w.cell? ⟨g.z,1,none⟩=some (.pointer (some ⟨g.a,0,none⟩)):=by rw[h1.cell];rfl
 obtain⟨t1,t2⟩:=tl_of a2
 have hlen:(reV ps (g.rs.length:Int)).length≤1000000:=by
  have:=a2.al.1
  rw[reV,List.length_map];omega
 by_cases hE:tlE ps0 g.rs=0
 ·have hgo:gOt ps0 fr g.pl=(g.key++tlR ps0 g.rs,0,fr):=by rw[gOt];exact if_pos hE
  rw[hgo]
  obtain⟨kq,kc,rfl⟩:=zaa h2
  have hR:=fun W (hb:Below w.heap.size w W)=>(znB g.a g.v _ ps W (a1.on hb) a2.ok (by rw[t1];exact hE)).mono (R':=fun e w'=>(∃q c,e=.returned (.tuple #[.slice q (tlR ps0 g.rs).length c,.nilIface])∧(q=none→c=0)∧zah w' q (tlR ps0 g.rs))∧Below W.heap.size W w') fun e w' hh=>by
   obtain⟨⟨q,c,e1,e2,e3⟩,e4⟩:=hh
   rw[t2] at e1 e2
   exact⟨⟨q,c,e1,e3.out,e2.out⟩,e4.out⟩
  refine (zuP g.z g.a kq kc g.key (tlR ps0 g.rs) w c0 c1 (zev rfl h2) (by omega) (fun v hv=>by have:=hks v hv;omega) (by rw[←t2];exact hlen) hR).mono ?_
  rintro e w' ⟨⟨u,rfl,HU⟩,hB⟩
  obtain⟨rq,rc,rfl⟩:=zaa HU.out
  refine⟨⟨rq,rc,rfl,(show Aside _ from ⟨zev rfl HU.out,?_⟩)⟩,hB⟩
  exact zul HU.out
 ·have hgo:gOt ps0 fr g.pl=([],tlE ps0 g.rs,fr):=by rw[gOt];exact if_neg hE
  rw[hgo]
  have hR:=fun W (hb:Below w.heap.size w W)=>(zlX g.a g.v _ ps W (a1.on hb) a2.ok (tlE ps0 g.rs) t1 hE).mono (R':=fun e w'=>e=.returned (.tuple #[.slice none 0 0,.iface 35 (.int .i64 (tlE ps0 g.rs))])∧Below W.heap.size W w') fun e w' hh=>⟨hh.1,hh.2.out⟩
  refine (zsY g.z g.a (tlE ps0 g.rs) kv w het c0 c1 hR).mono ?_
  rintro e w' ⟨rfl,hB⟩
  exact⟨⟨none,0,rfl,(show Aside _ from ⟨.inl rfl,.inl rfl⟩)⟩,hB⟩
theorem zsK{w:World}{base:Nat}{ps0:List Pt}{x:Wm}(h:WmAt w base ps0 x)(het:EtAt w)(hp:ps0.length≤1000)(hn:x.gs.length≤1000)(hk:∀g∈x.gs,g.key.length≤1000∧∀v∈g.key,v.2.2.size≤40) :
  Calls Tryz.prog 150 #[.pointer (some ⟨x.z,0,none⟩)] w fun e w'=>(∃u,e=.returned u∧Aside (OutsF w.heap.size w' u (wOt ps0 x.pl)))∧Below w.heap.size w w':=by
 have hc0:w.cell? ⟨x.z,0,none⟩=some (.int .i64 x.fr):=by rw[h.blk.cell];rfl
 have hc1:w.cell? ⟨x.z,1,none⟩=some x.gv:=by rw[h.blk.cell];rfl
 by_cases h0:x.gs.length=0
 ·obtain⟨q,c,hq⟩:=zaa h.row
  rw[hq,h0] at hc1
  have e0:x.gs=[]:=List.length_eq_zero_iff.1 h0
  refine (zur x.z q c w hc1).mono ?_
  rintro e w' ⟨rfl,hB⟩
  exact⟨⟨_,rfl,(show Aside _ from by rw[wOt,Wm.pl,e0];exact OutsF.nil _ _)⟩,hB⟩
 ·obtain⟨n,hn'⟩:∃n,x.gs.length=n+1:=⟨x.gs.length-1,by omega⟩
  have hrow:=h.row
  rw[hn'] at hrow
  obtain⟨g,cap,hg⟩:=zdQ hrow
  rw[←hn'] at hg hrow
  rw[hg] at hc1 hrow
  have hgl:=(zdW hrow g rfl).2
  have:=zuV x.z g x.gs.length cap x.fr (fun j=>(x.gs.getD j dgm).z) (fun j=>(gOt ps0 x.fr (x.gs.getD j dgm).pl).1) (fun j=>(gOt ps0 x.fr (x.gs.getD j dgm).pl).2.1) w hc0 hc1 hn hgl (fun j hj=>by
   have:=World.ownsRow.cells hrow (g:=g) rfl j (x.gs.getD j dgm).p (by rw[List.getElem?_map,List.getElem?_eq_getElem hj,zbq hj];rfl)
   rw[Go.WideShapes.add_plain,Nat.zero_add] at this
   exact this) (fun j hj W hb=>zuJ ((h.gp _ (zbt hj)).on hb) (het.on hb) hp (hk _ (zbt hj)).1 (hk _ (zbt hj)).2 x.fr)
  have hl:(List.range x.gs.length).map (fun j=>((gOt ps0 x.fr (x.gs.getD j dgm).pl).1,(gOt ps0 x.fr (x.gs.getD j dgm).pl).2.1,x.fr))=wOt ps0 x.pl:=by
   rw[wOt,Wm.pl]
   refine List.ext_getElem (by simp) fun j h1 h2=>?_
   simp only[List.getElem_map,List.getElem_range]
   have hj:j<x.gs.length:=by simpa using h1
   rw[zbq hj,gOt]
   split<;>rfl
  rw[hl] at this
  exact this
theorem zjB(base:Nat)(q:Option Addr)(n c j:Nat)(xs:List Value)(w:World)(hown:w.ownsRow base 152 1 (.slice q n c) n xs)(hx1:∀x∈xs,x.oneCell'=true)(hj:j≤n)(hn:n≤100000) :
  Calls Tryz.prog 116 #[.slice q n c,.int .i64 0,.int .i64 (j:Int)] w fun r w'=>r=.returned (.slice q (n-j) c)∧Aside (w'.ownsRow base 152 1 (.slice q (n-j) c) (n-j) (xs.drop j))∧Aside (Kp (fun k=>(Value.slice q n c).ownBlock=some k) w w'):=by
 by_cases h0:j=0
 ·subst h0
  have hc:n≤c:=by
   rcases hown.2 with ⟨e1,h0⟩|⟨g,cap,cur,e1,hb,hg,hnc,-⟩
   ·omega
   ·injection e1 with _ _ e3;omega
  refine (zgQ q n c w hc).mono ?_
  rintro r w' ⟨rfl,rfl⟩
  have ho:w'.ownsRow base 152 1 (.slice q (n-0) c) (n-0) (xs.drop 0):=by simpa using hown
  exact⟨rfl,(show Aside _ from ho),(show Aside _ from Kp.refl _ _)⟩
 ·rcases hown.2 with ⟨e1,h0⟩|⟨g,cap,cur,e1,hb,hg,hnc,hm,hcs,htk⟩
  ·omega
  injection e1 with e1 _ e3
  subst e1
  subst e3
  simp only[Nat.mul_one] at hcs htk
  refine (zhB g n c j cur w hg hcs (fun x hx=>hx1 x (by rw[←htk];exact hx)) (by omega) hj hn hnc hm).mono ?_
  rintro r w' ⟨rfl,ho,hk⟩
  have hL:cur.toList.length=c:=by rw[Array.length_toList,hcs]
  obtain⟨d1,d2⟩:=zqT (r:=List.replicate j (Value.pointer none)) hL htk hnc hj (by simp)
  refine⟨rfl,(show Aside _ from ⟨by have:=hown.1;simp;omega,.inr ⟨g,c,_,rfl,hb,ho.out,by omega,hm,?_,?_⟩⟩),(show Aside _ from hk.mono (fun k _ hs=>by rw[show k=g from hs];rfl))⟩
  ·simp only[List.size_toArray]
   rw[d2];omega
  ·rw[Nat.mul_one]
   exact d1
theorem GrAt.del{w w5:World}{base:Nat}{ps0:List Pt}{gb:Nat}{s:Gs}{last:Int}{ov ov':Value}{xs:List Wm}(h:GrAt w base ps0 gb s last ov xs)(j:Nat)(hj:j≤xs.length)(hk:Kp (fun k=>ov.ownBlock=some k) w w5)(hrow:w5.ownsRow base 152 1 ov' (xs.length-j) ((xs.map Wm.p).drop j))(hb:ov'.ownBlock=ov.ownBlock) :
  GrAt (w5.setCell ⟨gb,16,none⟩ ov') base ps0 gb s last ov' (xs.drop j)∧Kp (GrS gb ov xs) w (w5.setCell ⟨gb,16,none⟩ ov')∧(∀k,GrS gb ov' (xs.drop j) k→GrS gb ov xs k):=by
 obtain⟨C,c1,c2⟩:=h.blk
 have hog:ov.ownBlock≠some gb:=fun e=>by
  rcases h.row.2 with ⟨e1,-⟩|⟨g,cap,cur,e1,-,hg,-⟩
  ·rw[e1] at e;simp[Value.ownBlock] at e
  ·rw[e1] at e
   have e:g=gb:=by simpa [Value.ownBlock] using e
   subst e
   exact zfq (show Blk w g cur _ from hg) c1 (by decide) rfl
 have K:Kp (fun k=>k=gb∨ov.ownBlock=some k) w (w5.setCell ⟨gb,16,none⟩ ov'):=(hk.mono (fun _ _ h=>.inr h)).set 16 _ (fun _=>.inl rfl)
 have hM:MutS w (fun k=>k=gb∨ov.ownBlock=some k):=(MutS.one c1 (by decide)).or (zdG h.row (by decide))
 refine⟨⟨⟨_,(c1.kp hk hog).set 16 _,c2.opens⟩,?_,fun y hy=>?_,?_,h.lt⟩,K.mono fun k _ hk=>?_,fun k hk=>?_⟩
 ·rw[List.length_drop,List.map_drop]
  exact ownsRow_setCell_other hrow (a:=⟨gb,16,none⟩) (by rw[hb];exact hog) ov'
 ·have hy:=List.mem_of_mem_drop hy
  refine (h.wm y hy).kp K hM (fun k k1 k2=>?_)
  rcases k2 with rfl|k2
  ·exact (h.wm y hy).notblk c1 (by decide) k1
  ·exact (h.wm y hy).notown h.row (by decide) k2 k1
 ·exact h.dj.sublist (List.drop_sublist j xs)
 ·rcases hk with hk|hk
  ·exact .inl hk
  ·exact .inr (.inl hk)
 ·rcases hk with hk|hk|⟨x,hx,hk⟩
  ·exact .inl hk
  ·exact .inr (.inl (by rw[←hb];exact hk))
  ·exact .inr (.inr ⟨x,List.mem_of_mem_drop hx,hk⟩)
theorem zrb:(Tryz.prog.info? 97).map (·.size)=some 9:=by kernel_rfl
theorem ld_sv{W:World}{b:Nat}{s:Gs}{last:Int}{ov:Value}{C:Array Value}(hb:Blk W b C 110)(hC:GrC s last ov C) :
  ∀{ops:Array Oper}{rest:List Oper}{op:Oper}{a:Act}{Q:Exit→Act→World→Prop}(hgd:op.guard=none)(x:Operand)(ho:op.op=.load 97 x)(hx:a.eval x=.pointer (some ⟨b,0,none⟩)),wpList Tryz.prog ops Q rest (a.put op.dst (.agg s.SC)) W→wpList Tryz.prog ops Q (op::rest) a W :=
 fun hgd x ho hx h=>zal hgd 97 x ho b 0 hx C _ hb s.SC.toList (fun j v hv=>by rw[Nat.zero_add];exact hC.sv.2 j v (by simpa using hv)) _ Tryz.underlying97 rfl (by rw[Array.length_toList,hC.sv.1];exact zrb) h
theorem GrAt.kps{w w' w'':World}{base:Nat}{gb:Nat}{ov ov':Value}{xs xs':List Wm}(k1:Kp (GrS gb ov xs) w w')(k2:Kp (GrS gb ov' xs') w' w'')(hf:∀k,GrS gb ov' xs' k→GrS gb ov xs k∨w.heap.size≤k):Kp (GrS gb ov xs) w w'' :=
 ⟨k1.low.trans k2.low,fun k hk hn=>by rw[k2.kept k (by have:=k1.size;omega) (fun h=>(hf k h).elim hn (fun h=>by omega)),k1.kept k hk hn]⟩
def zbj(w w':World)(base:Nat)(ps0:List Pt)(gb:Nat)(s:Gs)(last:Int)(ov:Value)(xs:List Wm)(l:List PW):Prop:=∃ov' xs',GrAt w' base ps0 gb s last ov' xs'∧xs'.map Wm.pl=l∧Kp (GrS gb ov xs) w w'∧(∀k,GrS gb ov' xs' k→GrS gb ov xs k∨w.heap.size≤k)
theorem zbj.same{w w':World}{base:Nat}{ps0:List Pt}{gb:Nat}{s:Gs}{last:Int}{ov:Value}{xs:List Wm}(h:GrAt w base ps0 gb s last ov xs)(hb:Below w.heap.size w w'):zbj w w' base ps0 gb s last ov xs (xs.map Wm.pl) :=
 ⟨ov,xs,h.on hb,rfl,Kp.of_below hb,fun k hk=>.inl hk⟩
theorem zbj.step{w wr w5:World}{base:Nat}{ps0:List Pt}{gb:Nat}{s:Gs}{last:Int}{ov ov':Value}{xs xs':List Wm}{l:List PW}(hk:Kp (GrS gb ov xs) w wr)(hf:∀k,GrS gb ov' xs' k→GrS gb ov xs k∨w.heap.size≤k)
  (h:∃ov2 xs2,GrAt w5 base ps0 gb s last ov2 xs2∧xs2.map Wm.pl=l∧Kp (GrS gb ov' xs') wr w5∧(∀k,GrS gb ov2 xs2 k→GrS gb ov' xs' k∨wr.heap.size≤k)):zbj w w5 base ps0 gb s last ov xs l:=by
 obtain⟨ov2,xs2,h1,h2,h3,h4⟩:=h
 refine⟨ov2,xs2,h1,h2,GrAt.kps (base:=base) hk h3 hf,fun k hk2=>?_⟩
 rcases h4 k hk2 with h|h
 ·exact hf k h
 ·exact .inr (by have:=hk.size;omega)
theorem zbj.behind{w w4 w5:World}{base:Nat}{ps0:List Pt}{gb:Nat}{s:Gs}{last:Int}{ov:Value}{xs:List Wm}{l:List PW}(hb:Below w.heap.size w w4)(h:zbj w4 w5 base ps0 gb s last ov xs l):zbj w w5 base ps0 gb s last ov xs l:=by
 obtain⟨ov2,xs2,h1,h2,h3,h4⟩:=h
 have:=hb.size
 refine⟨ov2,xs2,h1,h2,(Kp.of_below hb).trans h3,fun k hk=>(h4 k hk).imp id (fun h=>by omega)⟩
theorem zkL{w w4 wr:World}{gb:Nat}{ov ov':Value}{xs xs':List Wm}{q:Option Addr}{l:List V3}(hS:∀k,GrS gb ov xs k→k<w.heap.size)(hv:zah w4 q l)(hn:l.length=0∨∃b off,q=some ⟨b,off,none⟩∧w.heap.size≤b)(hk:Kp (GrS gb ov xs) w4 wr)(hf:∀k,GrS gb ov' xs' k→GrS gb ov xs k∨w4.heap.size≤k):zah wr q l∧(l.length=0∨∀b o,q=some ⟨b,o,none⟩→¬GrS gb ov' xs' b):=by
 have h1:l.length=0∨∀b o,q=some ⟨b,o,none⟩→¬GrS gb ov xs b:=by
  rcases hn with h|⟨b,off,e,hb⟩
  ·exact .inl h
  ·refine .inr fun b' o' e' hs=>?_
   rw[e] at e'
   injection e' with e'
   injection e' with e' _
   subst e'
   have:=hS b hs
   omega
 refine⟨zek hv hk h1,?_⟩
 rcases h1 with h|h
 ·exact .inl h
 ·rcases hv with h0|⟨b,off,e,hlb,-⟩
  ·exact .inl h0
  ·refine .inr fun b' o' e' hs=>?_
   rw[e] at e'
   injection e' with e'
   injection e' with e' _
   subst e'
   rcases hf b hs with h2|h2
   ·exact h b off e h2
   ·omega
theorem zqg{w W1:World}{S0:Nat→Prop}{base:Nat}{ps0:List Pt}{gb:Nat}{s:Gs}{last:Int}{ov:Value}{xs:List Wm}(h:GrAt w base ps0 gb s last ov xs)(hb1:Bts S0 gb W1 w)(hbase:base=W1.heap.size){kt:List Int}{c:Nat}(hW:WOk kt c (xs.map Wm.pl))(u:Value)(fs:List Int)(hu:IntA w u fs)(hun:∀k,u.ownBlock=some k→¬GrS gb ov xs k)(hfl:fs.length≤10)(hc:c+11≤10000)(hm:kt.length≤1000)(a b:Int)(hab:b-a+1≤1000)(hxr:∀x∈xs.map Wm.pl,a≤x.1∧x.1≤b)(hfr:∀f∈fs,a≤f∧f≤b)(hfd:fs.Nodup)
  (rq:Option Addr)(rc:Nat)(rs:List V3)(hr:zah w rq rs)(hrd:rs.length=0∨∀b o,rq=some ⟨b,o,none⟩→¬GrS gb ov xs b)(hrl:rs.length≤1000)(p:Option Addr)(pc:Nat)(ns:List Nat)(hp:s.pv=.slice p ns.length pc)(hnl:ns.length≤1000)(hPl:∀W,Bts S0 gb W1 W→zbk W p ns)(hi:∀i∈ns,i<rs.length)(hkey:OkK kt (keyP rs ns))
  (T:List V3)(P:Bool)(E:Int)(hT:∀W,Bts S0 gb W1 W→zah W rq rs→Calls Tryz.prog 71 #[.agg s.SC,.slice rq rs.length rc] W fun e w'=>(∃u,e=.returned (.tuple #[u,.bool P,errV E])∧Aside (FrV W.heap.size w' u T))∧Below W.heap.size W w')
  (hTo:E=0→P=true→zbK T∧T.length≤maxLen∧adE ps0 T=0)
  (hN:∀W,Bts S0 gb W1 W→Calls Tryz.prog 200 #[s.av,s.tv] W fun e w'=>∃a v,e=.returned (.tuple #[.pointer (some ⟨a,0,none⟩),.nilIface])∧Aside (AcAt w' a v ps0 []∧(∀k,accS a v k→W.heap.size≤k))∧Below W.heap.size W w') :
  Calls Tryz.prog 112 #[.pointer (some ⟨gb,0,none⟩),u,.slice rq rs.length rc] w fun e w'=>e=.returned (errV (adW fs (T,P,E) (keyP rs ns) (xs.map Wm.pl)).2)∧Aside (zbj w w' base ps0 gb s last ov xs (adW fs (T,P,E) (keyP rs ns) (xs.map Wm.pl)).1):=by
 have hlt:=h.lt
 have hgl:gb<w.heap.size:=by have:=hb1.size;omega
 have bA:=alB w (.cells #[.pointer (some ⟨gb,0,none⟩)] 102)
 have butOn:∀W,Below w.heap.size w W→Bts S0 gb W1 W:=fun W hb=>hb1.on hb
 have cT:=hT _ (butOn _ bA) (hr.on bA)
 have hGB:∀W,Below (w.heap.size+1) (w.alloc (.cells #[.pointer (some ⟨gb,0,none⟩)] 102)) W→W.cell? ⟨w.heap.size,0,none⟩=some (.pointer (some ⟨gb,0,none⟩))∧Below w.heap.size w W:=fun W hb=>⟨by rw[hb.cell (p:=⟨w.heap.size,0,none⟩) (by show w.heap.size<_;omega)];simp,bA.trans (hb.mono (by omega))⟩
 obtain⟨C,hC1,hC2⟩:=(h.on bA).blk
 have hld:=@ld_sv _ _ _ _ _ _ hC1 hC2
 have HBASE:Hid (base=W1.heap.size):=hbase
 have hbw:base≤w.heap.size:=by have:=hb1.size;omega
 have H:Aside _:=h
 have HB1:Aside _:=hb1
 have HW:Aside (WOk kt c (xs.map Wm.pl)):=hW
 have HU:Aside (IntA w u fs∧∀k,u.ownBlock=some k→¬GrS gb ov xs k):=⟨hu,hun⟩
 have HX:Aside ((∀x∈xs.map Wm.pl,a≤x.1∧x.1≤b)∧(∀f∈fs,a≤f∧f≤b)∧fs.Nodup):=⟨hxr,hfr,hfd⟩
 have HR:Aside (zah w rq rs∧(rs.length=0∨∀b o,rq=some ⟨b,o,none⟩→¬GrS gb ov xs b)):=⟨hr,hrd⟩
 have HPL:Aside _:=hPl
 have HI:Aside _:=hi
 have HKEY:Aside (OkK kt (keyP rs ns)):=hkey
 have HTO:Aside _:=hTo
 have HN:Aside _:=hN
 have HBO:Aside _:=butOn
 have HPV:Hid (s.pv=.slice p ns.length pc):=hp
 have HNL:Hid (ns.length≤1000∧rs.length≤1000∧kt.length≤1000):=⟨hnl,hrl,hm⟩
 obtain⟨RS,hRS⟩:∃RS,rs.length=RS:=⟨_,rfl⟩
 have HRS:Hid (rs.length=RS):=hRS
 rw[hRS] at cT ⊢
 clear hbase
 clear h hb1 hW hu hun hxr hfr hfd hr hrd hPl hi hkey hTo hN hT butOn hp hRS hC1 hC2 hnl hrl hm
 by_cases hE:E=0
 ·subst hE
  cases P
  ·rw[show adW fs (T,false,0) (keyP rs ns) (xs.map Wm.pl)=(xs.map Wm.pl,0) from by rw[adW,if_neg (by simp),if_pos rfl]]
   rw[show errV 0=.nilIface from rfl] at cT ⊢
   go_enter Tryz.func112,Tryz.ntmps112
   go_wp2_with (refine hld rfl _ rfl rfl ?_)
   go_wp2_with fail
   refine cT.mono ?_
   rintro e w1 ⟨⟨v,rfl,HF⟩,b1⟩
   obtain⟨g1,B1⟩:=hGB w1 (b1.mono (by simp))
   have HB2:Aside (Below w.heap.size w w1):=B1
   clear cT hld b1 B1
   go_wp2
   go_ret
   exact⟨rfl,(show Aside _ from zbj.same H.out HB2.out)⟩
  ·rw[show errV 0=.nilIface from rfl] at cT
   obtain⟨FUL,hFUL⟩:∃FUL,fs.any (wFull (keyP rs ns) (xs.map Wm.pl))=FUL:=⟨_,rfl⟩
   have HFUL:Hid (fs.any (wFull (keyP rs ns) (xs.map Wm.pl))=FUL):=hFUL
   have had:adW fs (T,true,0) (keyP rs ns) (xs.map Wm.pl)=if FUL=true then (xs.map Wm.pl,4) else (adL (keyP rs ns) T fs (xs.map Wm.pl),0):=by
    rw[adW,if_neg (by simp),if_neg (by simp),hFUL]
   rw[had]
   clear had hFUL
   go_enter Tryz.func112,Tryz.ntmps112
   go_wp2_with (refine hld rfl _ rfl rfl ?_)
   go_wp2_with fail
   refine cT.mono ?_
   rintro e w1 ⟨⟨v,rfl,HF⟩,b1⟩
   obtain⟨g1,B1⟩:=hGB w1 (b1.mono (by simp))
   have hsz1:=B1.size
   have hsz1b:w.heap.size+1≤w1.heap.size:=by have:=b1.size;simpa using this
   obtain⟨tq,tc,hv0,hT1,hT2⟩:=HF.out
   subst hv0
   have HTV:Aside (zah w1 tq T∧(T.length=0∨∃b off,tq=some ⟨b,off,none⟩∧(w.alloc (.cells #[.pointer (some ⟨gb,0,none⟩)] 102)).heap.size≤b)):=⟨hT1,hT2⟩
   have hc10:w1.cell? ⟨gb,10,none⟩=some (.slice p ns.length pc):=by
    obtain⟨C,hC1,hC2⟩:=(H.out.on B1).blk
    rw[hC1.cell,hC2.c10,HPV.out]
   have cK:=key_s gb p rq pc rc ns rs w1 hc10 (by have:=HNL.out.1;omega) (by have:=HNL.out.2.1;omega) (HPL.out w1 (HBO.out w1 B1)) (HR.out.1.on B1) HI.out
   rw[HRS.out] at cK
   have HB2:Aside (Below w.heap.size w w1):=B1
   clear cT hld b1 B1 hT1 hT2 HF
   obtain⟨TL,hTL⟩:∃TL,T.length=TL:=⟨_,rfl⟩
   have HTL:Hid (T.length=TL):=hTL
   rw[hTL]
   clear hTL
   go_wp2_with fail
   refine cK.mono ?_
   rintro e w2 ⟨⟨kv,rfl,HKV⟩,b2⟩
   obtain⟨kq,kc,rfl⟩:=zaa HKV.out
   have B2:Below w.heap.size w w2:=HB2.out.trans (b2.mono hsz1)
   obtain⟨NL,hNLq⟩:∃NL,ns.length=NL:=⟨_,rfl⟩
   have HNLq:Hid (ns.length=NL):=hNLq
   rw[hNLq]
   have hkl2:(keyP rs ns).length=ns.length:=by rw[keyP,List.length_map]
   have HKL:Hid ((keyP rs ns).length=NL):=by show _=_;rw[hkl2];exact hNLq
   have hsz2:=B2.size
   have hgw2:w2.cell? ⟨w.heap.size,0,none⟩=some (.pointer (some ⟨gb,0,none⟩)):=by rw[b2.cell (p:=⟨w.heap.size,0,none⟩) (show w.heap.size<w1.heap.size by omega)];exact g1
   have hwl2:w.heap.size<w2.heap.size:=by have:=b2.size;omega
   have HKV2:Aside (zah w2 kq (keyP rs ns)):=zev hkl2 HKV.out
   have HKF:Aside (ns.length=0∨∃b off,kq=some ⟨b,off,none⟩∧w1.heap.size≤b):=zul HKV.out
   clear cK hNLq hkl2 HKV
   obtain⟨up,uc,hu0,hu1,hu2,hu3⟩:=HU.out.1
   subst hu0
   obtain⟨FN,hFN⟩:∃FN,fs.length=FN:=⟨_,rfl⟩
   have HFN:Hid (fs.length=FN):=hFN
   rw[hFN] at hfl hu1 ⊢
   have HUC:Aside _:=hu3
   have HUN:Aside (up=none→uc=0):=hu2
   have hfz:(FN:Int)≤10:=by omega
   have hS0:∀k,GrS gb ov xs k→k<w.heap.size:=fun k hk=>by
    rcases H.out.in_ k hk with h|h
    ·omega
    ·exact h.2
   have hnx:xs.length≤1000:=by
    have:=zfr (xs.map Wm.pl) a b HW.out.rise HX.out.1
    rw[List.length_map] at this
    omega
   have b3:=alB w2 (.cells #[.slice kq NL kc] 49)
   have B3:Below w.heap.size w (w2.alloc (.cells #[.slice kq NL kc] 49)):=B2.trans (b3.mono hsz2)
   have hg3:∀W,Below (w2.heap.size+1) (w2.alloc (.cells #[.slice kq NL kc] 49)) W→W.cell? ⟨w.heap.size,0,none⟩=some (.pointer (some ⟨gb,0,none⟩))∧W.cell? ⟨w2.heap.size,0,none⟩=some (.slice kq NL kc):=fun W hb=>by
    refine⟨?_,?_⟩
    ·rw[hb.cell (p:=⟨w.heap.size,0,none⟩) (show w.heap.size<w2.heap.size+1 by omega),b3.cell (p:=⟨w.heap.size,0,none⟩) hwl2];exact hgw2
    ·rw[hb.cell (p:=⟨w2.heap.size,0,none⟩) (show w2.heap.size<w2.heap.size+1 by omega)];simp
   have cC:=zga 144 (fun args W=>by kernel_rfl) #[.pointer (some ⟨w.heap.size,0,none⟩),.pointer (some ⟨w2.heap.size,0,none⟩)] _ fs (wFull (keyP rs ns) (xs.map Wm.pl)) _ (HU.out.1.on B3) (fun t _ W hb=>by
    have hb':Below (w2.heap.size+1) (w2.alloc (.cells #[.slice kq NL kc] 49)) W:=by simpa using hb
    obtain⟨q1,q2⟩:=hg3 W hb'
    have:=zqA ((H.out.on B3).on hb) HW.out hnx HNL.out.2.2 t w.heap.size w2.heap.size kq kc (keyP rs ns) HKEY.out ((HKV2.out.on b3).on hb) q1 (by rw[HKL.out];exact q2)
    exact this)
   rw[HFUL.out,hFN] at cC
   have HB3:Aside (Below w.heap.size w (w2.alloc (.cells #[.slice kq NL kc] 49))):=B3
   have HG3:Aside _:=hg3
   have HS0:Aside _:=hS0
   have HKV3:Aside (zah (w2.alloc (.cells #[.slice kq NL kc] 49)) kq (keyP rs ns)):=HKV2.out.on b3
   have HTV3:Aside (zah (w2.alloc (.cells #[.slice kq NL kc] 49)) tq T):=(HTV.out.1.on b2).on b3
   clear hg3 hS0 hu2 hu3 B3 b3 b2 B2 g1 hgw2 hFN
   go_wp2_with fail
   refine cC.mono ?_
   rintro e w4 ⟨rfl,b4⟩
   have b4':Below (w2.heap.size+1) (w2.alloc (.cells #[.slice kq NL kc] 49)) w4:=by simpa using b4
   have HB4:Aside (Below w.heap.size w w4):=HB3.out.trans (b4.mono HB3.out.size)
   obtain⟨q1,q2⟩:=HG3.out w4 b4'
   have hsz4:w2.heap.size+1≤w4.heap.size:=by have:=b4'.size;simpa using this
   have HKV4:Aside (zah w4 kq (keyP rs ns)):=HKV3.out.on b4
   have HTV4:Aside (zah w4 tq T):=HTV3.out.on b4
   have HQ:Aside (w4.cell? ⟨w.heap.size,0,none⟩=some (.pointer (some ⟨gb,0,none⟩))∧w4.cell? ⟨w2.heap.size,0,none⟩=some (.slice kq NL kc)):=⟨q1,q2⟩
   clear cC b4 b4' HG3 HB3 HKV3 HTV3 q1 q2
   cases FUL
   ·have hFT:=HFUL.out
    have htk:=fun kk (hkk:kk<fs.length)=>zpO HKEY.out T fs c (xs.map Wm.pl) HW.out HX.out.1 HX.out.2.1 HX.out.2.2 hFT kk hkk
    have HTK:Aside _:=htk
    obtain⟨T1,T2,T3⟩:=HTO.out (by first|rfl|trivial) (by first|rfl|trivial)
    have HT3:Aside (zbK T∧T.length≤maxLen∧adE ps0 T=0):=⟨T1,T2,T3⟩
    clear hFT htk T1 T2 T3
    go_wp2
    go_loopg [13,14,42] FN (fun gg _ _ s42 wr=>∃kk:Nat,kk≤FN∧FN-kk≤gg∧s42=.int .i64 (kk:Int)∧Aside (zbj w4 wr base ps0 gb s last ov xs (adL (keyP rs ns) T (fs.take kk) (xs.map Wm.pl))))
    case atStart=>exact⟨0,Nat.zero_le _,by omega,rfl,(show Aside _ from zbj.same (H.out.on HB4.out) (Below.refl _ _))⟩
    case round =>
     obtain⟨kk,hkk,hg,rfl,HA⟩:=hrel
     by_cases hlt2:kk<FN
     ·have hltz:(kk:Int)<(FN:Int):=by omega
      have h0z:(0:Int)≤(kk:Int):=by omega
      have hkf:kk<fs.length:=by rw[HFN.out];exact hlt2
      have hcap:uc≠0:=by omega
      cases up with
      | none=>exact absurd (HUN.out rfl) hcap
      | some ad =>
      obtain⟨g,off,rfl,hgl2,hce⟩:=HUC.out ad rfl
      have hck:=hce kk hkf
      have hgn:¬GrS gb ov xs g:=HU.out.2 g rfl
      obtain⟨ov',xs',A1,A2,A3,A4⟩:=HA.out
      have hB4:=HB4.out
      have hszw:=hB4.size
      have hsr:=A3.size
      have hS0:=HS0.out
      have hck':wr.cell? ⟨g,off+kk,none⟩=some (.int .i64 fs[kk]):=by rw[A3.cell _ (by omega) hgn,hB4.cell (p:=⟨g,off+kk,none⟩) hgl2];exact hck
      have hg':wr.cell? ⟨w.heap.size,0,none⟩=some (.pointer (some ⟨gb,0,none⟩)):=by rw[A3.cell _ (by omega) (fun h=>by have:=hS0 _ h;omega)];exact HQ.out.1
      have hk':wr.cell? ⟨w2.heap.size,0,none⟩=some (.slice kq NL kc):=by rw[A3.cell _ (by omega) (fun h=>by have:=hS0 _ h;omega)];exact HQ.out.2
      obtain⟨K1,K2⟩:=zkL (w:=w) hS0 HKV4.out (HKF.out.imp (fun h=>by rw[HKL.out,←HNLq.out];exact h) (fun ⟨b,o,e,h⟩=>⟨b,o,e,by omega⟩)) A3 A4
      obtain⟨V1,V2⟩:=zkL (w:=w) hS0 HTV4.out (HTV.out.2.imp id (fun ⟨b,o,e,h⟩=>⟨b,o,e,by simp at h;omega⟩)) A3 A4
      obtain⟨t1,t2,-⟩:=HTK.out kk hkf
      have hbase:=HBASE.out
      have hbr:Bts S0 gb W1 wr:=GrAt.but (HBO.out w4 hB4) A3 (fun k hk=>by
       rcases H.out.in_ k hk with h|h
       ·exact .inl h
       ·exact .inr (by omega)) (by omega)
      have hn':xs'.length≤1000:=by
       have hri:=t1.rise
       have:=zfr (adL (keyP rs ns) T (fs.take kk) (xs.map Wm.pl)) a b hri t2
       rw[←A2,List.length_map] at this
       omega
      have cP:=zsg A1 hbr hbase (c:=c+kk) (by rw[A2];exact t1) (by omega) hn' HNL.out.2.2 fs[kk] kq kc (keyP rs ns) HKEY.out K1 K2 tq tc T V1 V2 HT3.out.1 HT3.out.2.1 HT3.out.2.2 HN.out
      rw[HKL.out,HTL.out] at cP
      have HSN:Hid (adL (keyP rs ns) T (fs.take (kk+1)) (xs.map Wm.pl)=wAdd (keyP rs ns) T fs[kk] (adL (keyP rs ns) T (fs.take kk) (xs.map Wm.pl))):=by
       show _=_
       rw[List.take_succ_eq_append_getElem hkf,zoZ]
      rw[A2] at cP
      have HA34:Aside (Kp (GrS gb ov xs) w4 wr∧∀k,GrS gb ov' xs' k→GrS gb ov xs k∨w4.heap.size≤k):=⟨A3,A4⟩
      clear hbase hce hck hgn A1 A2 A3 A4 hB4 hszw hsr hS0 K1 K2 V1 V2 t1 t2 hbr hn' HA
      generalize fs[kk]=f at *
      go_wp2_with fail
      refine cP.mono ?_
      rintro e w5 ⟨rfl,HP⟩
      have HA5:Aside (zbj w4 w5 base ps0 gb s last ov xs (adL (keyP rs ns) T (fs.take (kk+1)) (xs.map Wm.pl))):=by
       rw[HSN.out]
       exact zbj.step HA34.out.1 HA34.out.2 HP.out
      clear cP HP HA34 HSN hck' hg' hk'
      go_wp2
      go_roundg (FN-(kk+1))
      case measure=>omega
      case rel=>exact⟨kk+1,by omega,by omega,by go_num,HA5⟩
     ·have hltz:¬(kk:Int)<(FN:Int):=by omega
      have HAF:Aside (zbj w wr base ps0 gb s last ov xs (adL (keyP rs ns) T fs (xs.map Wm.pl))):=by
       have h:=HA.out
       rw[List.take_of_length_le (by rw[HFN.out];omega)] at h
       exact zbj.behind HB4.out h
      clear HA
      go_wp2
      go_ret
      exact⟨rfl,HAF⟩
   ·have HF4:Aside (zbj w w4 base ps0 gb s last ov xs (xs.map Wm.pl)):=zbj.same H.out HB4.out
    go_wp2
    go_ret
    exact⟨rfl,HF4⟩
 ·rw[show adW fs (T,P,E) (keyP rs ns) (xs.map Wm.pl)=(xs.map Wm.pl,E) from by rw[adW,if_pos hE]]
  rw[show errV E=.iface 35 (.int .i64 E) from if_neg hE] at cT ⊢
  go_enter Tryz.func112,Tryz.ntmps112
  go_wp2_with (refine hld rfl _ rfl rfl ?_)
  go_wp2_with fail
  refine cT.mono ?_
  rintro e w1 ⟨⟨v,rfl,HF⟩,b1⟩
  obtain⟨g1,B1⟩:=hGB w1 (b1.mono (by simp))
  have HB2:Aside (Below w.heap.size w w1):=B1
  clear cT hld b1 B1
  go_wp2
  go_ret
  exact⟨rfl,(show Aside _ from zbj.same H.out HB2.out)⟩
end
end Go.Proofs.YtopghagjmdbglaaGreatDoor
