/-
  RnG, TeW.
-/
import Derived.Test.YtbdnccnfidjiaaaGreatDoorGyBe
import Derived.Test.YtbdnccnfidjiaaaGreatDoorGyBc
import Derived.Test.YtbdnccnfidjiaaaGreatDoorGyBb
import Derived.Test.YtbdnccnfidjiaaaGreatDoorGyAi
import Derived.Lib.SliceRun
namespace Go.Proofs.YtbdnccnfidjiaaaGreatDoor
open Go.RowKit
set_option linter.unusedVariables false
set_option linter.unusedSimpArgs false
set_option maxHeartbeats 8000000
section
open Go.BigFrame
structure TlLaw(W:World)(QC:Array Value)(vl:Value)(rws:List (List V3))(O:Nat→List Ot)(OE:List Ot)(Iv:Nat→Nat→World→(Nat→Prop)→Nat→Prop):Prop where
 new:∀V,Below W.heap.size W V→Calls Tryz.prog 17 #[.agg QC,vl] V fun e w'=>(∃tb,e=.returned (.tuple #[.pointer (some ⟨tb,0,none⟩),.nilIface])∧Aside (∃m S,W.heap.size≤m∧m≤w'.heap.size∧(∀k,S k→W.heap.size≤k∧k<w'.heap.size)∧Iv tb m w' S 0))∧Below V.heap.size V w'
 kp:∀tb m V S j T V',Iv tb m V S j→Kp T V V'→MutS V T→(∀k,T k→m≤k∧¬S k)→Iv tb m V' S j
 push:∀j (hj:j<rws.length) tb m V S,Below W.heap.size W V→Iv tb m V S j→∀q c,zaf V q rws[j]→(∀g o,q=some ⟨g,o,none⟩→rws[j].length=0∨¬S g)→Calls Tryz.prog 18 #[.pointer (some ⟨tb,0,none⟩),.slice q rws[j].length c] V fun e w'=>∃u,e=.returned (.tuple #[u,.nilIface])∧Aside (∃D S',OutsG D w' u (O j)∧(∀k,D k→V.heap.size≤k)∧(∀k,S' k→¬D k)∧(∀k,S' k→(S k∨V.heap.size≤k)∧k<w'.heap.size)∧Kp S V w'∧Iv tb m w' S' (j+1))
 fin:∀tb m V S,Below W.heap.size W V→Iv tb m V S rws.length→Calls Tryz.prog 19 #[.pointer (some ⟨tb,0,none⟩)] V fun e w'=>∃u,e=.returned u∧Aside (∃D,OutsG D w' u OE∧(∀k,D k→V.heap.size≤k)∧Kp S V w')
structure RunIv(W:World)(O:Nat→List Ot)(Iv:Nat→Nat→World→(Nat→Prop)→Nat→Prop)(tb m:Nat)(j:Nat)(u:Value)(V:World):Prop where
 low:Below W.heap.size W V
 mlo:W.heap.size≤m∧m≤V.heap.size
 iv:∃S P,Iv tb m V S j∧(∀k,S k→W.heap.size≤k∧k<V.heap.size)∧OutsG P V u ((List.range j).flatMap O)∧(∀k,P k→k<V.heap.size∧m≤k∧¬S k)
theorem zrz{P:Nat→Prop}{W:World}{u:Value}{l:List Ot}(h:OutsG P W u l):MutS W (fun k=>u.ownBlock=some k):=by
 obtain⟨cs,hcs,-⟩:=h.own
 exact zdh hcs (by decide)
theorem zbL(O:Nat→List Ot)(j:Nat):(List.range (j+1)).flatMap O=(List.range j).flatMap O++O j:=by
 rw[List.range_succ,List.flatMap_append];simp
set_option maxRecDepth 20000 in
theorem zrR(W:World)(QC:Array Value)(vl:Value)(vr:Value)(rws:List (List V3))(O:Nat→List Ot)(OE:List Ot)(Iv:Nat→Nat→World→(Nat→Prop)→Nat→Prop)(hT:TlLaw W QC vl rws O OE Iv)(hs14:(Tryz.prog.info? 34).map (·.size)=some QC.size)(hvl:∃q n c,vl=.slice q n c)(hrv:RowsV W vr rws)(hN3:rws.length≤300)(hL:∀j,j≤rws.length→((List.range j).flatMap O).length≤900000)(hE:OE.length≤100000) :
  Calls Tryz.prog 6 #[.agg QC,vl,vr] W fun e w'=>(∃u,e=.returned (.tuple #[u,.nilIface])∧Aside (OutsV w' u ((List.range rws.length).flatMap O++OE)))∧Below W.heap.size W w':=by
 obtain⟨z1,z2,z3,hvl⟩:=hvl
 obtain⟨rp,rc,rfl,hm,hr,-⟩:=hrv
 have b1:=(Below.refl W.heap.size W).alloc (Nat.le_refl _) (.cells QC 34)
 have cN:=hT.new _ b1
 have hld:=@zfx (W.alloc (.cells QC 34)) W.heap.size _ _ _ (zbb W QC _) Tryz.underlying34 rfl hs14
 have HT:Aside _:=hT
 have HR:Aside (RowsB W rp rws):=hr
 have HL:Aside (∀j,j≤rws.length→((List.range j).flatMap O).length≤900000):=hL
 subst hvl
 obtain⟨N,hN⟩:∃N,rws.length=N:=⟨_,rfl⟩
 have HN:Hid (rws.length=N):=hN
 rw[hN] at hN3 hm ⊢
 unfold maxLen at hm
 clear hT hr hs14 hL hN
 go_enter Tryz.func6,Tryz.ntmps6
 go_wp2_with (refine hld rfl _ rfl rfl ?_)
 go_wp2_with fail
 refine cN.mono ?_
 rintro e w1 ⟨⟨tb,rfl,HS0⟩,b2⟩
 obtain⟨m,S,hm1,hm2,hS,hI⟩:=HS0.out
 have B1:=b1.trans (b2.mono (by simp))
 have R0:Aside (RunIv W O Iv tb m 0 (.slice none 0 0) w1):=⟨B1,⟨hm1,hm2⟩,S,fun _=>False,hI,hS,OutsG.nil _ _,fun k h=>h.elim⟩
 clear cN hld b1 b2 B1 HS0 hm1 hm2 hS hI
 go_wp2
 go_loopg [10,12,13,14,30] N (fun gg s10 _ _ _ s30 wr=>∃(kk:Nat) (u:Value),kk≤N∧N-kk≤gg∧s30=.int .i64 (kk:Int)∧s10=u∧Aside (RunIv W O Iv tb m kk u wr))
 case atStart=>exact⟨0,_,Nat.zero_le _,by omega,rfl,rfl,R0⟩
 case round =>
  obtain⟨kk,u,hkk,hgk,rfl,hu,RJ⟩:=hrel
  obtain rfl:u=_:=hu.symm
  clear R0
  by_cases hlt:kk<N
  ·have hltz:(kk:Int)<(N:Int):=by omega
   have k0:(0:Int)≤(kk:Int):=by omega
   have hk2:kk<rws.length:=by rw[HN.out];exact hlt
   obtain⟨hlow,hmlo,S1,P1,hI,hSl,hO,hP⟩:=RJ.out
   obtain⟨b,off,q',qc,rfl,hbl,hcell,hv,hvo⟩:∃b off q c,rp=some ⟨b,off,none⟩∧b<wr.heap.size∧wr.cell? ⟨b,off+kk,none⟩=some (.slice q rws[kk].length c)∧zaf wr q rws[kk]∧(∀g o,q=some ⟨g,o,none⟩→rws[kk].length=0∨¬S1 g):=by
    rcases HR.out with h|⟨b,off,e,hl,h⟩
    ·omega
    ·obtain⟨q,c,h1,h2,h3⟩:=h kk hk2
     have:=hlow.size
     refine⟨b,off,q,c,e,by omega,by rw[hlow.cell (p:=⟨b,_,none⟩) hl];exact h1,h2.on hlow,fun g o e=>?_⟩
     rcases h3 with h3|h3
     ·exact .inl h3
     ·refine .inr fun hs=>?_
      have:=h3 g o e
      have:=hSl g hs
      omega
   have cP:=HT.out.push kk hk2 tb m wr S1 hlow hI q' qc hv hvo
   have hlen:=HL.out (kk+1) hk2
   rw[zbL,List.length_append] at hlen
   obtain⟨L,hLk⟩:∃L,(List.range kk).flatMap O=L:=⟨_,rfl⟩
   obtain⟨ol,hol⟩:∃ol,O kk=ol:=⟨_,rfl⟩
   rw[hLk] at hO
   rw[hLk,hol] at hlen
   rw[hol] at cP
   have HLK:Hid ((List.range (kk+1)).flatMap O=L++ol):=by show _=_;rw[zbL,hLk,hol]
   clear hLk hol
   have HH:Aside (Below W.heap.size W wr∧(W.heap.size≤m∧m≤wr.heap.size)∧(∀k,S1 k→W.heap.size≤k∧k<wr.heap.size)∧OutsG P1 wr u L∧(∀k,P1 k→k<wr.heap.size∧m≤k∧¬S1 k)):=⟨hlow,hmlo,hSl,hO,hP⟩
   obtain⟨uq,uc,rfl⟩:=hO.form
   clear hlow hmlo hI hSl hO hP hv hvo RJ
   generalize rws[kk].length=RL at cP hcell
   go_wp2_with fail
   refine cP.mono ?_
   rintro e w4 ⟨pu,rfl,HPS⟩
   obtain⟨hlow,hmlo,hSl,hO,hP⟩:=HH.out
   obtain⟨D,S2,d1,d2,d3,d4,d5,d6⟩:=HPS.out
   obtain⟨pq,pc,rfl⟩:=d1.form
   have hsz:=d5.size
   have hO4:=hO.kp d5 fun k hk=>(hP k hk).2.2
   have d1':=d1.lt
   have hB4:Below W.heap.size W w4:=hlow.trans (d5.below hlow.size fun k hk hs=>by have:=(hSl k hs).1;omega)
   have hU:=zrz hO4
   have hd0:∀k,(Value.slice uq L.length uc).ownBlock=some k→¬(D k∧k<w4.heap.size):=fun k hk hd=>by
    have:=(hP k (hO.blk k hk)).1
    have:=d2 k hd.1
    omega
   have HK4:Aside (Below W.heap.size W w4∧(∀k,S1 k→W.heap.size≤k∧k<wr.heap.size)∧(∀k,P1 k→k<wr.heap.size∧m≤k∧¬S1 k)∧(∀k,D k→wr.heap.size≤k)∧(∀k,S2 k→¬D k)∧(∀k,S2 k→(S1 k∨wr.heap.size≤k)∧k<w4.heap.size)∧Iv tb m w4 S2 (kk+1)∧MutS w4 (fun k=>(Value.slice uq L.length uc).ownBlock=some k)∧(∀k,(Value.slice uq L.length uc).ownBlock=some k→P1 k)∧wr.heap.size≤w4.heap.size):=⟨hB4,hSl,hP,d2,d3,d4,d6,hU,hO4.blk,hsz⟩
   have HO4:Aside _:=hO4
   have HD:Aside _:=d1'
   have HD0:Aside _:=hd0
   clear hlow hSl hO hP d1 d2 d3 d4 d5 d6 hO4 d1' hB4 hU HPS HH cP hd0
   go_wp2_with (at_builtin;refine zar rfl _ _ rfl _ _ _ _ rfl HO4.out _ _ rfl HD.out HD0.out (by omega) ?_)
   intro v' w9 hG hgr hown
   have RJ:Aside (RunIv W O Iv tb m (kk+1) v' w9):=by
    obtain⟨hB4,hSl,hP,d2,d3,d4,d6,hU,hbk,hsz⟩:=HK4.out
    have hkg:Kp (fun k=>(Value.slice uq L.length uc).ownBlock=some k) w4 w9:=(Kp.refl _ _).grown hgr (fun k hk _=>hk)
    have h94:=hkg.size
    refine⟨hB4.trans (hkg.below hB4.size fun k hk hs=>by have:=(hP k (hbk k hs)).2.1;omega),⟨hmlo.1,by omega⟩,S2,_,HT.out.kp tb m w4 S2 (kk+1) _ w9 d6 hkg hU fun k hk=>⟨(hP k (hbk k hk)).2.1,fun hs=>?_⟩,fun k hk=>?_,by rw[HLK.out];exact hG.lt,fun k hk=>?_⟩
    ·have h1:=hP k (hbk k hk)
     rcases (d4 k hs).1 with h|h
     ·exact h1.2.2 h
     ·omega
    ·obtain⟨h1,h2⟩:=d4 k hk
     refine⟨?_,by omega⟩
     rcases h1 with h|h
     ·exact (hSl k h).1
     ·omega
    ·obtain⟨hk,hk9⟩:=hk
     have fresh:∀i,P1 i→m≤i∧¬S2 i:=fun i hi=>by
      have h1:=hP i hi
      refine⟨h1.2.1,fun hs=>?_⟩
      rcases (d4 i hs).1 with h|h
      ·exact h1.2.2 h
      ·omega
     refine⟨hk9,?_⟩
     rcases hk with hk|hk|hk
     ·exact fresh k hk
     ·exact⟨by have:=d2 k hk.1;omega,fun hs=>d3 k hs hk.1⟩
     ·rcases hown with e|e
      ·rw[e] at hk;exact fresh k (hbk k hk)
      ·rw[e] at hk
       injection hk with hk
       exact⟨by omega,fun hs=>by have:=(d4 k hs).2;omega⟩
   clear hG hgr hown HK4 HO4 HD HD0 HLK
   go_wp2
   go_roundg (N-(kk+1))
   case measure=>omega
   case rel=>exact⟨kk+1,_,by omega,by omega,by go_num,rfl,RJ⟩
  ·have hltz:¬(kk:Int)<(N:Int):=by omega
   obtain rfl:kk=N:=by omega
   obtain⟨hlow,hmlo,S1,P1,hI,hSl,hO,hP⟩:=RJ.out
   have cE:=HT.out.fin tb m wr S1 hlow (by rw[HN.out];exact hI)
   have hlen:=HL.out kk (by rw[HN.out];exact Nat.le_refl _)
   obtain⟨L,hLk⟩:∃L,(List.range kk).flatMap O=L:=⟨_,rfl⟩
   rw[hLk] at hO hlen
   have HLK:Hid ((List.range kk).flatMap O=L):=hLk
   clear hLk
   have HH:Aside (Below W.heap.size W wr∧(W.heap.size≤m∧m≤wr.heap.size)∧(∀k,S1 k→W.heap.size≤k∧k<wr.heap.size)∧OutsG P1 wr u L∧(∀k,P1 k→k<wr.heap.size∧m≤k∧¬S1 k)):=⟨hlow,hmlo,hSl,hO,hP⟩
   obtain⟨uq,uc,rfl⟩:=hO.form
   clear hlow hmlo hI hSl hO hP RJ
   go_wp2_with fail
   refine cE.mono ?_
   rintro e w4 ⟨pu,rfl,HPS⟩
   obtain⟨hlow,hmlo,hSl,hO,hP⟩:=HH.out
   obtain⟨D,d1,d2,d5⟩:=HPS.out
   obtain⟨pq,pc,rfl⟩:=d1.form
   have hO4:=hO.kp d5 fun k hk=>(hP k hk).2.2
   have d1':=d1.lt
   have hB4:Below W.heap.size W w4:=hlow.trans (d5.below hlow.size fun k hk hs=>by have:=(hSl k hs).1;omega)
   have hd0:∀k,(Value.slice uq L.length uc).ownBlock=some k→¬(D k∧k<w4.heap.size):=fun k hk hd=>by
    have:=(hP k (hO.blk k hk)).1
    have:=d2 k hd.1
    omega
   have HK4:Aside (Below W.heap.size W w4∧∀k,(Value.slice uq L.length uc).ownBlock=some k→W.heap.size≤k):=⟨hB4,fun k hk=>by have:=(hP k (hO.blk k hk)).2.1;omega⟩
   have HO4:Aside _:=hO4
   have HD:Aside _:=d1'
   have HD0:Aside _:=hd0
   clear hlow hSl hO hP d1 d2 d5 hO4 d1' hB4 HPS HH cE hd0
   go_wp2_with (at_builtin;refine zar rfl _ _ rfl _ _ _ _ rfl HO4.out _ _ rfl HD.out HD0.out (by omega) ?_)
   intro v' w9 hG hgr hown
   have OV:Aside (OutsV w9 v' ((List.range kk).flatMap O++OE)):=by rw[HLK.out];exact hG.v
   have BV:Aside (Below W.heap.size W w9):=by
    have hkg:Kp (fun k=>(Value.slice uq L.length uc).ownBlock=some k) w4 w9:=(Kp.refl _ _).grown hgr (fun k hk _=>hk)
    exact HK4.out.1.trans (hkg.below HK4.out.1.size fun k hk hs=>by have:=HK4.out.2 k hs;omega)
   clear hG hgr hown HK4 HO4 HD HD0 HLK
   go_wp2
   go_ret2
   exact⟨⟨_,rfl,OV⟩,BV.out⟩
theorem zdg(q:Option Addr)(n m c d:Nat):(Value.slice q n c).ownBlock=(Value.slice q m d).ownBlock:=by cases q<;>rfl
theorem zsz{ps0:List Pt}(l:List Wm)(h:∀x∈l,x.gs.length≤40):(l.flatMap fun x=>wOt ps0 x.pl).length≤40*l.length:=by
 rw[List.length_flatMap]
 induction l with
 | nil=>simp
 | cons x t ih =>
  have h1:=h x (List.mem_cons_self ..)
  have h2:=ih (fun y hy=>h y (List.mem_cons_of_mem _ hy))
  rw[List.map_cons,List.sum_cons,List.length_cons]
  have h3:(wOt ps0 x.pl).length=x.gs.length:=by rw[wOt,List.length_map,Wm.pl,List.length_map]
  omega
set_option maxRecDepth 20000 in
theorem zfF{w:World}{base:Nat}{ps0:List Pt}(q:Option Addr)(n c:Nat)(ys:List Wm)(hl:ys.length=n)(hrow:n=0∨∃g,q=some ⟨g,0,none⟩∧g<w.heap.size∧∀j,j<n→w.cell? ⟨g,j,none⟩=some (ys.getD j dwm).p)(hwm:∀x∈ys,WmAt w base ps0 x)(het:EtAt w)(hp:ps0.length≤1000)(hn:n≤1001)(hgs:∀x∈ys,x.gs.length≤40∧∀g∈x.gs,g.key.length≤1000∧∀v∈g.key,v.2.2.size≤40) :
  Calls Tryz.prog 110 #[.slice q n c] w fun e w'=>(∃u,e=.returned u∧Aside (OutsF w.heap.size w' u (ys.flatMap fun x=>wOt ps0 x.pl)))∧Below w.heap.size w w':=by
 have hlen:∀k,k≤n→((ys.take k).flatMap fun x=>wOt ps0 x.pl).length≤40*k:=fun k hk=>by
  have h4:=zsz (ps0:=ps0) (ys.take k) (fun x hx=>(hgs x (List.mem_of_mem_take hx)).1)
  have h5:(ys.take k).length≤k:=by rw[List.length_take];omega
  omega
 have HYN:Hid (ys.length=n):=hl
 have HROW:Aside _:=hrow
 have HWM:Aside _:=hwm
 have HE:Aside (EtAt w):=het
 have HGS:Aside _:=hgs
 have HLEN:Aside _:=hlen
 have HP:Hid (ps0.length≤1000):=hp
 clear hl hrow hwm het hgs hlen hp
 have hnz:(n:Int)≤1001:=by omega
 go_enter Tryz.func110,Tryz.ntmps110
 go_wp2
 go_loopg [3,5,8] n (fun gg s3 _ s8 wr=>∃(kk:Nat) (u:Value),kk≤n∧n-kk≤gg∧s8=.int .i64 (kk:Int)∧s3=u∧Aside (OutsF w.heap.size wr u ((ys.take kk).flatMap fun x=>wOt ps0 x.pl))∧Aside (Below w.heap.size w wr))
 case atStart=>exact⟨0,.slice none 0 0,Nat.zero_le _,by omega,rfl,rfl,(show Aside _ from OutsF.nil _ _),(show Aside _ from Below.refl _ _)⟩
 case round =>
  obtain⟨kk,u,hkk,hg,rfl,hu,OJ,BJ⟩:=hrel
  obtain rfl:u=_:=hu.symm
  have hbs:=BJ.out.size
  have k0:(0:Int)≤(kk:Int):=by omega
  by_cases hlt:kk<n
  ·have hltz:(kk:Int)<(n:Int):=by omega
   have hltX:kk<ys.length:=by rw[HYN.out];exact hlt
   obtain⟨g,rfl,hgl1,hcell⟩:=HROW.out.resolve_left (by omega)
   have hpt:wr.cell? ⟨g,kk,none⟩=some (ys.getD kk dwm).p:=by rw[BJ.out.cell (p:=⟨g,kk,none⟩) hgl1];exact hcell kk hlt
   have hxm:=zbe (d:=dwm) hltX
   have HT:Hid (((ys.take (kk+1)).flatMap fun x=>wOt ps0 x.pl)=((ys.take kk).flatMap fun x=>wOt ps0 x.pl)++wOt ps0 (ys.getD kk dwm).pl):=by
    show _=_
    rw[List.take_succ_eq_append_getElem hltX,List.flatMap_append,zbd hltX]
    simp
   have cO:=zsE ((HWM.out _ hxm).on BJ.out) (HE.out.on BJ.out) HP.out (by have:=(HGS.out _ hxm).1;omega) (HGS.out _ hxm).2
   clear hxm hcell
   generalize ys.getD kk dwm=x at *
   rw[Wm.p] at hpt
   go_wp2_with fail
   refine cO.mono ?_
   rintro e w3 ⟨⟨v,rfl,HV⟩,b3⟩
   have B3:=BJ.out.trans (b3.mono hbs)
   have O3:=OJ.out.on b3
   have HO3:Aside _:=O3
   have HB3:Aside _:=B3
   have hlow:∀k,u.ownBlock=some k→k<wr.heap.size:=fun k hk=>by have:=(OJ.out.lt k hk).2;omega
   have hle1:=HLEN.out kk (by omega)
   have hle2:=HLEN.out (kk+1) (by omega)
   rw[HT.out,List.length_append] at hle2
   clear cO OJ BJ O3 B3 hpt
   go_wp2_with (at_builtin;go_loud (refine zcs rfl _ _ rfl w.heap.size u _ rfl HO3.out wr.heap.size v _ rfl HV.out hlow hbs (by omega) (by have:=HB3.out.size;omega) ?_))
   intro v' w4 hO hgr hown
   have B4:Aside (Below w.heap.size w w4):=HB3.out.grown hgr (by have:=HB3.out.size;omega) (fun k hk=>(HO3.out.lt k hk).1)
   have O4:Aside (OutsF w.heap.size w4 v' ((ys.take (kk+1)).flatMap fun x=>wOt ps0 x.pl)):=by rw[HT.out];exact hO
   clear hO hgr hown HO3 HB3 HV
   go_wp2
   go_roundg (n-(kk+1))
   case measure=>omega
   case rel=>exact⟨kk+1,v',by omega,by omega,by go_num,rfl,O4,B4⟩
  ·have hltz:¬(kk:Int)<(n:Int):=by omega
   obtain rfl:kk=n:=by omega
   have HO:Aside (OutsF w.heap.size wr u (ys.flatMap fun x=>wOt ps0 x.pl)):=by
    have:=OJ.out
    rw[List.take_of_length_le (by rw[HYN.out];exact Nat.le_refl _)] at this
    exact this
   clear OJ
   go_wp2
   go_ret
   exact⟨⟨u,rfl,HO⟩,BJ.out⟩
theorem zdP(p:Option Addr)(n c l:Nat)(hl:l≤n)(hn:n≤c)(hp:p=none→c=0)(h0:∀a,p=some a→∃g,a=⟨g,0,none⟩)(W:World):Sem.run Tryz.prog (Instr.slice 139 (.slice p n c) none (some (.int .i64 (l:Int))) none) W=.ok (.slice p l c) W:=by
 have g0:(0:Int)≤(l:Int):=by omega
 have g1:(l:Int)≤(c:Int):=by omega
 have g2:Sem.run Tryz.prog (Go.sizeOf (Tryz.prog.elem 139)) W=.ok 1 W:=by kernel_rfl
 rw[run_slice_h W 139 p n c (by kernel_rfl) .i64 l g0 g1,g2]
 show Result.ok (sliced p 0 l c 1) W=_
 rw[sliced]
 cases p with
 | none=>simp
 | some a =>
  obtain⟨g,rfl⟩:=h0 a rfl
  simp[Addr.add]
theorem zhQ{W:World}{base:Nat}{ps0:List Pt}{gb:Nat}{s:Gs}{last:Int}{oq:Option Addr}{N oc:Nat}{xs:List Wm}(G:GrAt W base ps0 gb s last (.slice oq N oc) xs)(hN:xs.length=N)(J:Nat)(hJ:J≤N):J=0∨∃g,oq=some ⟨g,0,none⟩∧g<W.heap.size∧∀j,j<J→W.cell? ⟨g,j,none⟩=some ((xs.take J).getD j dwm).p:=by
 subst hN
 rcases Nat.eq_zero_or_pos J with h0|h0
 ·exact .inl h0
 ·obtain⟨g,c,hg1,hgl1,-⟩:=G.row_some (by omega)
  have hp:=fun j (hj:j<xs.length)=>G.ptr hg1 hj
  injection hg1 with e1 _ e2
  refine .inr ⟨g,e1,hgl1,fun j hj=>?_⟩
  rw[hp j (by omega),zbd (by omega),zbd (by rw[List.length_take];omega),List.getElem_take]
set_option maxRecDepth 20000 in
theorem zkV{w:World}{base:Nat}{ps0:List Pt}{gb:Nat}{s:Gs}{last:Int}{ov:Value}{xs:List Wm}(h:GrAt w base ps0 gb s last ov xs)(het:EtAt w)(hbase:base≤w.heap.size)(hp:ps0.length≤1000)(hn:xs.length≤1001)(hgs:∀x∈xs,x.gs.length≤40∧∀g∈x.gs,g.key.length≤1000∧∀v∈g.key,v.2.2.size≤40)
  (fn:FuncId)(hent:∀(args:Array Value) (W:World),Sem.run Tryz.prog (callFunc fn args) W=.ok (.enter fn args) W)(caps:Array Value)(D:Nat→Bool)
  (hD:∀j,j<xs.length→∀W,Below w.heap.size w W→Calls Tryz.prog fn (#[(xs.getD j dwm).p]++caps) W fun e w'=>e=.returned (.bool (D j))∧Below W.heap.size W w')
  (J:Nat)(hJ:J≤xs.length)(hJ1:∀j,j<J→D j=true)(hJ2:J<xs.length→D J=false) :
  Calls Tryz.prog 74 #[.pointer (some ⟨gb,0,none⟩),.func (.func fn) #[] caps] w fun e w'=>(∃u,e=.returned u∧Aside (OutsF w.heap.size w' u ((xs.take J).flatMap fun x=>wOt ps0 x.pl)))∧Aside (∃ov',GrAt w' base ps0 gb s last ov' (xs.drop J)∧Kp (GrS gb ov xs) w w'∧(∀k,GrS gb ov' (xs.drop J) k→GrS gb ov xs k)):=by
 obtain⟨oq,oc,hov⟩:=zaa h.row
 obtain⟨N,hN⟩:∃N,xs.length=N:=⟨_,rfl⟩
 have HXN:Hid (xs.length=N):=hN
 rw[hN] at hov
 subst hov
 have hc16:=h.c16
 have hgl:gb<w.heap.size:=by have:=h.lt;omega
 have hoq:N≤oc∧(oq=none→oc=0)∧(∀a,oq=some a→∃g,a=⟨g,0,none⟩):=by
  have hr:=h.row
  rw[hN] at hr
  rcases hr.2 with ⟨e,e0⟩|⟨g,cap,cur,e,hB,hg,hcap,hx,hcs,-⟩
  ·injection e with e1 e2 e3
   subst e1 e3
   exact⟨by omega,(fun _=>rfl),(fun a ha=>by cases ha)⟩
  ·injection e with e1 e2 e3
   subst e1 e3
   exact⟨hcap,(fun h=>by cases h),(fun a ha=>by injection ha with ha;exact⟨g,ha.symm⟩)⟩
 have HOQ:Aside _:=hoq
 have hog:(Value.slice oq N oc).ownBlock≠some gb:=fun e=>by
  have h1:=(zdA h.row _ e).1
  have h2:=h.lt
  omega
 have HOG:Aside _:=hog
 have H:Aside _:=h
 have HE:Aside (EtAt w):=het
 have HGS:Aside _:=hgs
 have HD:Aside _:=hD
 have HJ:Aside ((∀j,j<J→D j=true)∧(J<N→D J=false)):=⟨hJ1,by rw[←hN];exact hJ2⟩
 have HP:Hid (ps0.length≤1000):=hp
 have HCE:∀W,Below w.heap.size w W→W.cell? ⟨gb,16,none⟩=some (.slice oq N oc):=fun W hb=>by rw[hb.cell (p:=⟨gb,16,none⟩) hgl];exact hc16
 have HC:Aside _:=HCE
 rw[hN] at hn hJ
 have cDel:=fun W (hb:Below w.heap.size w W) (j:Nat) (hj:j≤N)=>zic base oq N oc j (xs.map Wm.p) W (by have:=zac h.row hb;rw[hN] at this;exact this) (fun u hu=>by obtain⟨y,_,rfl⟩:=List.mem_map.1 hu;rfl) hj (by omega)
 have HDEL:Aside _:=cDel
 have hJz:(J:Int)≤(N:Int):=by omega
 clear hog h het hgs hD hJ1 hJ2 hp HCE hN cDel hc16 hoq
 go_enter Tryz.func74,Tryz.ntmps74
 go_wp2
 go_loopg [5] N (fun gg s5 wr=>∃kk:Nat,kk≤J∧N-kk≤gg∧s5=.int .i64 (kk:Int)∧Aside (Below w.heap.size w wr))
 case atStart=>exact⟨0,Nat.zero_le _,by omega,rfl,(show Aside _ from Below.refl _ _)⟩
 case round =>
  obtain⟨kk,hkk,hg,rfl,BJ⟩:=hrel
  have hc:=HC.out wr BJ.out
  have hbs:=BJ.out.size
  have k0:(0:Int)≤(kk:Int):=by omega
  by_cases hlt:kk<N
  ·have hltz:(kk:Int)<(N:Int):=by omega
   have hltX:kk<xs.length:=by rw[HXN.out];exact hlt
   have G:=H.out.on BJ.out
   obtain⟨g,c,hg1,hgl1,-⟩:=G.row_some (by omega)
   rw[HXN.out] at hg1
   injection hg1 with e1 _ e2
   subst e1
   subst e2
   have hpt:=G.ptr (by rw[HXN.out]) hltX
   have cD:=HD.out kk hltX wr BJ.out
   obtain⟨d,hd⟩:∃d,D kk=d:=⟨_,rfl⟩
   rw[hd] at cD
   have HDK:Hid (D kk=d):=hd
   clear G hd
   generalize xs.getD kk dwm=x at *
   rw[Wm.p] at cD hpt
   cases d
   ·have hJk:J=kk:=by
     rcases Nat.lt_or_ge kk J with h|h
     ·have:=HJ.out.1 kk h;rw[HDK.out] at this;cases this
     ·omega
    subst hJk
    go_wp2_with fail
    refine cD.mono ?_
    rintro e w2 ⟨rfl,b2⟩
    clear cD
    have BX2:=BJ.out.trans (b2.mono hbs)
    clear BJ hc hbs
    have HBX:Aside (Below w.heap.size w w2):=BX2
    have GX:=H.out.on HBX.out
    have hcX:=HC.out w2 HBX.out
    have hszX:=HBX.out.size
    have cOO:=zfF (w:=w2) (base:=base) (ps0:=ps0) _ J oc (xs.take J) (by have:=HXN.out;rw[List.length_take];omega) (zhQ GX HXN.out J (by omega)) (fun x hx=>GX.wm x (List.mem_of_mem_take hx)) (HE.out.on HBX.out) HP.out (by omega) (fun x hx=>HGS.out x (List.mem_of_mem_take hx))
    have hsl:=fun W=>zdP _ N oc J (by omega) HOQ.out.1 HOQ.out.2.1 HOQ.out.2.2 W
    clear GX
    go_wp2_with fail
    refine cOO.mono ?_
    rintro e w4 ⟨⟨v,rfl,HV⟩,b4⟩
    have HOX:Aside (OutsF w.heap.size w4 v ((xs.take J).flatMap fun x=>wOt ps0 x.pl)):=HV.out.low HBX.out.size
    have HBY:Aside (Below w.heap.size w w4):=HBX.out.trans (b4.mono HBX.out.size)
    have hcY:=HC.out w4 HBY.out
    have cY:=HDEL.out w4 HBY.out J (by omega)
    have hszY:=HBY.out.size
    obtain⟨C,hC1,hC2⟩:=(H.out.on HBY.out).blk
    have h16:=hC2.c16
    have HC1:Aside (Blk w4 gb C 141):=hC1
    clear cOO hsl hcX HV b4 hC1 hC2
    go_wp2_with fail
    refine cY.mono ?_
    rintro r w5 ⟨rfl,HR,HK⟩
    have c5b:=HC1.out.kp HK.out HOG.out
    have c5:=c5b.cell 16
    have f5:=c5b.frozen 16
    rw[h16] at c5
    clear cY c5b hcY
    go_wp2
    go_ret
    have hw5:w4.heap.size≤w5.heap.size:=HK.out.size
    obtain⟨d1,d2,d3⟩:=(H.out.on HBY.out).del J (by rw[HXN.out];omega) HK.out (by rw[HXN.out];exact HR.out) (zdg _ _ _ _ _)
    refine⟨⟨_,rfl,(show Aside _ from HOX.out.kp d2 (fun k hk=>?_))⟩,(show Aside _ from ⟨_,d1,(Kp.of_below HBY.out).trans d2,d3⟩)⟩
    rcases H.out.in_ k hk with h|h
    ·omega
    ·exact h.2
   ·have hJk:kk<J:=by
     rcases Nat.lt_or_ge kk J with h|h
     ·exact h
     ·have:=HJ.out.2 (by omega)
      have e:J=kk:=by omega
      rw[e,HDK.out] at this;cases this
    go_wp2_with fail
    refine cD.mono ?_
    rintro e w2 ⟨rfl,b2⟩
    have B2:Aside (Below w.heap.size w w2):=BJ.out.trans (b2.mono hbs)
    clear cD BJ hc hpt
    go_wp2
    go_roundg (N-(kk+1))
    case measure=>omega
    case rel=>exact⟨kk+1,by omega,by omega,by go_num,B2⟩
  ·have hltz:¬(kk:Int)<(N:Int):=by omega
   have hJk:J=kk:=by omega
   subst hJk
   have BX2:=BJ.out
   clear BJ hc hbs
   have HBX:Aside (Below w.heap.size w wr):=BX2
   have GX:=H.out.on HBX.out
   have hcX:=HC.out wr HBX.out
   have hszX:=HBX.out.size
   have cOO:=zfF (w:=wr) (base:=base) (ps0:=ps0) _ J oc (xs.take J) (by have:=HXN.out;rw[List.length_take];omega) (zhQ GX HXN.out J (by omega)) (fun x hx=>GX.wm x (List.mem_of_mem_take hx)) (HE.out.on HBX.out) HP.out (by omega) (fun x hx=>HGS.out x (List.mem_of_mem_take hx))
   have hsl:=fun W=>zdP _ N oc J (by omega) HOQ.out.1 HOQ.out.2.1 HOQ.out.2.2 W
   clear GX
   go_wp2_with fail
   refine cOO.mono ?_
   rintro e w4 ⟨⟨v,rfl,HV⟩,b4⟩
   have HOX:Aside (OutsF w.heap.size w4 v ((xs.take J).flatMap fun x=>wOt ps0 x.pl)):=HV.out.low HBX.out.size
   have HBY:Aside (Below w.heap.size w w4):=HBX.out.trans (b4.mono HBX.out.size)
   have hcY:=HC.out w4 HBY.out
   have cY:=HDEL.out w4 HBY.out J (by omega)
   have hszY:=HBY.out.size
   obtain⟨C,hC1,hC2⟩:=(H.out.on HBY.out).blk
   have h16:=hC2.c16
   have HC1:Aside (Blk w4 gb C 141):=hC1
   clear cOO hsl hcX HV b4 hC1 hC2
   go_wp2_with fail
   refine cY.mono ?_
   rintro r w5 ⟨rfl,HR,HK⟩
   have c5b:=HC1.out.kp HK.out HOG.out
   have c5:=c5b.cell 16
   have f5:=c5b.frozen 16
   rw[h16] at c5
   clear cY c5b hcY
   go_wp2
   go_ret
   have hw5:w4.heap.size≤w5.heap.size:=HK.out.size
   obtain⟨d1,d2,d3⟩:=(H.out.on HBY.out).del J (by rw[HXN.out];omega) HK.out (by rw[HXN.out];exact HR.out) (zdg _ _ _ _ _)
   refine⟨⟨_,rfl,(show Aside _ from HOX.out.kp d2 (fun k hk=>?_))⟩,(show Aside _ from ⟨_,d1,(Kp.of_below HBY.out).trans d2,d3⟩)⟩
   rcases H.out.in_ k hk with h|h
   ·omega
   ·exact h.2
end
end Go.Proofs.YtbdnccnfidjiaaaGreatDoor
