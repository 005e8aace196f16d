/-
  PhW.
-/
import Derived.Test.YtbdnccnfidjiaaaGreatDoorGyBk
import Derived.Test.YtbdnccnfidjiaaaGreatDoorGyBj
import Derived.Test.YtbdnccnfidjiaaaGreatDoorGyAo
import Derived.Test.YtbdnccnfidjiaaaGreatDoorGyAi
import Derived.Test.YtbdnccnfidjiaaaGreatDoorGyBa
import Derived.Test.YtbdnccnfidjiaaaGreatDoorYRgCa
namespace Go.Proofs.YtbdnccnfidjiaaaGreatDoor
open Go.RowKit
set_option linter.unusedVariables false
set_option linter.unusedSimpArgs false
set_option maxHeartbeats 8000000
section
open Go.BigFrame
theorem IntA.kp{S:Nat→Prop}{w w':World}{v:Value}{ts:List Int}(h:IntA w v ts)(hk:Kp S w w')(hn:∀k,v.ownBlock=some k→¬S k):IntA w' v ts:=by
 obtain⟨p,c,rfl,h1,h2,h3⟩:=h
 refine⟨p,c,rfl,h1,h2,fun a ha=>?_⟩
 obtain⟨g,off,e2,h5,h6⟩:=h3 a ha
 subst e2
 subst ha
 exact⟨g,off,rfl,by have:=hk.size;omega,fun j hj=>by rw[hk.cell _ h5 (hn g rfl)];exact h6 j hj⟩
theorem GrAt.setlast{w:World}{base:Nat}{ps0:List Pt}{gb:Nat}{s:Gs}{last:Int}{ov:Value}{xs:List Wm}(h:GrAt w base ps0 gb s last ov xs)(l':Int):GrAt (w.setCell ⟨gb,15,none⟩ (.int .i64 l')) base ps0 gb s l' ov xs∧Kp (GrS gb ov xs) w (w.setCell ⟨gb,15,none⟩ (.int .i64 l')):=by
 obtain⟨C,c1,c2⟩:=h.blk
 have K:Kp (·=gb) w (w.setCell ⟨gb,15,none⟩ (.int .i64 l')):=(Kp.refl _ w).set 15 _ (fun _=>rfl)
 have hM:MutS w (·=gb):=MutS.one c1 (by decide)
 have hog:∀k,ov.ownBlock=some k→¬(k=gb):=fun k e e2=>by have:=(zdA h.row k e).1;have:=h.lt;omega
 exact⟨⟨⟨_,c1.set 15 _,c2.last⟩,zfH h.row K hog,fun y hy=>(h.wm y hy).kp K hM (fun k k1 k2=>by rw[k2] at k1;exact (h.wm y hy).notblk c1 (by decide) k1),h.dj,h.lt⟩,K.mono fun k _ hk=>.inl hk⟩
theorem zgG{B g:Nat}{W:World}{E f:Int}(hB:B≤g)(hb:Blk W g #[.slice none 0 0,.int .i64 E,.int .i64 f] 49):OutsF B W (.slice (some ⟨g,0,none⟩) 1 1) [([],E,f)] :=
 ⟨⟨[.slice none 0 0,.int .i64 E,.int .i64 f],⟨rfl,.inr ⟨g,1,_,rfl,hB,hb,Nat.le_refl _,by unfold maxLen;omega,rfl,rfl⟩⟩,⟨rfl,fun j hj=>by
  have:j=0:=by simp at hj;exact hj
  subst this
  exact⟨none,0,rfl,rfl,rfl,.inl rfl,.inl rfl⟩⟩,fun j rq n rc e=>by
  have hj:j=0:=by have:=(List.getElem?_eq_some_iff.1 e).1;simp at this;omega
  subst hj
  simp at e
  exact .inl e.2.1.symm⟩,fun h=>by simp at h⟩
theorem GrAt.top{w:World}{base:Nat}{ps0:List Pt}{gb:Nat}{s:Gs}{last:Int}{ov:Value}{xs:List Wm}(h:GrAt w base ps0 gb s last ov xs):∀k,GrS gb ov xs k→k<w.heap.size:=fun k hk=>by
 rcases h.in_ k hk with rfl|h2
 ·obtain⟨C,c1,-⟩:=h.blk
  exact c1.lt
 ·exact h2.2
def PhPd(w w':World)(base:Nat)(ps0:List Pt)(gb:Nat)(s:Gs)(ov:Value)(xs:List Wm)(st:Int×List PW)(l:List Ot)(u:Value):Prop:=∃(D:Nat→Prop) (ov':Value) (xs':List Wm),OutsG D w' u l∧(∀k,D k→w.heap.size≤k)∧(∀k,GrS gb ov' xs' k→¬D k)∧GrAt w' base ps0 gb s st.1 ov' xs'∧xs'.map Wm.pl=st.2∧Kp (GrS gb ov xs) w w'∧(∀k,GrS gb ov' xs' k→GrS gb ov xs k∨w.heap.size≤k)
theorem PhPd.old{w w':World}{base:Nat}{ps0:List Pt}{gb:Nat}{s:Gs}{ov ov':Value}{xs xs':List Wm}{st:Int×List PW}{l:List Ot}{u:Value}(h:OutsF w.heap.size w' u l)(hlt:∀k,GrS gb ov xs k→k<w.heap.size)(h1:GrAt w' base ps0 gb s st.1 ov' xs')(h2:xs'.map Wm.pl=st.2)(h3:Kp (GrS gb ov xs) w w')(h4:∀k,GrS gb ov' xs' k→GrS gb ov xs k):PhPd w w' base ps0 gb s ov xs st l u :=
 ⟨_,ov',xs',h.g,fun k hk=>hk.1,fun k hk hd=>by have:=hlt k (h4 k hk);omega,h1,h2,h3,fun k hk=>.inl (h4 k hk)⟩
theorem zkU{α:Type}(p:α→Bool):∀l:List α,∃j,j≤l.length∧l.takeWhile p=l.take j∧l.dropWhile p=l.drop j∧(∀i (h:i<l.length),i<j→p l[i]=true)∧(∀h:j<l.length,p l[j]=false)
 | []=>⟨0,by simp,rfl,rfl,by simp,by simp⟩
 | x::t=>by
  by_cases hx:p x=true
  ·obtain⟨j,h1,h2,h3,h4,h5⟩:=zkU p t
   refine⟨j+1,by simp;omega,by rw[List.takeWhile_cons,if_pos hx,h2,List.take_succ_cons],by rw[List.dropWhile_cons,if_pos hx,h3,List.drop_succ_cons],fun i h hi=>?_,fun h=>?_⟩
   ·cases i with
    | zero=>simpa using hx
    | succ i=>simpa using h4 i (by simpa using h) (by omega)
   ·simpa using h5 (by simpa using h)
  ·refine⟨0,by omega,by rw[List.takeWhile_cons,if_neg hx];rfl,by rw[List.dropWhile_cons,if_neg hx];rfl,fun i h hi=>by omega,fun h=>by simpa using hx⟩
set_option maxRecDepth 20000 in
theorem zqx{w:World}{base:Nat}{ps0:List Pt}{gb:Nat}{s:Gs}{last:Int}{ov:Value}{xs:List Wm}(h:GrAt w base ps0 gb s last ov xs)(het:EtAt w)(hetk:∀W,Kp (GrS gb ov xs) w W→EtAt W)(hbase:base≤w.heap.size)(hp:ps0.length≤1000)(hn:xs.length≤1000){kt:List Int}{c:Nat}(hW:WOk kt c (xs.map Wm.pl))(hm:kt.length≤1000) :
  Calls Tryz.prog 40 #[.pointer (some ⟨gb,0,none⟩)] w fun e w'=>∃u,e=.returned u∧Aside (PhPd w w' base ps0 gb s ov xs (0,[]) ((xs.map Wm.pl).flatMap (wOt ps0)) u):=by
 obtain⟨g1,k1⟩:=h.setlast 0
 have hgs:∀x∈xs,x.gs.length≤40∧∀g∈x.gs,g.key.length≤1000∧∀v∈g.key,v.2.2.size≤40:=fun x hx=>by
  have hg:=hW.ok _ (List.mem_map_of_mem hx)
  refine⟨by have:=hg.few;rw[Wm.pl,List.length_map] at this;exact this,fun g hgm=>?_⟩
  have hok:OkK kt g.key:=(hg.ok _ (List.mem_map_of_mem hgm)).1
  exact⟨by rw[hok.len];exact hm,hok.small⟩
 have hD:∀j,j<xs.length→∀W,Below (w.setCell ⟨gb,15,none⟩ (.int .i64 0)).heap.size (w.setCell ⟨gb,15,none⟩ (.int .i64 0)) W→Calls Tryz.prog 75 (#[(xs.getD j dwm).p]++#[]) W fun e w'=>e=.returned (.bool true)∧Below W.heap.size W w':=fun j _ W _=>by
  refine (zsZ (xs.getD j dwm).p W).mono ?_
  rintro e w' ⟨rfl,rfl⟩
  exact⟨rfl,Below.refl _ _⟩
 have cT:=zkV g1 (hetk _ k1) (by simpa [World.setCell] using hbase) hp (by omega) hgs 75 (fun args W=>by kernel_rfl) #[] (fun _=>true) hD xs.length (Nat.le_refl _) (fun _ _=>rfl) (fun h=>absurd h (Nat.lt_irrefl _))
 obtain⟨C,c1,c2⟩:=h.blk
 have h15:w.cell? ⟨gb,15,none⟩=some (.int .i64 last):=by rw[c1.cell];exact c2.c15
 have f15:=c1.frozen 15
 have hout:((xs.take xs.length).flatMap fun x=>wOt ps0 x.pl)=(xs.map Wm.pl).flatMap (wOt ps0):=by rw[List.take_length,List.flatMap_map]
 rw[hout,List.drop_length] at cT
 have hsz:(w.setCell ⟨gb,15,none⟩ (.int .i64 0)).heap.size=w.heap.size:=by simp[World.setCell]
 rw[hsz] at cT
 have HK1:Aside _:=k1
 have HTP:Aside _:=h.top
 clear h het hetk hgs hD c1 c2 g1 k1 hW hout
 go_enter Tryz.func40,Tryz.ntmps40
 go_wp2_with fail
 refine cT.mono ?_
 rintro e w1 ⟨⟨u,rfl,HO⟩,HG⟩
 have HP:Aside (PhPd w w1 base ps0 gb s ov xs (0,[]) ((xs.map Wm.pl).flatMap (wOt ps0)) u):=by
  obtain⟨ov',q1,q2,q3⟩:=HG.out
  exact PhPd.old HO.out HTP.out q1 rfl (HK1.out.trans q2) q3
 clear cT HG HK1 HTP
 go_wp2
 go_ret
 exact⟨u,rfl,HP⟩
theorem zok{w:World}{base:Nat}{ps0:List Pt}{gb:Nat}{s:Gs}{last:Int}{ov:Value}{xs:List Wm}(h:GrAt w base ps0 gb s last ov xs)(A:Int)(gB aB:Nat)(hgB:w.cell? ⟨gB,0,none⟩=some (.pointer (some ⟨gb,0,none⟩)))(haB:w.cell? ⟨aB,0,none⟩=some (.int .i64 A))(hx:∀x∈xs,0≤x.fr∧x.fr≤1000000)(hs:0≤s.size∧s.size≤1000) :
  ∀j,j<xs.length→∀W,Below w.heap.size w W→Calls Tryz.prog 106 (#[(xs.getD j dwm).p]++#[.pointer (some ⟨gB,0,none⟩),.pointer (some ⟨aB,0,none⟩)]) W fun e w'=>e=.returned (.bool (decide ((xs.getD j dwm).fr+s.size≤A)))∧Below W.heap.size W w':=by
 intro j hj W hW
 have hm:=zbe (d:=dwm) hj
 have hx':=hx _ hm
 have hblk:=(h.wm _ hm).blk
 have hlt:∀{b o:Nat} {v:Value},w.cell? ⟨b,o,none⟩=some v→b<w.heap.size:=fun {b o v} hc=>by
  rcases Nat.lt_or_ge b w.heap.size with h|h
  ·exact h
  ·simp[World.cell?,Array.getElem?_eq_none h] at hc
 have hz:w.cell? ⟨(xs.getD j dwm).z,0,none⟩=some (.int .i64 (xs.getD j dwm).fr):=by rw[hblk.cell];rfl
 obtain⟨C,c1,c2⟩:=h.blk
 have hg:w.cell? ⟨gb,13,none⟩=some (.int .i64 s.size):=by rw[c1.cell];exact c2.c13
 have:=zrH (xs.getD j dwm).z gb gB aB (xs.getD j dwm).fr s.size A W (by rw[hW.cell (p:=⟨_,0,none⟩) (hlt hz)];exact hz) (by rw[hW.cell (p:=⟨gB,0,none⟩) (hlt hgB)];exact hgB) (by rw[hW.cell (p:=⟨aB,0,none⟩) (hlt haB)];exact haB) (by rw[hW.cell (p:=⟨gb,13,none⟩) (hlt hg)];exact hg) (by omega) (by omega)
 exact this
set_option maxHeartbeats 20000000 in
set_option maxRecDepth 20000 in
theorem zlS{w W1:World}{S0:Nat→Prop}{base:Nat}{ps0:List Pt}{gb:Nat}{s:Gs}{last:Int}{ov:Value}{xs:List Wm}(h:GrAt w base ps0 gb s last ov xs)(hb1:Bts S0 gb W1 w)(hbase:base=W1.heap.size){kt:List Int}{c:Nat}(hst:OkSt kt c s.size (last,xs.map Wm.pl))(hwd:wdB s.size s.slide)(hc:c+11≤10000)(hm:kt.length≤1000)(hp0:ps0.length≤1000)(hEt:∀W,Bts S0 gb W1 W→EtAt W)
  (rq:Option Addr)(rc:Nat)(rs:List V3)(hr:zaf w rq rs)(hrd:rs.length=0∨∀b o,rq=some ⟨b,o,none⟩→¬GrS gb ov xs b)(hrl:rs.length≤1000)(ia:Nat)(hia:s.at_=(ia:Int))(hia2:ia<rs.length)(A:Int)(hA:(rs.getD ia noV).2.1=A)(hAm:inM A)(p:Option Addr)(pc:Nat)(ns:List Nat)(hp:s.pv=.slice p ns.length pc)(hnl:ns.length≤1000)(hPl:∀W,Bts S0 gb W1 W→zaZ W p ns)(hi:∀i∈ns,i<rs.length)(hkey:OkK kt (keyP rs ns))
  (T:List V3)(P:Bool)(E:Int)(hT:∀W,Bts S0 gb W1 W→zaf W rq rs→Calls Tryz.prog 66 #[.agg s.SC,.slice rq rs.length rc] W fun e w'=>(∃u,e=.returned (.tuple #[u,.bool P,errV E])∧Aside (FrV W.heap.size w' u T))∧Below W.heap.size W w')
  (hTo:E=0→P=true→zbt T∧T.length≤maxLen∧adE ps0 T=0)
  (hN:∀W,Bts S0 gb W1 W→Calls Tryz.prog 195 #[s.av,s.tv] W fun e w'=>∃a v,e=.returned (.tuple #[.pointer (some ⟨a,0,none⟩),.nilIface])∧Aside (AcAt w' a v ps0 []∧(∀k,accS a v k→W.heap.size≤k))∧Below W.heap.size W w') :
  Calls Tryz.prog 72 #[.pointer (some ⟨gb,0,none⟩),.slice rq rs.length rc] w fun e w'=>∃u,e=.returned u∧Aside (PhPd w w' base ps0 gb s ov xs (pushP ps0 s.size s.slide (last,xs.map Wm.pl) A (T,P,E) (keyP rs ns)).1 (pushP ps0 s.size s.slide (last,xs.map Wm.pl) A (T,P,E) (keyP rs ns)).2 u):=by
 have hlt:=h.lt
 have hgl:gb<w.heap.size:=by have:=hb1.size;omega
 have hbw:base≤w.heap.size:=by have:=hb1.size;omega
 have butOn:∀W,Below w.heap.size w W→Bts S0 gb W1 W:=fun W hb=>hb1.on hb
 obtain⟨C,hC1,hC2⟩:=h.blk
 have hc9:w.cell? ⟨gb,9,none⟩=some (.int .i64 (ia:Int)):=by rw[hC1.cell,hC2.c9,hia]
 have hc13:w.cell? ⟨gb,13,none⟩=some (.int .i64 s.size):=by rw[hC1.cell,hC2.c13]
 have hc14:w.cell? ⟨gb,14,none⟩=some (.int .i64 s.slide):=by rw[hC1.cell,hC2.c14]
 have hc15:w.cell? ⟨gb,15,none⟩=some (.int .i64 last):=by rw[hC1.cell,hC2.c15]
 obtain⟨rb,ro,hrq,hrbl,hrc⟩:∃rb ro,rq=some ⟨rb,ro,none⟩∧rb<w.heap.size∧w.cell? ⟨rb,ro+ia*3+1,none⟩=some (.int .i64 A):=by
  rcases hr with h0|⟨b,off,e,hl,hcc⟩
  ·omega
  ·obtain⟨-,q,-⟩:=hcc ia hia2
   refine⟨b,off,e,hl,?_⟩
   rw[←hA,zbd hia2]
   exact q
 subst hrq
 have hw0:=hwd
 obtain⟨s1,s2,s3,s4,s5⟩:=hwd
 have bA:=alB w (.cells #[.pointer (some ⟨gb,0,none⟩)] 97)
 have bB:Below w.heap.size w ((w.alloc (.cells #[.pointer (some ⟨gb,0,none⟩)] 97)).alloc (.cells #[.int .i64 A] 3)):=bA.alloc (by simp) _
 have hAll:∀W,Below (w.heap.size+2) ((w.alloc (.cells #[.pointer (some ⟨gb,0,none⟩)] 97)).alloc (.cells #[.int .i64 A] 3)) W→W.cell? ⟨w.heap.size,0,none⟩=some (.pointer (some ⟨gb,0,none⟩))∧W.cell? ⟨w.heap.size+1,0,none⟩=some (.int .i64 A)∧W.cell? ⟨gb,13,none⟩=some (.int .i64 s.size)∧W.cell? ⟨gb,14,none⟩=some (.int .i64 s.slide)∧W.cell? ⟨gb,15,none⟩=some (.int .i64 last)∧Below w.heap.size w W∧w.heap.size+2≤W.heap.size:=fun W hb=>by
  have bW:Below w.heap.size w W:=bB.trans (hb.mono (by omega))
  refine⟨?_,?_,?_,?_,?_,bW,by have:=hb.size;simpa using this⟩
  ·rw[hb.cell (p:=⟨w.heap.size,0,none⟩) (show w.heap.size<w.heap.size+2 by omega)]
   have:=(alB (w.alloc (.cells #[.pointer (some ⟨gb,0,none⟩)] 97)) (.cells #[.int .i64 A] 3)).cell (p:=⟨w.heap.size,0,none⟩) (by simp)
   rw[this];simp
  ·rw[hb.cell (p:=⟨w.heap.size+1,0,none⟩) (show w.heap.size+1<w.heap.size+2 by omega)]
   simp
  ·rw[bW.cell (p:=⟨gb,13,none⟩) hgl];exact hc13
  ·rw[bW.cell (p:=⟨gb,14,none⟩) hgl];exact hc14
  ·rw[bW.cell (p:=⟨gb,15,none⟩) hgl];exact hc15
 have HALL:Aside _:=hAll
 have H:Aside _:=h
 have HBO:Aside _:=butOn
 have HET:Aside _:=hEt
 have HBASE:Hid (base=W1.heap.size):=hbase
 have HST:Aside (OkSt kt c s.size (last,xs.map Wm.pl)):=hst
 have hiz:(ia:Int)<(rs.length:Int):=by omega
 have hi0:(0:Int)≤(ia:Int):=by omega
 have mS:inM s.size:=by unfold inM;omega
 have mL:inM s.slide:=by unfold inM;omega
 by_cases hAr:0≤A∧A≤1000000
 ·have cS:=fun W=>stF A s.size s.slide W hAm mS mL hw0 hAr
  obtain⟨f1,f2,f3⟩:=zbW hw0 hAr.1
  by_cases hlate:A<last
  ·have hpp:pushP ps0 s.size s.slide (last,xs.map Wm.pl) A (T,P,E) (keyP rs ns)=((last,xs.map Wm.pl),[([],6,0)]):=by rw[pushP,if_neg (fun h=>h hAr)];exact if_pos hlate
   rw[hpp]
   have cF:=fun W (hb:Below w.heap.size w W)=>zhp 6 W (hEt W (butOn W hb))
   have HCF:Aside _:=cF
   generalize rs.length=RS at *
   clear hpp h hb1 hst hEt hr hrd hPl hi hkey hT hTo hN butOn hC1 hC2 hAll cF hA hia hp hc13 hc14 hc15 hbase f1 f2 f3
   obtain⟨q1,q2,q3,q4,q5,q6,q7⟩:=HALL.out _ (Below.refl _ _)
   go_enter Tryz.func72,Tryz.ntmps72
   go_wp2
   go_upto_region 2 with fail
   go_cut [6,7] (fun s6 s7 wx=>s7=.nilIface∧Aside (Below (w.heap.size+2) ((w.alloc (.cells #[.pointer (some ⟨gb,0,none⟩)] 97)).alloc (.cells #[.int .i64 A] 3)) wx))
   case first=>as_aux_lemma =>
    refine zaK 64 9 28 (by kernel_rfl) rfl (by kernel_rfl) _ rfl rfl (fun r wq=>∃u,r=.tuple #[u,.nilIface]∧True∧Below (w.heap.size+2) ((w.alloc (.cells #[.pointer (some ⟨gb,0,none⟩)] 97)).alloc (.cells #[.int .i64 A] 3)) wq) (fun i r=>(#[.int .i64 A,.pointer (some ⟨gb,0,none⟩),.pointer (some ⟨gb,0,none⟩),.pointer (some ⟨gb,13,none⟩),.int .i64 s.size,.pointer (some ⟨gb,0,none⟩),.pointer (some ⟨gb,0,none⟩),.pointer (some ⟨gb,14,none⟩),.int .i64 s.slide]:Array Value).getD i (match i with|10=>r|11=>elemT r 0|12=>elemT r 1|13=>elemT r 0|14=>elemT r 1|_=>undef)) (fun i hi r r2=>by have hi2:i<(#[.int .i64 A,.pointer (some ⟨gb,0,none⟩),.pointer (some ⟨gb,0,none⟩),.pointer (some ⟨gb,13,none⟩),.int .i64 s.size,.pointer (some ⟨gb,0,none⟩),.pointer (some ⟨gb,0,none⟩),.pointer (some ⟨gb,14,none⟩),.int .i64 s.slide]:Array Value).size:=hi;unfold Array.getD;rw[dif_pos hi2,dif_pos hi2]) ?_ ?_ ?_
    ·intro i o d ho hd hic a wq r hw hr hdep hold KK hKK
     rcases i with _|i
     ·cases ho;cases hd
      obtain rfl:=hw (by decide)
      have q5:a.tmps.getD 5 undef=.pointer (some ⟨w.heap.size+1,0,none⟩):=hold 5 rfl
      rw[Array.getD_eq_getD_getElem?] at q5
      unfold Oper.wp execOp
      go_simp
      exact hKK
     rcases i with _|i
     ·cases ho;cases hd
      obtain rfl:=hw (by decide)
      have q2:a.tmps.getD 2 undef=.pointer (some ⟨w.heap.size,0,none⟩):=hold 2 rfl
      rw[Array.getD_eq_getD_getElem?] at q2
      unfold Oper.wp execOp
      go_simp
      exact hKK
     rcases i with _|i
     ·cases ho;cases hd
      obtain rfl:=hw (by decide)
      have q20:a.tmps.getD 20 undef=.pointer (some ⟨gb,0,none⟩):=hdep ⟨1,.data⟩ (by simp) rfl (by decide) _ 20 rfl rfl
      rw[Array.getD_eq_getD_getElem?] at q20
      unfold Oper.wp execOp
      go_simp
      exact hKK
     rcases i with _|i
     ·cases ho;cases hd
      obtain rfl:=hw (by decide)
      have q21:a.tmps.getD 21 undef=.pointer (some ⟨gb,0,none⟩):=hdep ⟨2,.data⟩ (by simp) rfl (by decide) _ 21 rfl rfl
      rw[Array.getD_eq_getD_getElem?] at q21
      unfold Oper.wp execOp
      go_simp
      exact hKK
     rcases i with _|i
     ·cases ho;cases hd
      obtain rfl:=hw (by decide)
      have q22:a.tmps.getD 22 undef=.pointer (some ⟨gb,13,none⟩):=hdep ⟨3,.data⟩ (by simp) rfl (by decide) _ 22 rfl rfl
      rw[Array.getD_eq_getD_getElem?] at q22
      unfold Oper.wp execOp
      go_simp
      exact hKK
     rcases i with _|i
     ·cases ho;cases hd
      obtain rfl:=hw (by decide)
      have q2:a.tmps.getD 2 undef=.pointer (some ⟨w.heap.size,0,none⟩):=hold 2 rfl
      rw[Array.getD_eq_getD_getElem?] at q2
      unfold Oper.wp execOp
      go_simp
      exact hKK
     rcases i with _|i
     ·cases ho;cases hd
      obtain rfl:=hw (by decide)
      have q24:a.tmps.getD 24 undef=.pointer (some ⟨gb,0,none⟩):=hdep ⟨5,.data⟩ (by simp) rfl (by decide) _ 24 rfl rfl
      rw[Array.getD_eq_getD_getElem?] at q24
      unfold Oper.wp execOp
      go_simp
      exact hKK
     rcases i with _|i
     ·cases ho;cases hd
      obtain rfl:=hw (by decide)
      have q25:a.tmps.getD 25 undef=.pointer (some ⟨gb,0,none⟩):=hdep ⟨6,.data⟩ (by simp) rfl (by decide) _ 25 rfl rfl
      rw[Array.getD_eq_getD_getElem?] at q25
      unfold Oper.wp execOp
      go_simp
      exact hKK
     rcases i with _|i
     ·cases ho;cases hd
      obtain rfl:=hw (by decide)
      have q26:a.tmps.getD 26 undef=.pointer (some ⟨gb,14,none⟩):=hdep ⟨7,.data⟩ (by simp) rfl (by decide) _ 26 rfl rfl
      rw[Array.getD_eq_getD_getElem?] at q26
      unfold Oper.wp execOp
      go_simp
      exact hKK
     rcases i with _|i
     ·exact absurd rfl hic
     rcases i with _|i
     ·cases ho;cases hd
      obtain⟨q28,hpq⟩:=hr (by decide)
      obtain⟨u,rfl,-⟩:=hpq
      rw[Array.getD_eq_getD_getElem?] at q28
      unfold Oper.wp execOp
      go_simp
      exact hKK
     rcases i with _|i
     ·cases ho;cases hd
      obtain⟨-,hpq⟩:=hr (by decide)
      obtain⟨u,rfl,-⟩:=hpq
      have q18:a.tmps.getD 18 undef=.tuple #[u,.nilIface]:=hdep ⟨10,.data⟩ (by simp) rfl (by decide) _ 18 rfl rfl
      rw[Array.getD_eq_getD_getElem?] at q18
      unfold Oper.wp execOp
      go_simp
      exact hKK
     rcases i with _|i
     ·cases ho;cases hd
      obtain⟨-,hpq⟩:=hr (by decide)
      obtain⟨u,rfl,-⟩:=hpq
      have q18:a.tmps.getD 18 undef=.tuple #[u,.nilIface]:=hdep ⟨10,.data⟩ (by simp) rfl (by decide) _ 18 rfl rfl
      rw[Array.getD_eq_getD_getElem?] at q18
      unfold Oper.wp execOp
      go_simp
      exact hKK
     rcases i with _|i
     ·cases ho;cases hd
      obtain⟨-,hpq⟩:=hr (by decide)
      obtain⟨u,rfl,-⟩:=hpq
      have q29:a.tmps.getD 29 undef=u:=hdep ⟨11,.data⟩ (by simp) rfl (by decide) _ 29 rfl rfl
      rw[Array.getD_eq_getD_getElem?] at q29
      unfold Oper.wp execOp
      go_simp
      exact hKK
     rcases i with _|i
     ·cases ho;cases hd
      obtain⟨-,hpq⟩:=hr (by decide)
      obtain⟨u,rfl,-⟩:=hpq
      have q30:a.tmps.getD 30 undef=.nilIface:=hdep ⟨12,.data⟩ (by simp) rfl (by decide) _ 30 rfl rfl
      rw[Array.getD_eq_getD_getElem?] at q30
      unfold Oper.wp execOp
      go_simp
      exact hKK
     ·cases ho
    ·intro a hdep hold KK hKK
     have q19:a.tmps.getD 19 undef=.int .i64 A:=hdep ⟨0,.data⟩ (by simp) rfl _ 19 rfl rfl
     rw[Array.getD_eq_getD_getElem?] at q19
     have q23:a.tmps.getD 23 undef=.int .i64 s.size:=hdep ⟨4,.data⟩ (by simp) rfl _ 23 rfl rfl
     rw[Array.getD_eq_getD_getElem?] at q23
     have q27:a.tmps.getD 27 undef=.int .i64 s.slide:=hdep ⟨8,.data⟩ (by simp) rfl _ 27 rfl rfl
     rw[Array.getD_eq_getD_getElem?] at q27
     unfold Oper.wp execOp
     go_simp
     refine (cS _).mono ?_
     rintro e w3 ⟨⟨u,rfl,hu⟩,b3⟩
     exact hKK _ _ ⟨u,rfl,trivial,(Below.drew (Below.refl _ _)).trans (b3.mono (by simp))⟩
    ·intro r wq hp vs hvs
     obtain⟨u,rfl,-,hB⟩:=hp
     have ev0:vs 0=.int .i64 A:=hvs 0
     have ev1:vs 1=.pointer (some ⟨gb,0,none⟩):=hvs 1
     have ev2:vs 2=.pointer (some ⟨gb,0,none⟩):=hvs 2
     have ev3:vs 3=.pointer (some ⟨gb,13,none⟩):=hvs 3
     have ev4:vs 4=.int .i64 s.size:=hvs 4
     have ev5:vs 5=.pointer (some ⟨gb,0,none⟩):=hvs 5
     have ev6:vs 6=.pointer (some ⟨gb,0,none⟩):=hvs 6
     have ev7:vs 7=.pointer (some ⟨gb,14,none⟩):=hvs 7
     have ev8:vs 8=.int .i64 s.slide:=hvs 8
     have ev9:vs 9=.tuple #[u,.nilIface]:=hvs 9
     have ev10:vs 10=.tuple #[u,.nilIface]:=hvs 10
     have ev11:vs 11=u:=hvs 11
     have ev12:vs 12=.nilIface:=hvs 12
     have ev13:vs 13=u:=hvs 13
     have ev14:vs 14=.nilIface:=hvs 14
     clear hvs
     change Exit.then _ _ Exit.normal ((((((((((((((((_:Act).put (some 19) (vs 0)).put (some 20) (vs 1)).put (some 21) (vs 2)).put (some 22) (vs 3)).put (some 23) (vs 4)).put (some 24) (vs 5)).put (some 25) (vs 6)).put (some 26) (vs 7)).put (some 27) (vs 8)).put (some 28) (vs 9)).put (some 18) (vs 10)).put (some 29) (vs 11)).put (some 30) (vs 12)).put (some 6) (vs 13)).put (some 7) (vs 14)) _
     rw[ev0,ev1,ev2,ev3,ev4,ev5,ev6,ev7,ev8,ev9,ev10,ev11,ev12,ev13,ev14]
     clear ev0 ev1 ev2 ev3 ev4 ev5 ev6 ev7 ev8 ev9 ev10 ev11 ev12 ev13 ev14
     simp only[Act.put,List.setIfInBounds_toArray,List.set_cons_succ,List.set_cons_zero]
     go_wp2
     go_meet
     case rel=>exact⟨rfl,hB⟩
   case rest =>
    rename World=>wc
    obtain⟨rfl,HBC⟩:=hcut
    obtain⟨q1,q2,q3,q4,q5,q6,q7⟩:=HALL.out _ HBC.out
    have cF:=fun W (hb:Below w.heap.size w W)=>HCF.out W hb
    have hB6:Below w.heap.size w wc.drew:=q6.drew
    have cF6:=cF _ hB6
    clear cS cF
    go_wp2
    go_region
    all_goals
     go_wp2_with fail
     refine cF6.mono ?_
     rintro e w4 ⟨rfl,b4⟩
     have B4:=hB6.trans (b4.mono hB6.size)
     have hs4:=B4.size
     have HP:Aside (PhPd w (w4.alloc (.cells #[.slice none 0 0,.int .i64 6,.int .i64 0] 49)) base ps0 gb s ov xs (last,xs.map Wm.pl) [([],6,0)] (.slice (some ⟨w4.heap.size,0,none⟩) 1 1)):=PhPd.old (zgG hs4 (zab _ _ _)) H.out.top (H.out.on (B4.alloc hs4 _)) rfl (Kp.of_below (B4.alloc hs4 _)) fun k hk=>hk
     clear cF6 b4 B4
     go_wp2
     go_ret
     exact⟨_,rfl,HP⟩
  ·have hnl:¬A<(last,xs.map Wm.pl).1:=hlate
   have hpp:pushP ps0 s.size s.slide (last,xs.map Wm.pl) A (T,P,E) (keyP rs ns)=((A,(adW (stP A s.size s.slide) (T,P,E) (keyP rs ns) (leftB s.size A (xs.map Wm.pl))).1),(toldB s.size A (xs.map Wm.pl)).flatMap (wOt ps0)++if (adW (stP A s.size s.slide) (T,P,E) (keyP rs ns) (leftB s.size A (xs.map Wm.pl))).2=0 then [] else [([],(adW (stP A s.size s.slide) (T,P,E) (keyP rs ns) (leftB s.size A (xs.map Wm.pl))).2,0)]):=by rw[pushP,if_neg (fun h=>h hAr),if_neg hnl]
   rw[hpp]
   clear hpp hnl
   obtain⟨J,hJ1,hJ2,hJ3,hJ4,hJ5⟩:=zkU (fun x:PW=>decide (x.1+s.size≤A)) (xs.map Wm.pl)
   have hTB:toldB s.size A (xs.map Wm.pl)=(xs.take J).map Wm.pl:=by rw[toldB,hJ2,List.map_take]
   have hLB:leftB s.size A (xs.map Wm.pl)=(xs.drop J).map Wm.pl:=by rw[leftB,hJ3,List.map_drop]
   have hrise:(xs.map Wm.pl).Pairwise fun x y=>x.1<y.1:=hst.ok.rise
   have hlh:=zeo (size:=s.size) (A:=A) hrise
   rw[hLB] at hlh
   rw[hTB,hLB,List.flatMap_map]
   have hJx:J≤xs.length:=by rw[List.length_map] at hJ1;exact hJ1
   have hn:xs.length≤1000:=by
    have:=hst.few ⟨s1,s2⟩
    rw[List.length_map] at this
    exact this
   have hwin:∀x∈xs,0≤x.fr∧last-s.size<x.fr∧x.fr≤last:=fun x hx=>hst.win _ (List.mem_map_of_mem hx)
   have htm:=hst.time
   have hgs:∀x∈xs,x.gs.length≤40∧∀g∈x.gs,g.key.length≤1000∧∀v∈g.key,v.2.2.size≤40:=fun x hx=>by
    have hg:=hst.ok.ok _ (List.mem_map_of_mem hx)
    refine⟨by have:=hg.few;rw[Wm.pl,List.length_map] at this;exact this,fun g hgm=>?_⟩
    have hok:OkK kt g.key:=(hg.ok _ (List.mem_map_of_mem hgm)).1
    exact⟨by rw[hok.len];exact hm,hok.small⟩
   have hD1:∀j,j<J→decide ((xs.getD j dwm).fr+s.size≤A)=true:=fun j hj=>by
    have hjx:j<xs.length:=by omega
    have:=hJ4 j (by rw[List.length_map];exact hjx) hj
    rw[List.getElem_map] at this
    rw[zbd hjx]
    exact this
   have hD2:J<xs.length→decide ((xs.getD J dwm).fr+s.size≤A)=false:=fun hj=>by
    have:=hJ5 (by rw[List.length_map];exact hj)
    rw[List.getElem_map] at this
    rw[zbd hj]
    exact this
   have hS0:∀k,GrS gb ov xs k→k<w.heap.size:=fun k hk=>by
    rcases h.in_ k hk with h|h
    ·omega
    ·exact h.2
   have hlen:((xs.take J).flatMap fun a=>wOt ps0 a.pl).length≤100000:=by
    rw[List.length_flatMap]
    have:∀l:List Wm,(∀x∈l,x.gs.length≤40)→(l.map fun x=>(wOt ps0 x.pl).length).sum≤40*l.length:=fun l=>by
     induction l with
     | nil=>intro _;simp
     | cons x t ih =>
      intro hx
      have h1:=hx x (List.mem_cons_self ..)
      have h2:=ih (fun y hy=>hx y (List.mem_cons_of_mem _ hy))
      rw[List.map_cons,List.sum_cons,List.length_cons]
      have h3:(wOt ps0 x.pl).length=x.gs.length:=by rw[wOt,List.length_map,Wm.pl,List.length_map]
      omega
    have h4:=this (xs.take J) (fun x hx=>(hgs x (List.mem_of_mem_take hx)).1)
    have h5:(xs.take J).length≤1000:=by rw[List.length_take];omega
    omega
   have HLEN:Aside _:=hlen
   obtain⟨tk,htk⟩:∃tk,(T,P,E)=tk:=⟨_,rfl⟩
   -- what add gives,in a world that is known by what was kept
   have cAdd:=fun (W5:World) (ov':Value) (HG:GrAt W5 base ps0 gb s A ov' (xs.drop J)) (HK:Kp (GrS gb ov xs) w W5) (HF:∀k,GrS gb ov' (xs.drop J) k→GrS gb ov xs k) (u:Value) (hu:IntA W5 u (stP A s.size s.slide)) (hun:∀k,u.ownBlock=some k→w.heap.size≤k) =>
    zoy HG (GrAt.but hb1 HK (fun k hk=>by rcases h.in_ k hk with h|h;exact .inl h;exact .inr (by omega)) (by omega)) hbase (hst.ok.sub (by rw[List.map_drop];exact List.drop_sublist J _)) u (stP A s.size s.slide) hu (fun k hk hs=>by have:=hun k hk;have:=hS0 k (HF k hs);omega) f1 hc hm (max 0 (A-s.size+1)) A (by omega) (fun x hx=>by
     have h1:=hlh x hx
     obtain⟨y,hy,rfl⟩:=List.mem_map.1 hx
     have h2:=hwin y (List.mem_of_mem_drop hy)
     have e:y.pl.1=y.fr:=rfl
     rw[e] at h1 ⊢
     omega) (fun f hf=>by have:=f3 f hf;omega) f2 (some ⟨rb,ro,none⟩) rc rs (zdp hr HK hrd) (hrd.imp id (fun h b o e hs=>h b o e (HF b hs))) hrl p pc ns hp hnl hPl hi hkey T P E hT hTo hN
   have HADD:Aside _:=cAdd
   have cTell:=fun (W4:World) (HG:GrAt W4 base ps0 gb s A ov xs) (het:EtAt W4) (hb:base≤W4.heap.size) (q1:W4.cell? ⟨w.heap.size,0,none⟩=some (.pointer (some ⟨gb,0,none⟩))) (q2:W4.cell? ⟨w.heap.size+1,0,none⟩=some (.int .i64 A)) =>
    zkV HG het hb hp0 (by omega) hgs 106 (fun args W=>by kernel_rfl) #[.pointer (some ⟨w.heap.size,0,none⟩),.pointer (some ⟨w.heap.size+1,0,none⟩)] (fun j=>decide ((xs.getD j dwm).fr+s.size≤A)) (zok HG A w.heap.size (w.heap.size+1) q1 q2 (fun x hx=>by have:=hwin x hx;omega) (by omega)) J hJx hD1 hD2
   have HTELL:Aside _:=cTell
   have HS0:Aside _:=hS0
   have cF:=fun (E:Int) (W:World) (hb:Bts S0 gb W1 W)=>zhp E W (hEt W hb)
   have HCF:Aside _:=cF
   have HBUT:Aside (Bts S0 gb W1 w):=hb1
   have HIN:Aside _:=h.in_
   rw[htk] at HADD ⊢
   obtain⟨ad,hAD⟩:∃ad,adW (stP A s.size s.slide) tk (keyP rs ns) ((xs.drop J).map Wm.pl)=ad:=⟨_,rfl⟩
   rw[hAD] at HADD ⊢
   obtain⟨AL,AE⟩:=ad
   simp only at HADD ⊢
   have HADP:Aside (∀(W5:World) (ov':Value),GrAt W5 base ps0 gb s A ov' (xs.drop J)→Kp (GrS gb ov xs) w W5→(∀k,GrS gb ov' (xs.drop J) k→GrS gb ov xs k)→∀u:Value,IntA W5 u (stP A s.size s.slide)→(∀k,u.ownBlock=some k→w.heap.size≤k)→Calls Tryz.prog 107 #[.pointer (some ⟨gb,0,none⟩),u,.slice (some ⟨rb,ro,none⟩) rs.length rc] W5 fun e w'=>e=.returned (errV AE)∧Aside (zaR W5 w' base ps0 gb s A ov' (xs.drop J) AL)):=HADD.out
   clear hAD HADD
   obtain⟨FL,hFL⟩:∃FL:List Ot,(if AE=0 then [] else [([],AE,0)])=FL:=⟨_,rfl⟩
   have HFL:Hid ((if AE=0 then [] else [([],AE,0)]:List Ot)=FL):=hFL
   rw[hFL]
   clear hFL
   generalize hRS:rs.length=RS at *
   clear hRS htk hst hr hrd hPl hi hkey hT hTo hN butOn hC1 hC2 hAll cF hA hia hp hc13 hc14 hc15 f1 f2 f3 hJ1 hJ2 hJ3 hJ4 hJ5 hTB hLB hrise hlh hwin hgs hD1 hD2 hS0 cAdd cTell hEt h hb1 hlen
   obtain⟨q1,q2,q3,q4,q5,q6,q7⟩:=HALL.out _ (Below.refl _ _)
   go_enter Tryz.func72,Tryz.ntmps72
   go_wp2
   go_upto_region 2 with fail
   go_cut [6,7] (fun s6 s7 wx=>∃u,s6=u∧s7=.nilIface∧Aside (IntA wx u (stP A s.size s.slide)∧∀k,u.ownBlock=some k→w.heap.size≤k)∧Aside (Below (w.heap.size+2) ((w.alloc (.cells #[.pointer (some ⟨gb,0,none⟩)] 97)).alloc (.cells #[.int .i64 A] 3)) wx))
   case first=>as_aux_lemma =>
    refine zaK 64 9 28 (by kernel_rfl) rfl (by kernel_rfl) _ rfl rfl (fun r wq=>∃u,r=.tuple #[u,.nilIface]∧(IntA wq u (stP A s.size s.slide)∧∀k,u.ownBlock=some k→w.heap.size≤k)∧Below (w.heap.size+2) ((w.alloc (.cells #[.pointer (some ⟨gb,0,none⟩)] 97)).alloc (.cells #[.int .i64 A] 3)) wq) (fun i r=>(#[.int .i64 A,.pointer (some ⟨gb,0,none⟩),.pointer (some ⟨gb,0,none⟩),.pointer (some ⟨gb,13,none⟩),.int .i64 s.size,.pointer (some ⟨gb,0,none⟩),.pointer (some ⟨gb,0,none⟩),.pointer (some ⟨gb,14,none⟩),.int .i64 s.slide]:Array Value).getD i (match i with|10=>r|11=>elemT r 0|12=>elemT r 1|13=>elemT r 0|14=>elemT r 1|_=>undef)) (fun i hi r r2=>by have hi2:i<(#[.int .i64 A,.pointer (some ⟨gb,0,none⟩),.pointer (some ⟨gb,0,none⟩),.pointer (some ⟨gb,13,none⟩),.int .i64 s.size,.pointer (some ⟨gb,0,none⟩),.pointer (some ⟨gb,0,none⟩),.pointer (some ⟨gb,14,none⟩),.int .i64 s.slide]:Array Value).size:=hi;unfold Array.getD;rw[dif_pos hi2,dif_pos hi2]) ?_ ?_ ?_
    ·intro i o d ho hd hic a wq r hw hr hdep hold KK hKK
     rcases i with _|i
     ·cases ho;cases hd
      obtain rfl:=hw (by decide)
      have q5:a.tmps.getD 5 undef=.pointer (some ⟨w.heap.size+1,0,none⟩):=hold 5 rfl
      rw[Array.getD_eq_getD_getElem?] at q5
      unfold Oper.wp execOp
      go_simp
      exact hKK
     rcases i with _|i
     ·cases ho;cases hd
      obtain rfl:=hw (by decide)
      have q2:a.tmps.getD 2 undef=.pointer (some ⟨w.heap.size,0,none⟩):=hold 2 rfl
      rw[Array.getD_eq_getD_getElem?] at q2
      unfold Oper.wp execOp
      go_simp
      exact hKK
     rcases i with _|i
     ·cases ho;cases hd
      obtain rfl:=hw (by decide)
      have q20:a.tmps.getD 20 undef=.pointer (some ⟨gb,0,none⟩):=hdep ⟨1,.data⟩ (by simp) rfl (by decide) _ 20 rfl rfl
      rw[Array.getD_eq_getD_getElem?] at q20
      unfold Oper.wp execOp
      go_simp
      exact hKK
     rcases i with _|i
     ·cases ho;cases hd
      obtain rfl:=hw (by decide)
      have q21:a.tmps.getD 21 undef=.pointer (some ⟨gb,0,none⟩):=hdep ⟨2,.data⟩ (by simp) rfl (by decide) _ 21 rfl rfl
      rw[Array.getD_eq_getD_getElem?] at q21
      unfold Oper.wp execOp
      go_simp
      exact hKK
     rcases i with _|i
     ·cases ho;cases hd
      obtain rfl:=hw (by decide)
      have q22:a.tmps.getD 22 undef=.pointer (some ⟨gb,13,none⟩):=hdep ⟨3,.data⟩ (by simp) rfl (by decide) _ 22 rfl rfl
      rw[Array.getD_eq_getD_getElem?] at q22
      unfold Oper.wp execOp
      go_simp
      exact hKK
     rcases i with _|i
     ·cases ho;cases hd
      obtain rfl:=hw (by decide)
      have q2:a.tmps.getD 2 undef=.pointer (some ⟨w.heap.size,0,none⟩):=hold 2 rfl
      rw[Array.getD_eq_getD_getElem?] at q2
      unfold Oper.wp execOp
      go_simp
      exact hKK
     rcases i with _|i
     ·cases ho;cases hd
      obtain rfl:=hw (by decide)
      have q24:a.tmps.getD 24 undef=.pointer (some ⟨gb,0,none⟩):=hdep ⟨5,.data⟩ (by simp) rfl (by decide) _ 24 rfl rfl
      rw[Array.getD_eq_getD_getElem?] at q24
      unfold Oper.wp execOp
      go_simp
      exact hKK
     rcases i with _|i
     ·cases ho;cases hd
      obtain rfl:=hw (by decide)
      have q25:a.tmps.getD 25 undef=.pointer (some ⟨gb,0,none⟩):=hdep ⟨6,.data⟩ (by simp) rfl (by decide) _ 25 rfl rfl
      rw[Array.getD_eq_getD_getElem?] at q25
      unfold Oper.wp execOp
      go_simp
      exact hKK
     rcases i with _|i
     ·cases ho;cases hd
      obtain rfl:=hw (by decide)
      have q26:a.tmps.getD 26 undef=.pointer (some ⟨gb,14,none⟩):=hdep ⟨7,.data⟩ (by simp) rfl (by decide) _ 26 rfl rfl
      rw[Array.getD_eq_getD_getElem?] at q26
      unfold Oper.wp execOp
      go_simp
      exact hKK
     rcases i with _|i
     ·exact absurd rfl hic
     rcases i with _|i
     ·cases ho;cases hd
      obtain⟨q28,hpq⟩:=hr (by decide)
      obtain⟨u,rfl,-⟩:=hpq
      rw[Array.getD_eq_getD_getElem?] at q28
      unfold Oper.wp execOp
      go_simp
      exact hKK
     rcases i with _|i
     ·cases ho;cases hd
      obtain⟨-,hpq⟩:=hr (by decide)
      obtain⟨u,rfl,-⟩:=hpq
      have q18:a.tmps.getD 18 undef=.tuple #[u,.nilIface]:=hdep ⟨10,.data⟩ (by simp) rfl (by decide) _ 18 rfl rfl
      rw[Array.getD_eq_getD_getElem?] at q18
      unfold Oper.wp execOp
      go_simp
      exact hKK
     rcases i with _|i
     ·cases ho;cases hd
      obtain⟨-,hpq⟩:=hr (by decide)
      obtain⟨u,rfl,-⟩:=hpq
      have q18:a.tmps.getD 18 undef=.tuple #[u,.nilIface]:=hdep ⟨10,.data⟩ (by simp) rfl (by decide) _ 18 rfl rfl
      rw[Array.getD_eq_getD_getElem?] at q18
      unfold Oper.wp execOp
      go_simp
      exact hKK
     rcases i with _|i
     ·cases ho;cases hd
      obtain⟨-,hpq⟩:=hr (by decide)
      obtain⟨u,rfl,-⟩:=hpq
      have q29:a.tmps.getD 29 undef=u:=hdep ⟨11,.data⟩ (by simp) rfl (by decide) _ 29 rfl rfl
      rw[Array.getD_eq_getD_getElem?] at q29
      unfold Oper.wp execOp
      go_simp
      exact hKK
     rcases i with _|i
     ·cases ho;cases hd
      obtain⟨-,hpq⟩:=hr (by decide)
      obtain⟨u,rfl,-⟩:=hpq
      have q30:a.tmps.getD 30 undef=.nilIface:=hdep ⟨12,.data⟩ (by simp) rfl (by decide) _ 30 rfl rfl
      rw[Array.getD_eq_getD_getElem?] at q30
      unfold Oper.wp execOp
      go_simp
      exact hKK
     ·cases ho
    ·intro a hdep hold KK hKK
     have q19:a.tmps.getD 19 undef=.int .i64 A:=hdep ⟨0,.data⟩ (by simp) rfl _ 19 rfl rfl
     rw[Array.getD_eq_getD_getElem?] at q19
     have q23:a.tmps.getD 23 undef=.int .i64 s.size:=hdep ⟨4,.data⟩ (by simp) rfl _ 23 rfl rfl
     rw[Array.getD_eq_getD_getElem?] at q23
     have q27:a.tmps.getD 27 undef=.int .i64 s.slide:=hdep ⟨8,.data⟩ (by simp) rfl _ 27 rfl rfl
     rw[Array.getD_eq_getD_getElem?] at q27
     unfold Oper.wp execOp
     go_simp
     refine (cS _).mono ?_
     rintro e w3 ⟨⟨u,rfl,hu,hun⟩,b3⟩
     exact hKK _ _ ⟨u,rfl,⟨hu,fun k hk=>by have:=hun k hk;simp at this;omega⟩,(Below.drew (Below.refl _ _)).trans (b3.mono (by simp))⟩
    ·intro r wq hp vs hvs
     obtain⟨u,rfl,hu,hB⟩:=hp
     have ev0:vs 0=.int .i64 A:=hvs 0
     have ev1:vs 1=.pointer (some ⟨gb,0,none⟩):=hvs 1
     have ev2:vs 2=.pointer (some ⟨gb,0,none⟩):=hvs 2
     have ev3:vs 3=.pointer (some ⟨gb,13,none⟩):=hvs 3
     have ev4:vs 4=.int .i64 s.size:=hvs 4
     have ev5:vs 5=.pointer (some ⟨gb,0,none⟩):=hvs 5
     have ev6:vs 6=.pointer (some ⟨gb,0,none⟩):=hvs 6
     have ev7:vs 7=.pointer (some ⟨gb,14,none⟩):=hvs 7
     have ev8:vs 8=.int .i64 s.slide:=hvs 8
     have ev9:vs 9=.tuple #[u,.nilIface]:=hvs 9
     have ev10:vs 10=.tuple #[u,.nilIface]:=hvs 10
     have ev11:vs 11=u:=hvs 11
     have ev12:vs 12=.nilIface:=hvs 12
     have ev13:vs 13=u:=hvs 13
     have ev14:vs 14=.nilIface:=hvs 14
     clear hvs
     change Exit.then _ _ Exit.normal ((((((((((((((((_:Act).put (some 19) (vs 0)).put (some 20) (vs 1)).put (some 21) (vs 2)).put (some 22) (vs 3)).put (some 23) (vs 4)).put (some 24) (vs 5)).put (some 25) (vs 6)).put (some 26) (vs 7)).put (some 27) (vs 8)).put (some 28) (vs 9)).put (some 18) (vs 10)).put (some 29) (vs 11)).put (some 30) (vs 12)).put (some 6) (vs 13)).put (some 7) (vs 14)) _
     rw[ev0,ev1,ev2,ev3,ev4,ev5,ev6,ev7,ev8,ev9,ev10,ev11,ev12,ev13,ev14]
     clear ev0 ev1 ev2 ev3 ev4 ev5 ev6 ev7 ev8 ev9 ev10 ev11 ev12 ev13 ev14
     simp only[Act.put,List.setIfInBounds_toArray,List.set_cons_succ,List.set_cons_zero]
     go_wp2
     go_meet
     case rel=>exact⟨u,rfl,rfl,hu,hB⟩
   case rest =>
    rename World=>wc
    obtain⟨u,hu6,rfl,HU,HBC⟩:=hcut
    subst hu6
    obtain⟨q1,q2,q3,q4,q5,q6,q7⟩:=HALL.out _ HBC.out
    have bd:Below w.heap.size w wc.drew:=q6.drew
    have GD:=H.out.on bd
    obtain⟨C,hC1,hC2⟩:=GD.blk
    have f15:wc.frozen? ⟨gb,15,none⟩=false:=((H.out.on q6).blk.elim fun C h=>h.1.frozen 15)
    obtain⟨G4,K4⟩:=GD.setlast A
    have KW4:Kp (GrS gb ov xs) w (wc.drew.setCell ⟨gb,15,none⟩ (.int .i64 A)):=(Kp.of_below bd).trans K4
    have hsz4:=KW4.size
    have hbase:=HBASE.out
    have hin:=HIN.out
    have hb4:Bts S0 gb W1 (wc.drew.setCell ⟨gb,15,none⟩ (.int .i64 A)):=GrAt.but HBUT.out KW4 (fun k hk=>by rcases hin k hk with h|h;exact .inl h;exact .inr (by omega)) (by omega)
    have hS0:=HS0.out
    have hszd:wc.drew.heap.size=wc.heap.size:=rfl
    have cT:=HTELL.out _ G4 (HET.out _ hb4) (by omega) (by rw[K4.cell 0 (by omega) (fun h=>by have:=hS0 _ h;omega)];exact q1) (by rw[K4.cell 0 (by omega) (fun h=>by have:=hS0 _ h;omega)];exact q2)
    have HQ4:Aside ((wc.drew.setCell ⟨gb,15,none⟩ (.int .i64 A)).cell? ⟨w.heap.size,0,none⟩=some (.pointer (some ⟨gb,0,none⟩))∧w.heap.size<wc.drew.heap.size):=⟨by rw[K4.cell 0 (by omega) (fun h=>by have:=hS0 _ h;omega)];exact q1,by omega⟩
    have HW4:Aside (Kp (GrS gb ov xs) wc.drew (wc.drew.setCell ⟨gb,15,none⟩ (.int .i64 A))∧Kp (GrS gb ov xs) w (wc.drew.setCell ⟨gb,15,none⟩ (.int .i64 A))):=⟨K4,KW4⟩
    have HUD:Aside (IntA wc.drew u6 (stP A s.size s.slide)):=HU.out.1.on ((Below.refl _ _).drew)
    clear hC1 hC2 GD G4 K4 KW4 hb4 hS0 hin cS hbase
    go_wp2
    go_region
    all_goals
     go_wp2_with fail
     refine cT.mono ?_
     rintro e w5 ⟨⟨v,rfl,HO⟩,HG5⟩
     obtain⟨ov',G5,K5,F5⟩:=HG5.out
     have KW5:Kp (GrS gb ov xs) w w5:=HW4.out.2.trans K5
     have hS0:=HS0.out
     have hu5:=HUD.out.kp (HW4.out.1.trans K5) (fun k hk hs=>by have:=HU.out.2 k hk;have:=hS0 k hs;omega)
     have cA:=HADP.out w5 ov' G5 KW5 F5 u6 hu5 HU.out.2
     have H5:Aside (Kp (GrS gb ov xs) w w5∧∀k,GrS gb ov' (xs.drop J) k→GrS gb ov xs k):=⟨KW5,F5⟩
     have q15:w5.cell? ⟨w.heap.size,0,none⟩=some (.pointer (some ⟨gb,0,none⟩)):=by rw[K5.cell 0 (by have:=HQ4.out.2;have:=HW4.out.1.size;omega) (fun h=>by have:=hS0 _ h;omega)];exact HQ4.out.1
     have hsz5:=KW5.size
     have hsz45:=K5.size
     clear cT HG5 G5 K5 KW5 F5 hu5 hS0 q1 q2 q3 q4 q5 f15
     clear HQ4
     generalize hW4:wc.drew.setCell ⟨gb,15,none⟩ (.int .i64 A)=W4 at *
     clear hW4
     go_wp2_with fail
     refine cA.mono ?_
     rintro e w6 ⟨rfl,HA⟩
     clear cA
     obtain⟨ov2,xs2,a1,a2,a3,a4⟩:=HA.out
     have hsz6:=a3.size
     have kall:Kp (GrS gb ov xs) w w6:=GrAt.kps (base:=base) H5.out.1 a3 (fun k hk=>.inl (H5.out.2 k hk))
     have hfoot:∀k,GrS gb ov2 xs2 k→GrS gb ov xs k∨w5.heap.size≤k:=fun k hk=>(a4 k hk).imp (H5.out.2 k) id
     have HO6:Aside (OutsG (fun k=>W4.heap.size≤k∧k<w5.heap.size) w6 v ((xs.take J).flatMap fun a=>wOt ps0 a.pl)):=HO.out.g.kp a3 (fun k hk hs=>by have:=HS0.out k (H5.out.2 k hs);have:=hk.1;omega)
     have HTOP:Aside (∀k,GrS gb ov2 xs2 k→k<w6.heap.size):=a1.top
     have hown:=HO.out.lt
     by_cases hAE:AE=0
     ·have HPF:Aside (PhPd w w6 base ps0 gb s ov xs (A,AL) (((xs.take J).flatMap fun a=>wOt ps0 a.pl)++FL) v):=by
       rw[←HFL.out,if_pos hAE,List.append_nil]
       refine⟨_,ov2,xs2,HO6.out,fun k hk=>by have:=hk.1;omega,fun k hk hd=>?_,a1,a2,kall,fun k hk=>(hfoot k hk).imp id (fun h=>by omega)⟩
       rcases hfoot k hk with h|h
       ·have:=HS0.out k h;have:=hd.1;omega
       ·have:=hd.2;omega
      clear HFL
      subst hAE
      rw[show errV 0=.nilIface from rfl]
      clear a1 a2 a3 a4 kall hfoot hown HA HO
      go_wp2
      go_ret
      exact⟨_,rfl,HPF⟩
     ·rw[show errV AE=.iface 35 (.int .i64 AE) from if_neg hAE]
      have hbase:=HBASE.out
      have hb6:Bts S0 gb W1 w6:=GrAt.but HBUT.out kall (fun k hk=>by rcases HIN.out k hk with h|h;exact .inl h;exact .inr (by omega)) (by omega)
      have cF6:=HCF.out AE w6 hb6
      have HK6:Aside (Kp (GrS gb ov xs) w w6∧∀k,GrS gb ov2 xs2 k→GrS gb ov xs k∨w5.heap.size≤k):=⟨kall,hfoot⟩
      have HG6:Aside (GrAt w6 base ps0 gb s A ov2 xs2∧xs2.map Wm.pl=AL):=⟨a1,a2⟩
      have HOWN:Aside _:=hown
      clear a1 a2 a3 a4 kall hfoot hown HA HO hbase hb6
      go_wp2_with fail
      refine cF6.mono ?_
      rintro e w7 ⟨rfl,b7⟩
      have hsz7:=b7.size
      have b8:=alB w7 (.cells #[.slice none 0 0,.int .i64 AE,.int .i64 0] 49)
      have HO8:Aside (OutsG (fun k=>W4.heap.size≤k∧k<w5.heap.size) (w7.alloc (.cells #[.slice none 0 0,.int .i64 AE,.int .i64 0] 49)) v ((xs.take J).flatMap fun a=>wOt ps0 a.pl)):=(HO6.out.on b7).on b8
      have HE8:Aside (OutsF w7.heap.size (w7.alloc (.cells #[.slice none 0 0,.int .i64 AE,.int .i64 0] 49)) (.slice (some ⟨w7.heap.size,0,none⟩) 1 1) [([],AE,0)]):=zgG (Nat.le_refl _) (zab _ _ _)
      have HG8:Aside (GrAt (w7.alloc (.cells #[.slice none 0 0,.int .i64 AE,.int .i64 0] 49)) base ps0 gb s A ov2 xs2):=(HG6.out.1.on b7).on b8
      have HK8:Aside (Kp (GrS gb ov xs) w (w7.alloc (.cells #[.slice none 0 0,.int .i64 AE,.int .i64 0] 49))):=(HK6.out.1.on b7).on b8
      have hlow:∀k,v.ownBlock=some k→k<w7.heap.size:=fun k hk=>by have:=(HOWN.out k hk).2;omega
      have hlen:((xs.take J).flatMap fun a=>wOt ps0 a.pl).length+([([],AE,0)]:List Ot).length≤1000000:=by
       have:=HLEN.out
       simp only[List.length_singleton]
       omega
      clear cF6 b7 b8
      go_wp2_with (at_builtin;refine zar rfl _ _ rfl _ _ v _ rfl HO8.out (.slice (some ⟨w7.heap.size,0,none⟩) 1 1) [([],AE,0)] rfl HE8.out.g (fun k hk hp=>by have:=hlow k hk;omega) hlen ?_)
      intro v' w9 hO hgr hown9
      have HP9:Aside (PhPd w w9 base ps0 gb s ov xs (A,AL) (((xs.take J).flatMap fun a=>wOt ps0 a.pl)++FL) v'):=by
       have hvo:=HOWN.out
       have hsz8:(w7.alloc (.cells #[.slice none 0 0,.int .i64 AE,.int .i64 0] 49)).heap.size=w7.heap.size+1:=by simp
       have hkg:Kp (fun k=>v.ownBlock=some k) (w7.alloc (.cells #[.slice none 0 0,.int .i64 AE,.int .i64 0] 49)) w9:=(Kp.refl _ _).grown hgr (fun k hk _=>hk)
       have hmu:MutS (w7.alloc (.cells #[.slice none 0 0,.int .i64 AE,.int .i64 0] 49)) (fun k=>v.ownBlock=some k):=by
        obtain⟨cs,hcs,-⟩:=HO8.out.own
        exact zdh hcs (by decide)
       rw[←HFL.out,if_neg hAE]
       refine⟨_,ov2,xs2,hO,fun k hk=>?_,fun k hk hd=>?_,HG8.out.kp hkg hmu (fun k hk hs=>?_),HG6.out.2,HK8.out.grown hgr (fun k hk hlt=>?_),fun k hk=>(HK6.out.2 k hk).imp id (fun h=>by omega)⟩
       ·rcases hk with hk|hk|hk
        ·omega
        ·omega
        ·rcases hown9 with e|e
         ·rw[e] at hk;have:=hvo k hk;omega
         ·rw[e] at hk;injection hk with hk;omega
       ·have ht:=HTOP.out k hk
        have hf:k<W4.heap.size∨w5.heap.size≤k:=(HK6.out.2 k hk).imp (fun h=>by have:=HS0.out k h;omega) id
        rcases hd with hd|hd|hd
        ·omega
        ·omega
        ·rcases hown9 with e|e
         ·rw[e] at hd;have:=hvo k hd;omega
         ·rw[e] at hd;injection hd with hd;omega
       ·have h1:=hvo k hs
        rcases HK6.out.2 k hk with h2|h2
        ·have:=HS0.out k h2;omega
        ·omega
       ·have:=(hvo k hk).1;omega
      clear hO hgr hown9 HO8 HE8 HG8 HK8
      go_wp2
      go_ret
      exact⟨_,rfl,HP9⟩
 ·have hpp:pushP ps0 s.size s.slide (last,xs.map Wm.pl) A (T,P,E) (keyP rs ns)=((last,xs.map Wm.pl),[([],1,0)]):=by rw[pushP,if_pos hAr]
  rw[hpp]
  have cS:=fun W=>stX A s.size s.slide W hAm mS mL
  rw[zpv (fun h=>hAr h.2),if_neg zpa,show errV 1=.iface 35 (.int .i64 1) from rfl] at cS
  have cF:=fun W (hb:Below w.heap.size w W)=>zhp 1 W (hEt W (butOn W hb))
  have HCF:Aside _:=cF
  generalize rs.length=RS at *
  clear hpp h hb1 hst hEt hr hrd hPl hi hkey hT hTo hN butOn hC1 hC2 hAll cF hA hia hp hc13 hc14 hc15 hbase
  obtain⟨q1,q2,q3,q4,q5,q6,q7⟩:=HALL.out _ (Below.refl _ _)
  go_enter Tryz.func72,Tryz.ntmps72
  go_wp2
  go_upto_region 2 with fail
  go_cut [6,7] (fun s6 s7 wx=>s7=.iface 35 (.int .i64 1)∧Aside (Below (w.heap.size+2) ((w.alloc (.cells #[.pointer (some ⟨gb,0,none⟩)] 97)).alloc (.cells #[.int .i64 A] 3)) wx))
  case first=>as_aux_lemma =>
   refine zaK 64 9 28 (by kernel_rfl) rfl (by kernel_rfl) _ rfl rfl (fun r wq=>∃u,r=.tuple #[u,.iface 35 (.int .i64 1)]∧True∧Below (w.heap.size+2) ((w.alloc (.cells #[.pointer (some ⟨gb,0,none⟩)] 97)).alloc (.cells #[.int .i64 A] 3)) wq) (fun i r=>(#[.int .i64 A,.pointer (some ⟨gb,0,none⟩),.pointer (some ⟨gb,0,none⟩),.pointer (some ⟨gb,13,none⟩),.int .i64 s.size,.pointer (some ⟨gb,0,none⟩),.pointer (some ⟨gb,0,none⟩),.pointer (some ⟨gb,14,none⟩),.int .i64 s.slide]:Array Value).getD i (match i with|10=>r|11=>elemT r 0|12=>elemT r 1|13=>elemT r 0|14=>elemT r 1|_=>undef)) (fun i hi r r2=>by have hi2:i<(#[.int .i64 A,.pointer (some ⟨gb,0,none⟩),.pointer (some ⟨gb,0,none⟩),.pointer (some ⟨gb,13,none⟩),.int .i64 s.size,.pointer (some ⟨gb,0,none⟩),.pointer (some ⟨gb,0,none⟩),.pointer (some ⟨gb,14,none⟩),.int .i64 s.slide]:Array Value).size:=hi;unfold Array.getD;rw[dif_pos hi2,dif_pos hi2]) ?_ ?_ ?_
   ·intro i o d ho hd hic a wq r hw hr hdep hold KK hKK
    rcases i with _|i
    ·cases ho;cases hd
     obtain rfl:=hw (by decide)
     have q5:a.tmps.getD 5 undef=.pointer (some ⟨w.heap.size+1,0,none⟩):=hold 5 rfl
     rw[Array.getD_eq_getD_getElem?] at q5
     unfold Oper.wp execOp
     go_simp
     exact hKK
    rcases i with _|i
    ·cases ho;cases hd
     obtain rfl:=hw (by decide)
     have q2:a.tmps.getD 2 undef=.pointer (some ⟨w.heap.size,0,none⟩):=hold 2 rfl
     rw[Array.getD_eq_getD_getElem?] at q2
     unfold Oper.wp execOp
     go_simp
     exact hKK
    rcases i with _|i
    ·cases ho;cases hd
     obtain rfl:=hw (by decide)
     have q20:a.tmps.getD 20 undef=.pointer (some ⟨gb,0,none⟩):=hdep ⟨1,.data⟩ (by simp) rfl (by decide) _ 20 rfl rfl
     rw[Array.getD_eq_getD_getElem?] at q20
     unfold Oper.wp execOp
     go_simp
     exact hKK
    rcases i with _|i
    ·cases ho;cases hd
     obtain rfl:=hw (by decide)
     have q21:a.tmps.getD 21 undef=.pointer (some ⟨gb,0,none⟩):=hdep ⟨2,.data⟩ (by simp) rfl (by decide) _ 21 rfl rfl
     rw[Array.getD_eq_getD_getElem?] at q21
     unfold Oper.wp execOp
     go_simp
     exact hKK
    rcases i with _|i
    ·cases ho;cases hd
     obtain rfl:=hw (by decide)
     have q22:a.tmps.getD 22 undef=.pointer (some ⟨gb,13,none⟩):=hdep ⟨3,.data⟩ (by simp) rfl (by decide) _ 22 rfl rfl
     rw[Array.getD_eq_getD_getElem?] at q22
     unfold Oper.wp execOp
     go_simp
     exact hKK
    rcases i with _|i
    ·cases ho;cases hd
     obtain rfl:=hw (by decide)
     have q2:a.tmps.getD 2 undef=.pointer (some ⟨w.heap.size,0,none⟩):=hold 2 rfl
     rw[Array.getD_eq_getD_getElem?] at q2
     unfold Oper.wp execOp
     go_simp
     exact hKK
    rcases i with _|i
    ·cases ho;cases hd
     obtain rfl:=hw (by decide)
     have q24:a.tmps.getD 24 undef=.pointer (some ⟨gb,0,none⟩):=hdep ⟨5,.data⟩ (by simp) rfl (by decide) _ 24 rfl rfl
     rw[Array.getD_eq_getD_getElem?] at q24
     unfold Oper.wp execOp
     go_simp
     exact hKK
    rcases i with _|i
    ·cases ho;cases hd
     obtain rfl:=hw (by decide)
     have q25:a.tmps.getD 25 undef=.pointer (some ⟨gb,0,none⟩):=hdep ⟨6,.data⟩ (by simp) rfl (by decide) _ 25 rfl rfl
     rw[Array.getD_eq_getD_getElem?] at q25
     unfold Oper.wp execOp
     go_simp
     exact hKK
    rcases i with _|i
    ·cases ho;cases hd
     obtain rfl:=hw (by decide)
     have q26:a.tmps.getD 26 undef=.pointer (some ⟨gb,14,none⟩):=hdep ⟨7,.data⟩ (by simp) rfl (by decide) _ 26 rfl rfl
     rw[Array.getD_eq_getD_getElem?] at q26
     unfold Oper.wp execOp
     go_simp
     exact hKK
    rcases i with _|i
    ·exact absurd rfl hic
    rcases i with _|i
    ·cases ho;cases hd
     obtain⟨q28,hpq⟩:=hr (by decide)
     obtain⟨u,rfl,-⟩:=hpq
     rw[Array.getD_eq_getD_getElem?] at q28
     unfold Oper.wp execOp
     go_simp
     exact hKK
    rcases i with _|i
    ·cases ho;cases hd
     obtain⟨-,hpq⟩:=hr (by decide)
     obtain⟨u,rfl,-⟩:=hpq
     have q18:a.tmps.getD 18 undef=.tuple #[u,.iface 35 (.int .i64 1)]:=hdep ⟨10,.data⟩ (by simp) rfl (by decide) _ 18 rfl rfl
     rw[Array.getD_eq_getD_getElem?] at q18
     unfold Oper.wp execOp
     go_simp
     exact hKK
    rcases i with _|i
    ·cases ho;cases hd
     obtain⟨-,hpq⟩:=hr (by decide)
     obtain⟨u,rfl,-⟩:=hpq
     have q18:a.tmps.getD 18 undef=.tuple #[u,.iface 35 (.int .i64 1)]:=hdep ⟨10,.data⟩ (by simp) rfl (by decide) _ 18 rfl rfl
     rw[Array.getD_eq_getD_getElem?] at q18
     unfold Oper.wp execOp
     go_simp
     exact hKK
    rcases i with _|i
    ·cases ho;cases hd
     obtain⟨-,hpq⟩:=hr (by decide)
     obtain⟨u,rfl,-⟩:=hpq
     have q29:a.tmps.getD 29 undef=u:=hdep ⟨11,.data⟩ (by simp) rfl (by decide) _ 29 rfl rfl
     rw[Array.getD_eq_getD_getElem?] at q29
     unfold Oper.wp execOp
     go_simp
     exact hKK
    rcases i with _|i
    ·cases ho;cases hd
     obtain⟨-,hpq⟩:=hr (by decide)
     obtain⟨u,rfl,-⟩:=hpq
     have q30:a.tmps.getD 30 undef=.iface 35 (.int .i64 1):=hdep ⟨12,.data⟩ (by simp) rfl (by decide) _ 30 rfl rfl
     rw[Array.getD_eq_getD_getElem?] at q30
     unfold Oper.wp execOp
     go_simp
     exact hKK
    ·cases ho
   ·intro a hdep hold KK hKK
    have q19:a.tmps.getD 19 undef=.int .i64 A:=hdep ⟨0,.data⟩ (by simp) rfl _ 19 rfl rfl
    rw[Array.getD_eq_getD_getElem?] at q19
    have q23:a.tmps.getD 23 undef=.int .i64 s.size:=hdep ⟨4,.data⟩ (by simp) rfl _ 23 rfl rfl
    rw[Array.getD_eq_getD_getElem?] at q23
    have q27:a.tmps.getD 27 undef=.int .i64 s.slide:=hdep ⟨8,.data⟩ (by simp) rfl _ 27 rfl rfl
    rw[Array.getD_eq_getD_getElem?] at q27
    unfold Oper.wp execOp
    go_simp
    refine (cS _).mono ?_
    rintro e w3 ⟨⟨u,rfl,hu⟩,b3⟩
    exact hKK _ _ ⟨u,rfl,trivial,(Below.drew (Below.refl _ _)).trans (b3.mono (by simp))⟩
   ·intro r wq hp vs hvs
    obtain⟨u,rfl,-,hB⟩:=hp
    have ev0:vs 0=.int .i64 A:=hvs 0
    have ev1:vs 1=.pointer (some ⟨gb,0,none⟩):=hvs 1
    have ev2:vs 2=.pointer (some ⟨gb,0,none⟩):=hvs 2
    have ev3:vs 3=.pointer (some ⟨gb,13,none⟩):=hvs 3
    have ev4:vs 4=.int .i64 s.size:=hvs 4
    have ev5:vs 5=.pointer (some ⟨gb,0,none⟩):=hvs 5
    have ev6:vs 6=.pointer (some ⟨gb,0,none⟩):=hvs 6
    have ev7:vs 7=.pointer (some ⟨gb,14,none⟩):=hvs 7
    have ev8:vs 8=.int .i64 s.slide:=hvs 8
    have ev9:vs 9=.tuple #[u,.iface 35 (.int .i64 1)]:=hvs 9
    have ev10:vs 10=.tuple #[u,.iface 35 (.int .i64 1)]:=hvs 10
    have ev11:vs 11=u:=hvs 11
    have ev12:vs 12=.iface 35 (.int .i64 1):=hvs 12
    have ev13:vs 13=u:=hvs 13
    have ev14:vs 14=.iface 35 (.int .i64 1):=hvs 14
    clear hvs
    change Exit.then _ _ Exit.normal ((((((((((((((((_:Act).put (some 19) (vs 0)).put (some 20) (vs 1)).put (some 21) (vs 2)).put (some 22) (vs 3)).put (some 23) (vs 4)).put (some 24) (vs 5)).put (some 25) (vs 6)).put (some 26) (vs 7)).put (some 27) (vs 8)).put (some 28) (vs 9)).put (some 18) (vs 10)).put (some 29) (vs 11)).put (some 30) (vs 12)).put (some 6) (vs 13)).put (some 7) (vs 14)) _
    rw[ev0,ev1,ev2,ev3,ev4,ev5,ev6,ev7,ev8,ev9,ev10,ev11,ev12,ev13,ev14]
    clear ev0 ev1 ev2 ev3 ev4 ev5 ev6 ev7 ev8 ev9 ev10 ev11 ev12 ev13 ev14
    simp only[Act.put,List.setIfInBounds_toArray,List.set_cons_succ,List.set_cons_zero]
    go_wp2
    go_meet
    case rel=>exact⟨rfl,hB⟩
  case rest =>
   rename World=>wc
   obtain⟨rfl,HBC⟩:=hcut
   obtain⟨q1,q2,q3,q4,q5,q6,q7⟩:=HALL.out _ HBC.out
   have cF:=HCF.out wc q6
   clear cS
   go_wp2_with fail
   refine cF.mono ?_
   rintro e w4 ⟨rfl,b4⟩
   have B4:=q6.trans (b4.mono q6.size)
   have hs4:=B4.size
   have HP:Aside (PhPd w (w4.alloc (.cells #[.slice none 0 0,.int .i64 1,.int .i64 0] 49)) base ps0 gb s ov xs (last,xs.map Wm.pl) [([],1,0)] (.slice (some ⟨w4.heap.size,0,none⟩) 1 1)):=PhPd.old (zgG hs4 (zab _ _ _)) H.out.top (H.out.on (B4.alloc hs4 _)) rfl (Kp.of_below (B4.alloc hs4 _)) fun k hk=>hk
   clear cF b4 B4
   go_wp2
   go_ret
   exact⟨_,rfl,HP⟩
end
end Go.Proofs.YtbdnccnfidjiaaaGreatDoor
