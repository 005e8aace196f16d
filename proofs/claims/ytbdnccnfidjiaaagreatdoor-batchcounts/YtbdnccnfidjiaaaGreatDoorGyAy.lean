/-
  BsG, KcS, FgS, KoS.
-/
import Derived.Test.YtbdnccnfidjiaaaGreatDoorGyAl
import Derived.Test.YtbdnccnfidjiaaaGreatDoorGyAi
import Derived.Test.YtbdnccnfidjiaaaGreatDoorGyAc
namespace Go.Proofs.YtbdnccnfidjiaaaGreatDoor
open Go.RowKit
set_option linter.unusedVariables false
set_option linter.unusedSimpArgs false
set_option maxHeartbeats 8000000
section
open Go.BigFrame
set_option maxRecDepth 20000 in
theorem zlE(fn:FuncId)(hent:∀(args:Array Value) (W:World),Sem.run Tryz.prog (callFunc fn args) W=.ok (.enter fn args) W)(caps:Array Value)(b off n c:Nat)(tg:Value)(ps:Nat→Value)(cs:Nat→Int)(w:World)(hn:n≤1000000)
  (hb:b<w.heap.size)(hp:∀j,j<n→w.cell? ⟨b,off+j,none⟩=some (ps j))(k:Nat)(hk:k≤n)(h1:∀j,j<k→cs j<0)(h2:∀j,k≤j→j<n→0≤cs j)
  (hc:∀j,j<n→∀W,Below w.heap.size w W→Calls Tryz.prog fn (#[ps j,tg]++caps) W fun e w'=>e=.returned (.int .i64 (cs j))∧Below W.heap.size W w') :
  Calls Tryz.prog 190 #[.slice (some ⟨b,off,none⟩) n c,tg,.func (.func fn) #[] caps] w fun e w'=>e=.returned (.tuple #[.int .i64 (k:Int),.bool (decide (k<n)&&(cs k == 0))])∧Below w.heap.size w w':=by
 have HP:=(show Aside _ from hp)
 have HC:=(show Aside _ from hc)
 have H1:=(show Aside _ from h1)
 have H2:=(show Aside _ from h2)
 have hnz:(n:Int)≤1000000:=by omega
 clear hp hc h1 h2
 go_enter Tryz.func190,Tryz.ntmps190
 go_wp2
 go_loopg [9,10,11] n (fun gg s9 s10 _ wr=>∃i j:Nat,i≤k∧k≤j∧j≤n∧j-i≤gg∧s9=.int .i64 (i:Int)∧s10=.int .i64 (j:Int)∧Aside (Below w.heap.size w wr))
 case atStart=>exact⟨0,n,Nat.zero_le _,hk,Nat.le_refl _,by omega,rfl,rfl,(show Aside _ from Below.refl _ _)⟩
 case round =>
  obtain⟨i,j,hi,hj,hjn,hg,rfl,rfl,BW⟩:=hrel
  have hiz:(i:Int)≤1000000:=by omega
  have hjz:(j:Int)≤1000000:=by omega
  have hi0:(0:Int)≤(i:Int):=by omega
  have hj0:(0:Int)≤(j:Int):=by omega
  by_cases hlt:i<j
  ·have hltz:(i:Int)<(j:Int):=by omega
   have hm:(i+j) / 2<n:=by omega
   have hcell:=HP.out _ hm
   rw[←BW.out.cell (p:=⟨b,off+(i+j) / 2,none⟩) hb] at hcell
   have cC:=HC.out _ hm wr BW.out
   by_cases hneg:cs ((i+j) / 2)<0
   ·have hk2:(i+j) / 2<k:=by
     rcases Nat.lt_or_ge ((i+j) / 2) k with h|h
     ·exact h
     ·have:=H2.out _ h hm;omega
    generalize cs ((i+j) / 2)=cv at cC hneg
    go_wp2_with fail
    refine cC.mono ?_
    rintro e w1 ⟨rfl,b1⟩
    have BW2:Aside (Below w.heap.size w w1):=BW.out.trans (b1.mono BW.out.size)
    clear cC b1 BW hcell
    go_wp2
    go_roundg (j-((i+j) / 2+1))
    case measure=>omega
    case rel=>exact⟨(i+j) / 2+1,j,by omega,hj,hjn,by omega,by (first|go_num|(congr 1;omega)),rfl,BW2⟩
   ·have hk2:k≤(i+j) / 2:=by
     rcases Nat.lt_or_ge ((i+j) / 2) k with h|h
     ·exact absurd (H1.out _ h) hneg
     ·exact h
    generalize cs ((i+j) / 2)=cv at cC hneg
    go_wp2_with fail
    refine cC.mono ?_
    rintro e w1 ⟨rfl,b1⟩
    have BW2:Aside (Below w.heap.size w w1):=BW.out.trans (b1.mono BW.out.size)
    clear cC b1 BW hcell
    go_wp2
    go_roundg ((i+j) / 2-i)
    case measure=>omega
    case rel=>exact⟨i,(i+j) / 2,hi,hk2,by omega,by omega,rfl,by (first|go_num|(congr 1;omega)),BW2⟩
  ·have hltz:¬(i:Int)<(j:Int):=by omega
   obtain rfl:k=i:=by omega
   obtain rfl:k=j:=by omega
   clear H1 H2
   by_cases hn2:k<n
   ·have hnz2:(k:Int)<(n:Int):=by omega
    have hcell:=HP.out _ hn2
    rw[←BW.out.cell (p:=⟨b,off+k,none⟩) hb] at hcell
    have cC:=HC.out _ hn2 wr BW.out
    have hd:decide (k<n)=true:=by simpa using hn2
    go_wp2_with fail
    refine cC.mono ?_
    rintro e w1 ⟨rfl,b1⟩
    have BW2:=BW.out.trans (b1.mono BW.out.size)
    clear cC b1 BW hcell HP HC
    go_wp2
    go_ret2
    refine⟨?_,BW2⟩
    rw[hd,Bool.true_and]
    rfl
   ·have hnz2:¬(k:Int)<(n:Int):=by omega
    have hd:decide (k<n)=false:=by simpa using hn2
    go_wp2
    go_ret2
    refine⟨?_,BW.out⟩
    first|rfl|(rw[hd,Bool.false_and];rfl)|(simp[hn2];rfl)
def cmpV3(a b:V3):Int:=cmpN a.1 a.2.1 a.2.2.data.toList b.1 b.2.1 b.2.2.data.toList
def keyC:List V3→List V3→Int
 | a::l,b::m=>if cmpV3 a b≠0 then cmpV3 a b else keyC l m
 | _,_=>0
theorem zen(ks ls:List V3)(k:Nat)(h1:k<ks.length)(h2:k<ls.length)(h:cmpV3 ks[k] ls[k]=0):keyC (ks.drop k) (ls.drop k)=keyC (ks.drop (k+1)) (ls.drop (k+1)):=by
 rw[List.drop_eq_getElem_cons h1,List.drop_eq_getElem_cons h2,keyC,if_neg (by simp[h])]
theorem zgB(ks ls:List V3)(k:Nat)(h1:k<ks.length)(h2:k<ls.length)(h:cmpV3 ks[k] ls[k]≠0):keyC (ks.drop k) (ls.drop k)=cmpV3 ks[k] ls[k]:=by
 rw[List.drop_eq_getElem_cons h1,List.drop_eq_getElem_cons h2,keyC,if_pos h]

theorem zeb(t n:Int)(s:ByteArray)(t' n':Int)(s':ByteArray)(w:World)(hs:s.size≤maxLen)(hs':s'.size≤maxLen) :
  Calls Tryz.prog 215 #[.agg #[.int .i64 t,.int .i64 n,.string s],.agg #[.int .i64 t',.int .i64 n',.string s']] w fun e w'=>e=.returned (.int .i64 (cmpN t n s.data.toList t' n' s'.data.toList))∧Below w.heap.size w w':=by
 have hc:=fun W=>zdH t n s t' n' s' W hs hs'
 generalize errV (cmpE t n s.data.toList t' n' s'.data.toList)=ev at hc
 generalize cmpN t n s.data.toList t' n' s'.data.toList=R at hc ⊢
 go_enter Tryz.func215,Tryz.ntmps215
 go_wp2_with fail
 refine (hc _).mono ?_
 rintro e w1 ⟨rfl,b1⟩
 have B1:Aside _:=b1
 clear hc b1
 go_wp2
 go_ret
 exact⟨rfl,((alB w _).trans ((alB _ _).mono (by simp))).trans (B1.out.mono (by simp;omega))⟩

set_option maxRecDepth 20000 in
theorem zcS(q1 q2:Option Addr)(c1 c2:Nat)(ks ls:List V3)(w:World)(hn:ks.length≤1000000)(hl:ls.length=ks.length)(h1:zaf w q1 ks)(h2:zaf w q2 ls)(hs1:∀v∈ks,v.2.2.size≤maxLen)(hs2:∀v∈ls,v.2.2.size≤maxLen) :
  Calls Tryz.prog 214 #[.slice q1 ks.length c1,.slice q2 ls.length c2,.func (.func 215) #[] #[]] w fun e w'=>e=.returned (.int .i64 (keyC ks ls))∧Below w.heap.size w w':=by
 have H1:Aside (zaf w q1 ks):=h1
 have H2:Aside (zaf w q2 ls):=h2
 have S1:Aside _:=hs1
 have S2:Aside _:=hs2
 obtain⟨N,hN⟩:∃N,ks.length=N:=⟨_,rfl⟩
 have HN:Hid (ks.length=N):=hN
 have HM:Hid (ls.length=N):=by show _=_;rw[hl,hN]
 rw[HM.out]
 rw[hN] at hn ⊢
 obtain⟨R,hR⟩:∃R,keyC ks ls=R:=⟨_,rfl⟩
 have HR0:keyC (ks.drop 0) (ls.drop 0)=R:=by rw[List.drop_zero,List.drop_zero,hR]
 have HR:Hid (keyC (ks.drop 0) (ls.drop 0)=R):=HR0
 rw[hR]
 clear h1 h2 hs1 hs2 hN hl hR HR0
 go_enter Tryz.func214,Tryz.ntmps214
 go_wp2
 go_loopg [7,13] N (fun gg _ s13 wr=>∃kk:Nat,kk≤N∧N-kk≤gg∧s13=.int .i64 kk∧Hid (keyC (ks.drop kk) (ls.drop kk)=R)∧Aside (Below w.heap.size w wr))
 case atStart=>exact⟨0,Nat.zero_le _,by omega,rfl,HR,(show Aside _ from Below.refl _ _)⟩
 case round =>
  obtain⟨kk,hkk,hg,rfl,HK,BW⟩:=hrel
  by_cases hlt:kk<N
  ·have hltz:(kk:Int)<(N:Int):=by omega
   have h0z:(0:Int)≤(kk:Int):=by omega
   have hk1:kk<ks.length:=by rw[HN.out];exact hlt
   have hk2:kk<ls.length:=by rw[HM.out];exact hlt
   obtain⟨b1,o1,rfl,l1,r1⟩:=(H1.out.on BW.out).resolve_left (by omega)
   obtain⟨b2,o2,rfl,l2,r2⟩:=(H2.out.on BW.out).resolve_left (by omega)
   obtain⟨e0,e1,e2⟩:=r1 kk hk1
   obtain⟨d0,d1,d2⟩:=r2 kk hk2
   have z1:=S1.out _ (List.getElem_mem hk1)
   have z2:=S2.out _ (List.getElem_mem hk2)
   have D0:Hid (cmpV3 ks[kk] ls[kk]=0→keyC (ks.drop (kk+1)) (ls.drop (kk+1))=R):=fun h=>by
    rw[←zen ks ls kk hk1 hk2 h];exact HK.out
   have DN:Hid (cmpV3 ks[kk] ls[kk]≠0→cmpV3 ks[kk] ls[kk]=R):=fun h=>by
    rw[←zgB ks ls kk hk1 hk2 h];exact HK.out
   clear r1 r2 HK
   generalize ks[kk]=x at e0 e1 e2 z1 D0 DN
   generalize ls[kk]=y at d0 d1 d2 z2 D0 DN
   obtain⟨xt,xn,xs⟩:=x
   obtain⟨yt,yn,ys⟩:=y
   simp only at e0 e1 e2 d0 d1 d2 z1 z2
   have hc:=fun W=>zeb xt xn xs yt yn ys W z1 z2
   rw[show cmpN xt xn xs.data.toList yt yn ys.data.toList=cmpV3 (xt,xn,xs) (yt,yn,ys) from rfl] at hc
   generalize cmpV3 (xt,xn,xs) (yt,yn,ys)=CV at hc D0 DN
   go_wp2_with fail
   refine (hc _).mono ?_
   rintro e w1 ⟨rfl,b1⟩
   have bC:Below wr.heap.size wr ((wr.alloc (.cells #[.int .i64 xt,.int .i64 xn,.string xs] 28)).alloc (.cells #[.int .i64 yt,.int .i64 yn,.string ys] 28)):=(alB wr _).alloc (by simp) _
   have B1:Aside (Below w.heap.size w w1):=BW.out.trans ((bC.trans (b1.mono bC.size)).mono BW.out.size)
   clear hc BW b1 bC e0 e1 e2 d0 d1 d2
   by_cases hcv:CV=0
   ·have HK2:Hid (keyC (ks.drop (kk+1)) (ls.drop (kk+1))=R):=D0.out hcv
    subst hcv
    clear D0 DN
    go_wp2
    go_roundg (N-(kk+1))
    case measure=>omega
    case rel=>exact⟨kk+1,by omega,by omega,by go_num,HK2,B1⟩
   ·have he:=DN.out hcv
    subst he
    clear D0 DN
    have hcv2:(CV == 0)=false:=by simpa using hcv
    go_wp2
    go_ret
    exact⟨rfl,B1.out⟩
  ·have hltz:¬(kk:Int)<(N:Int):=by omega
   obtain rfl:kk=N:=by omega
   have hz:(0:Int)=R:=by
    have h:=HK.out
    rw[List.drop_eq_nil_of_le (by rw[HN.out];exact Nat.le_refl _),List.drop_eq_nil_of_le (by rw[HM.out];exact Nat.le_refl _)] at h
    simpa [keyC] using h
   subst hz
   clear HK
   go_wp2
   go_ret
   exact⟨rfl,BW.out⟩

theorem zfh(q1 q2:Option Addr)(c1 c2:Nat)(ks ls:List V3)(w:World)(hn:ks.length≤1000000)(hl:ls.length=ks.length)(h1:zaf w q1 ks)(h2:zaf w q2 ls)(hs1:∀v∈ks,v.2.2.size≤maxLen)(hs2:∀v∈ls,v.2.2.size≤maxLen) :
  Calls Tryz.prog 192 #[.slice q1 ks.length c1,.slice q2 ls.length c2] w fun e w'=>e=.returned (.int .i64 (keyC ks ls))∧Below w.heap.size w w':=by
 have hc:=zcS q1 q2 c1 c2 ks ls w hn hl h1 h2 hs1 hs2
 generalize keyC ks ls=R at hc ⊢
 clear h1 h2 hs1 hs2 hl hn
 generalize ks.length=n1 at hc ⊢
 generalize ls.length=n2 at hc ⊢
 go_enter Tryz.func192,Tryz.ntmps192
 go_wp2_with fail
 refine hc.mono ?_
 rintro e w1 ⟨rfl,b1⟩
 have B1:Aside _:=b1
 clear hc b1
 go_wp2
 go_ret
 exact⟨rfl,B1.out⟩
theorem zou(z:Nat)(q1 q2:Option Addr)(c1 c2:Nat)(ks ls:List V3)(w:World)(hz:w.cell? ⟨z,0,none⟩=some (.slice q1 ks.length c1))(hn:ks.length≤1000000)(hl:ls.length=ks.length)(h1:zaf w q1 ks)(h2:zaf w q2 ls)(hs1:∀v∈ks,v.2.2.size≤maxLen)(hs2:∀v∈ls,v.2.2.size≤maxLen) :
  Calls Tryz.prog 191 #[.pointer (some ⟨z,0,none⟩),.slice q2 ls.length c2] w fun e w'=>e=.returned (.int .i64 (keyC ks ls))∧Below w.heap.size w w':=by
 have hc:=zfh q1 q2 c1 c2 ks ls w hn hl h1 h2 hs1 hs2
 generalize keyC ks ls=R at hc ⊢
 clear h1 h2 hs1 hs2 hl hn
 generalize ks.length=n1 at hc hz ⊢
 generalize ls.length=n2 at hc ⊢
 go_enter Tryz.func191,Tryz.ntmps191
 go_wp2_with fail
 refine hc.mono ?_
 rintro e w1 ⟨rfl,b1⟩
 have B1:Aside _:=b1
 clear hc b1
 go_wp2
 go_ret
 exact⟨rfl,B1.out⟩

structure zlv(w:World)(b n m:Nat)(zs:Nat→Nat)(K:Nat→List V3):Prop where
 lt:b<w.heap.size
 le:n≤1000000
 wide:m≤1000000
 ptr:∀j,j<n→w.cell? ⟨b,j,none⟩=some (.pointer (some ⟨zs j,0,none⟩))
 key:∀j,j<n→(K j).length=m∧∃q c,w.cell? ⟨zs j,0,none⟩=some (.slice q m c)∧zaf w q (K j)
 small:∀j,j<n→∀v∈K j,v.2.2.size≤maxLen

theorem zov(sb b n c m:Nat)(zs:Nat→Nat)(K:Nat→List V3)(q2:Option Addr)(c2:Nat)(ls:List V3)(w:World)(hs:w.cell? ⟨sb,1,none⟩=some (.slice (some ⟨b,0,none⟩) n c))(hK:zlv w b n m zs K)(hl:ls.length=m)(h2:zaf w q2 ls)(hs2:∀v∈ls,v.2.2.size≤maxLen)
  (k:Nat)(hk:k≤n)(hb1:∀j,j<k→keyC (K j) ls<0)(hb2:∀j,k≤j→j<n→0≤keyC (K j) ls) :
  Calls Tryz.prog 170 #[.pointer (some ⟨sb,0,none⟩),.slice q2 m c2] w fun e w'=>e=.returned (.tuple #[.int .i64 (k:Int),.bool (decide (k<n)&&(keyC (K k) ls == 0))])∧Below w.heap.size w w':=by
 subst hl
 have hlt:∀j,j<n→zs j<w.heap.size:=fun j hj=>by
  obtain⟨_,q,c,hz,_⟩:=hK.key j hj
  rcases Nat.lt_or_ge (zs j) w.heap.size with h|h
  ·exact h
  ·simp[World.cell?,Array.getElem?_eq_none h] at hz
 have hC:=zlE 191 (fun args W=>by kernel_rfl) #[] b 0 n c (.slice q2 ls.length c2) (fun j=>.pointer (some ⟨zs j,0,none⟩)) (fun j=>keyC (K j) ls) w hK.le hK.lt (fun j hj=>by rw[Nat.zero_add];exact hK.ptr j hj) k hk hb1 hb2 (fun j hj W hW=>by
   obtain⟨hm,q,cc,hz,hv⟩:=hK.key j hj
   have hcell:W.cell? ⟨zs j,0,none⟩=some (.slice q (K j).length cc):=by rw[hW.cell (p:=⟨zs j,0,none⟩) (hlt j hj),hm];exact hz
   exact zou (zs j) q q2 cc c2 (K j) ls W hcell (by rw[hm];exact hK.wide) hm.symm (hv.on hW) (h2.on hW) (hK.small j hj) hs2)
 generalize (decide (k<n)&&(keyC (K k) ls == 0))=r at hC ⊢
 have hw:=w.heap.size
 clear hb1 hb2 hlt hK h2 hs2
 generalize ls.length=m at hC ⊢
 go_enter Tryz.func170,Tryz.ntmps170
 go_wp2_with fail
 refine hC.mono ?_
 rintro e w' ⟨rfl,hB⟩
 have HB:=(show Aside _ from hB)
 clear hC hB hs
 go_wp2
 go_ret2
 exact⟨rfl,HB.out⟩

theorem zlU(sb b n c m:Nat)(zs:Nat→Nat)(K:Nat→List V3)(q2:Option Addr)(c2:Nat)(ls:List V3)(w:World)(hs:w.cell? ⟨sb,1,none⟩=some (.slice (some ⟨b,0,none⟩) n c))(hK:zlv w b n m zs K)(hl:ls.length=m)(h2:zaf w q2 ls)(hs2:∀v∈ls,v.2.2.size≤maxLen)
  (k:Nat)(hk:k≤n)(hb1:∀j,j<k→keyC (K j) ls<0)(hb2:∀j,k≤j→j<n→0≤keyC (K j) ls) :
  Calls Tryz.prog 141 #[.pointer (some ⟨sb,0,none⟩),.slice q2 m c2] w fun e w'=>e=.returned (.bool ((decide (k<n)&&(keyC (K k) ls == 0))||decide (n<40)))∧Below w.heap.size w w':=by
 have hsl:sb<w.heap.size:=by
  rcases Nat.lt_or_ge sb w.heap.size with h|h
  ·exact h
  ·simp[World.cell?,Array.getElem?_eq_none h] at hs
 have hC:=zov sb b n c m zs K q2 c2 ls w hs hK hl h2 hs2 k hk hb1 hb2
 have hn:=hK.le
 generalize (decide (k<n)&&(keyC (K k) ls == 0))=r at hC ⊢
 clear hb1 hb2 hK h2 hs2 hl hk
 have hS:Aside _:=hs
 have hnz:(n:Int)≤1000000:=by omega
 go_enter Tryz.func141,Tryz.ntmps141
 go_wp2_with fail
 refine hC.mono ?_
 rintro e w' ⟨rfl,hB⟩
 have hs':w'.cell? ⟨sb,1,none⟩=some (.slice (some ⟨b,0,none⟩) n c):=by rw[hB.cell (p:=⟨sb,1,none⟩) hsl];exact hs
 have HB:=(show Aside _ from hB)
 clear hC hB hs
 by_cases hr:r=true
 ·subst hr
  go_wp2
  go_ret
  exact⟨rfl,HB.out⟩
 ·have hr:r=false:=by simpa using hr
  subst hr
  by_cases h4:n<40
  ·have h4z:(n:Int)<40:=by omega
   go_wp2
   go_ret
   exact⟨by simp[h4],HB.out⟩
  ·have h4z:¬(n:Int)<40:=by omega
   go_wp2
   go_ret
   exact⟨by simp[h4];omega,HB.out⟩
end
def OkV(t:Int)(v:V3):Prop:=v.1=t∧chk v.1 v.2.1 v.2.2.data.toList=0
theorem OkV.text{v:V3}(h:OkV 3 v):v.2.1=0:=by
 obtain⟨h1,h2⟩:=h
 rw[h1] at h2
 unfold chk at h2
 split at h2
 ·cases h2
 ·split at h2
  ·cases h2
  ·split at h2
   ·cases h2
   ·split at h2
    ·cases h2
    ·next h=>simp at h;exact h
theorem OkV.other{t:Int}{v:V3}(h:OkV t v)(ht:t≠3):v.2.2.data.toList=[]:=by
 obtain⟨h1,h2⟩:=h
 rw[h1] at h2
 unfold chk at h2
 split at h2
 ·cases h2
 ·split at h2
  ·cases h2
  ·split at h2
   ·cases h2
   ·split at h2
    ·cases h2
    ·next h=>simp[ht] at h;simpa using h
theorem zcR{t:Int}{a b:V3}(ha:OkV t a)(hb:OkV t b):cmpV3 a b=if t=3 then cmpS a.2.2.data.toList b.2.2.data.toList else cmpI a.2.1 b.2.1:=by
 obtain⟨h1,h2⟩:=ha
 obtain⟨h3,h4⟩:=hb
 unfold cmpV3 cmpN cmpE
 rw[if_neg (by rw[if_neg (by simp[h2]),if_neg (by simp[h4]),if_neg (by simp[h1,h3])];simp),h1]
theorem zhi{a b:ByteArray}(h:a.data.toList=b.data.toList):a=b:=by
 obtain⟨a⟩:=a
 obtain⟨b⟩:=b
 congr 1
 exact Array.ext' h
theorem zcg(x y:List UInt8):(x<y∧cmpS x y=-1∧cmpS y x=1)∨(x=y∧cmpS x y=0)∨(y<x∧cmpS x y=1∧cmpS y x=-1):=by
 by_cases h1:x<y
 ·have h2:¬y<x:=fun h=>List.lt_irrefl _ (List.lt_trans h1 h)
  exact .inl ⟨h1,by rw[cmpS,if_pos h1],by rw[cmpS,if_neg h2,if_pos h1]⟩
 ·by_cases h2:y<x
  ·exact .inr (.inr ⟨h2,by rw[cmpS,if_neg h1,if_pos h2],by rw[cmpS,if_pos h2]⟩)
  ·exact .inr (.inl ⟨List.le_antisymm (List.not_lt.1 h2) (List.not_lt.1 h1),by rw[cmpS,if_neg h1,if_neg h2]⟩)
theorem zcf(x y:Int):(x<y∧cmpI x y=-1∧cmpI y x=1)∨(x=y∧cmpI x y=0)∨(y<x∧cmpI x y=1∧cmpI y x=-1):=by
 by_cases h1:x<y
 ·exact .inl ⟨h1,by rw[cmpI,if_pos h1],by rw[cmpI,if_neg (by omega),if_pos h1]⟩
 ·by_cases h2:y<x
  ·exact .inr (.inr ⟨h2,by rw[cmpI,if_neg h1,if_pos h2],by rw[cmpI,if_pos h2]⟩)
  ·exact .inr (.inl ⟨by omega,by rw[cmpI,if_neg h1,if_neg h2]⟩)
theorem zch{t:Int}{a b:V3}(ha:OkV t a)(hb:OkV t b):(cmpV3 a b=-1∧cmpV3 b a=1)∨(a=b∧cmpV3 a b=0)∨(cmpV3 a b=1∧cmpV3 b a=-1):=by
 rw[zcR ha hb,zcR hb ha]
 have e1:=ha.1
 have e2:=hb.1
 by_cases ht:t=3
 ·subst ht
  rw[if_pos rfl,if_pos rfl]
  rcases zcg a.2.2.data.toList b.2.2.data.toList with h|h|h
  ·exact .inl h.2
  ·refine .inr (.inl ⟨?_,h.2⟩)
   exact Prod.ext (e1.trans e2.symm) (Prod.ext (ha.text.trans hb.text.symm) (zhi h.1))
  ·exact .inr (.inr h.2)
 ·rw[if_neg ht,if_neg ht]
  rcases zcf a.2.1 b.2.1 with h|h|h
  ·exact .inl h.2
  ·refine .inr (.inl ⟨?_,h.2⟩)
   exact Prod.ext (e1.trans e2.symm) (Prod.ext h.1 (zhi ((ha.other ht).trans (hb.other ht).symm)))
  ·exact .inr (.inr h.2)
theorem zia{t:Int}{a b c:V3}(ha:OkV t a)(hb:OkV t b)(hc:OkV t c)(h1:cmpV3 a b<0)(h2:cmpV3 b c<0):cmpV3 a c<0:=by
 rw[zcR ha hb] at h1
 rw[zcR hb hc] at h2
 rw[zcR ha hc]
 by_cases ht:t=3
 ·subst ht
  rw[if_pos rfl] at *
  rcases zcg a.2.2.data.toList b.2.2.data.toList with h|h|h<;>rcases zcg b.2.2.data.toList c.2.2.data.toList with k|k|k<;>first|omega|(rw[cmpS,if_pos (List.lt_trans h.1 k.1)];decide)
 ·rw[if_neg ht] at *
  rcases zcf a.2.1 b.2.1 with h|h|h<;>rcases zcf b.2.1 c.2.1 with k|k|k<;>first|omega|(rw[cmpI,if_pos (Int.lt_trans h.1 k.1)];decide)
def OkK:List Int→List V3→Prop
 | [],[]=>True
 | t::ts,v::vs=>OkV t v∧OkK ts vs
 | _,_=>False
theorem zbM:∀{ts:List Int} {a b:List V3},OkK ts a→OkK ts b→(keyC a b<0∧0<keyC b a)∨(a=b∧keyC a b=0)∨(0<keyC a b∧keyC b a<0)
 | [],[],[],_,_=>.inr (.inl ⟨rfl,rfl⟩)
 | t::ts,x::l,y::m,ha,hb=>by
  have ih:=zbM ha.2 hb.2
  rcases zch ha.1 hb.1 with h|h|h
  ·left
   rw[keyC,keyC,if_pos (by omega),if_pos (by omega)]
   omega
  ·obtain⟨rfl,h⟩:=h
   rw[keyC,keyC,if_neg (by omega),if_neg (by omega)]
   rcases ih with k|k|k
   ·exact .inl k
   ·exact .inr (.inl ⟨by rw[k.1],k.2⟩)
   ·exact .inr (.inr k)
  ·right;right
   rw[keyC,keyC,if_pos (by omega),if_pos (by omega)]
   omega
 | [],_::_,_,ha,_=>ha.elim
 | [],[],_::_,_,hb=>hb.elim
 | _::_,[],_,ha,_=>ha.elim
 | _::_,_::_,[],_,hb=>hb.elim
theorem zfw:∀{ts:List Int} {a b c:List V3},OkK ts a→OkK ts b→OkK ts c→keyC a b<0→keyC b c<0→keyC a c<0
 | [],[],[],[],_,_,_,h,_=>by simp[keyC] at h
 | t::ts,x::l,y::m,z::n,ha,hb,hc,h1,h2=>by
  rw[keyC] at h1 h2 ⊢
  rcases zch ha.1 hb.1 with h|h|h
  ·rcases zch hb.1 hc.1 with k|k|k
   ·have:=zia ha.1 hb.1 hc.1 (by omega) (by omega)
    rw[if_pos (by omega)];exact this
   ·obtain⟨rfl,k⟩:=k
    rw[if_pos (by omega)];omega
   ·rw[if_pos (by omega)] at h2;omega
  ·obtain⟨rfl,h⟩:=h
   rw[if_neg (by omega)] at h1
   by_cases hz:cmpV3 x z=0
   ·rw[if_neg (by omega)] at h2 ⊢
    exact zfw ha.2 hb.2 hc.2 h1 h2
   ·rw[if_pos hz] at h2 ⊢
    exact h2
  ·rw[if_pos (by omega)] at h1;omega
 | [],_::_,_,_,ha,_,_,_,_=>ha.elim
 | [],[],_::_,_,_,hb,_,_,_=>hb.elim
 | [],[],[],_::_,_,_,hc,_,_=>hc.elim
 | _::_,[],_,_,ha,_,_,_,_=>ha.elim
 | _::_,_::_,[],_,_,hb,_,_,_=>hb.elim
 | _::_,_::_,_::_,[],_,_,hc,_,_=>hc.elim
end Go.Proofs.YtbdnccnfidjiaaaGreatDoor
