/-
  Row1, Row2, Row3, Row4, Row5, ColsOpen.
-/
import Derived.Test.YtbdnccnfidjiaaaGreatDoorProg
import Derived.WalkKit
import Derived.Below
import Derived.RowKitTokens
import Derived.Lib.OthersKept
import Derived.Lib.Strings
import Derived.Laws.RangeAny
import Derived.Deep.DeepCutAuto
import Derived.WalkSmall
import Derived.Deep.RegionWith
import Derived.Test.YtbdnccnfidjiaaaGreatDoorRows
import Derived.Deep.SlicePairs
import Derived.OpenShut
import Derived.Carry
import Derived.ProofKit
namespace Go.Proofs.YtbdnccnfidjiaaaGreatDoor
open Go.RowKit
set_option linter.unusedVariables false
set_option linter.unusedSimpArgs false
set_option maxHeartbeats 8000000
def zbn(w:World)(b off:Nat)(zs:List (ByteArray×Int)):Prop :=
 b<w.heap.size∧∀j (h:j<zs.length),w.cell? ⟨b,off+j*2,none⟩=some (.string zs[j].1)∧w.cell? ⟨b,off+j*2+1,none⟩=some (.int .i64 zs[j].2)
theorem zbn.on{w w':World}{b off:Nat}{zs:List (ByteArray×Int)}(h:zbn w b off zs)(hb:Below w.heap.size w w'):zbn w' b off zs :=
 ⟨by have:=hb.size;have:=h.1;omega,fun j hj=>by
  rw[hb.cell (p:=⟨b,off+j*2,none⟩) h.1,hb.cell (p:=⟨b,off+j*2+1,none⟩) h.1];exact h.2 j hj⟩
theorem zbn.take{w:World}{b off:Nat}{zs:List (ByteArray×Int)}(h:zbn w b off zs)(k:Nat):zbn w b off (zs.take k) :=
 ⟨h.1,fun j hj=>by
  have hj':j<zs.length:=by rw[List.length_take] at hj;omega
  have:=h.2 j hj'
  simpa [List.getElem_take] using this⟩
def findN(x:List UInt8)(zs:List (ByteArray×Int)):Int:=match zs.findIdx? (fun z=>z.1.data.toList == x) with
 | some k=>k
 | none=>-1
theorem zhr{x:List UInt8}{zs:List (ByteArray×Int)}{k:Nat}(h:k<zs.length)(he:zs[k].1.data.toList=x)(hn:∀j (hj:j<k),zs[j].1.data.toList≠x):findN x zs=k:=by
 have:zs.findIdx? (fun z=>z.1.data.toList == x)=some k:=by
  rw[List.findIdx?_eq_some_iff_getElem]
  exact⟨h,by simpa using he,fun j hj=>by simpa using hn j hj⟩
 rw[findN,this]
theorem zjI{x:List UInt8}{zs:List (ByteArray×Int)}(hn:∀j (hj:j<zs.length),zs[j].1.data.toList≠x):findN x zs=-1:=by
 have:zs.findIdx? (fun z=>z.1.data.toList == x)=none:=by
  rw[List.findIdx?_eq_none_iff]
  intro z hz
  obtain⟨j,hj,rfl⟩:=List.getElem_of_mem hz
  simpa using hn j hj
 rw[findN,this]

theorem zkt(nm x:ByteArray)(t:Int)(p:Nat)(w:World)(hp:w.cell? ⟨p,0,none⟩=some (.string nm)) :
  Calls Tryz.prog 135 #[.agg #[.string x,.int .i64 t],.pointer (some ⟨p,0,none⟩)] w fun e w'=>e=.returned (.bool (x.data.toList == nm.data.toList))∧Below w.heap.size w w':=by
 have hl:p<w.heap.size:=by
  rcases Nat.lt_or_ge p w.heap.size with h'|h'
  ·exact h'
  ·simp[World.cell?,Array.getElem?_eq_none h'] at hp
 go_enter Tryz.func135,Tryz.ntmps135
 go_wp2
 go_ret
 exact⟨by simp only[Lib.toList_data];rfl,(Below.refl _ _).alloc (Nat.le_refl _) _⟩
theorem zft(nm:ByteArray)(b off c p:Nat)(zs:List (ByteArray×Int))(w:World)(hn:zs.length≤9223372036854775807)(hc:zbn w b off zs)(hp:w.cell? ⟨p,0,none⟩=some (.string nm))(hpl:p<w.heap.size) :
  Calls Tryz.prog 134 #[.slice (some ⟨b,off,none⟩) zs.length c,.func (.func 135) #[] #[.pointer (some ⟨p,0,none⟩)]] w fun e w'=>e=.returned (.int .i64 (findN nm.data.toList zs))∧Below w.heap.size w w':=by
 go_enter Tryz.func134,Tryz.ntmps134
 go_wp2
 go_loopg [5,8] zs.length (fun gg _ s8 wr=>∃kk:Nat,kk≤zs.length∧zs.length-kk≤gg∧s8=.int .i64 kk∧Aside (Below w.heap.size w wr)∧Aside (∀j (hj:j<zs.length),j<kk→zs[j].1.data.toList≠nm.data.toList))
 case atStart=>exact⟨0,Nat.zero_le _,by omega,rfl,Below.refl _ w,fun j _ hj=>absurd hj (Nat.not_lt_zero _)⟩
 case round =>
  obtain⟨kk,hkk,hg,rfl,BW,A⟩:=hrel
  by_cases hlt:kk<zs.length
  ·have hltz:(kk:Int)<(zs.length:Int):=by omega
   obtain⟨c0,c1⟩:=(hc.on BW.out).2 kk hlt
   generalize hy:zs[kk]=y at c0 c1
   obtain⟨yn,yt⟩:=y
   have hcall:=zkt nm yn yt p wr (by rw[BW.out.cell (p:=⟨p,0,none⟩) hpl];exact hp)
   have HY:Hid (zs[kk]=(yn,yt)):=hy
   clear hy
   by_cases he:yn.data.toList=nm.data.toList
   ·have hq:(yn.data.toList == nm.data.toList)=true:=by simpa using he
    rw[hq] at hcall
    go_wp2_with (go_at_call 135;refine hcall.mono ?_;rintro e w' ⟨rfl,hb'⟩)
    go_ret
    refine⟨?_,BW.out.trans (hb'.mono BW.out.size)⟩
    rw[zhr hlt (by rw[HY.out];exact he) (fun j hj=>A.out j (by omega) hj)]
    rfl
   ·have hq:(yn.data.toList == nm.data.toList)=false:=by simpa using he
    rw[hq] at hcall
    go_wp2_with (go_at_call 135;refine hcall.mono ?_;rintro e w' ⟨rfl,hb'⟩)
    go_roundg (zs.length-(kk+1))
    case measure=>omega
    case rel =>
     refine⟨kk+1,by omega,by omega,by go_num,BW.out.trans (hb'.mono BW.out.size),(show Aside _ from fun j hj hjk=>?_)⟩
     by_cases e:j=kk
     ·subst e
      rw[HY.out];exact he
     ·exact A.out j hj (by omega)
  ·have hltz:¬(kk:Int)<(zs.length:Int):=by omega
   go_wp2
   go_ret
   refine⟨?_,BW.out⟩
   rw[zjI (fun j hj=>A.out j hj (by omega))]
   rfl
theorem zeA(nm:ByteArray)(b off c:Nat)(zs:List (ByteArray×Int))(w:World)(hn:zs.length≤9223372036854775807)(hc:zbn w b off zs) :
  Calls Tryz.prog 104 #[.slice (some ⟨b,off,none⟩) zs.length c,.string nm] w fun e w'=>e=.returned (.int .i64 (findN nm.data.toList zs))∧Below w.heap.size w w':=by
 have hb0:Below w.heap.size w (w.alloc (.cells #[.string nm] 9)):=(Below.refl _ _).alloc (Nat.le_refl _) _
 have hc1:=hc.on hb0
 go_enter Tryz.func104,Tryz.ntmps104
 go_wp2_with fail
 refine (zft nm b off c w.heap.size zs _ hn hc1 (by simp) (by simp)).mono ?_
 rintro e w' ⟨rfl,b1⟩
 go_wp2
 go_ret
 exact⟨rfl,hb0.trans (b1.mono (by simp))⟩
theorem zcl(x:List UInt8)(zs:List (ByteArray×Int)):(findN x zs=-1∧∀j (hj:j<zs.length),zs[j].1.data.toList≠x)∨∃k:Nat,findN x zs=k∧∃h:k<zs.length,zs[k].1.data.toList=x∧∀j (hj:j<k),zs[j].1.data.toList≠x:=by
 rw[findN]
 cases h:zs.findIdx? (fun z=>z.1.data.toList == x) with
 | none =>
  left
  refine⟨rfl,fun j hj=>?_⟩
  rw[List.findIdx?_eq_none_iff] at h
  simpa using h _ (List.getElem_mem hj)
 | some k =>
  right
  rw[List.findIdx?_eq_some_iff_getElem] at h
  obtain⟨hk,he,hn⟩:=h
  exact⟨k,rfl,hk,by simpa using he,fun j hj=>by simpa using hn j hj⟩
theorem zgt(nm:ByteArray)(b off c:Nat)(zs:List (ByteArray×Int))(w:World)(hn:zs.length≤9223372036854775807)(hc:zbn w b off zs)(k:Nat)(hk:findN nm.data.toList zs=k) :
  Calls Tryz.prog 71 #[.slice (some ⟨b,off,none⟩) zs.length c,.string nm] w fun e w'=>e=.returned (.tuple #[.int .i64 k,.nilIface])∧Below w.heap.size w w':=by
 go_enter Tryz.func71,Tryz.ntmps71
 go_wp2_with fail
 refine (zeA nm b off c zs _ hn hc).mono ?_
 rintro e w' ⟨rfl,b1⟩
 rw[hk]
 go_wp2
 go_ret2
 exact⟨rfl,b1⟩
theorem zlO(nm:ByteArray)(b off c:Nat)(zs:List (ByteArray×Int))(w:World)(hn:zs.length≤9223372036854775807)(hc:zbn w b off zs)(hk:findN nm.data.toList zs=-1) :
  Calls Tryz.prog 71 #[.slice (some ⟨b,off,none⟩) zs.length c,.string nm] w fun e w'=>e=.returned (.tuple #[.int .i64 0,.iface 35 (.int .i64 5)])∧Below w.heap.size w w':=by
 go_enter Tryz.func71,Tryz.ntmps71
 go_wp2_with fail
 refine (zeA nm b off c zs _ hn hc).mono ?_
 rintro e w' ⟨rfl,b1⟩
 rw[hk]
 go_wp2
 go_ret2
 exact⟨rfl,b1⟩

def letN(c:UInt8):Bool:=decide (97≤c.toNat)&&decide (c.toNat≤122)
def nameB(l:List UInt8):Bool:=decide (1≤l.length)&&(decide (l.length≤8)&&l.all letN)
def noLet(r:Int):Bool:=decide (r<97)||decide (122<r)
theorem zdJ(r:Int)(w:World) :
  Calls Tryz.prog 116 #[.int .i32 r] w fun e w'=>e=.returned (.bool (noLet r))∧w'=w:=by
 by_cases h1:r<97
 ·rw[show noLet r=true by simp[noLet,h1]]
  go_enter Tryz.func116,Tryz.ntmps116
  go_wp2
  go_ret
  exact⟨rfl,rfl⟩
 ·by_cases h2:122<r
  ·rw[show noLet r=true by simp[noLet,h2]]
   go_enter Tryz.func116,Tryz.ntmps116
   go_wp2
   go_ret
   exact⟨rfl,rfl⟩
  ·rw[show noLet r=false by simp[noLet,h1,h2]]
   go_enter Tryz.func116,Tryz.ntmps116
   go_wp2
   go_ret
   exact⟨rfl,rfl⟩
theorem zoN(s:ByteArray)(k:Nat)(h:k<s.size):(s.data.toList.take (k+1)).all letN=((s.data.toList.take k).all letN&&letN s[k]):=by
 have:s.data.toList.take (k+1)=s.data.toList.take k++[s[k]]:=by
  rw[List.take_succ_eq_append_getElem (by simpa using h)];rfl
 rw[this,List.all_append];simp
theorem zrc(s:ByteArray)(k:Nat)(h:k<s.size)(hc:letN s[k]=false):s.data.toList.all letN=false:=by
 rw[List.all_eq_false]
 exact⟨s[k],by rw[show s[k]=s.data.toList[k]'(by simpa using h) from rfl];exact List.getElem_mem _,by simp[hc]⟩
theorem zek(s:ByteArray)(w:World) :
  Calls Tryz.prog 178 #[.string s,.func (.func 116) #[] #[],.bool true] w fun e w'=>(∃k:Int,e=.returned (.int .i64 k)∧decide (0≤k)=!s.data.toList.all letN)∧Below w.heap.size w w':=by
 go_enter Tryz.func178,Tryz.ntmps178
 go_wp2
 go_loopg [7,8] s.size (fun gf _ _ wx=>∃pos:Nat,wx.heap[w.heap.size]?=some (.stringIter s pos)∧Below w.heap.size w wx∧Hid ((s.data.toList.take pos).all letN=true)∧s.size≤pos+gf∧pos≤s.size)
 case atStart=>exact⟨0,World.iter_heap w s 0,(Below.refl _ w).alloc (Nat.le_refl _) _,(show Hid _ by simp[Hid]),by omega,by omega⟩
 case round =>
  obtain⟨pos,hit,hbw,HA,hfu,hps'⟩:=hrel
  by_cases hps:pos<s.size
  ·obtain⟨g',rfl⟩:∃g',gk=g'+1:=⟨gk-1,by omega⟩
   have hnx:∀ty,(Instr.next (.pointer (some ⟨w.heap.size,0,none⟩)) true ty).run Tryz.prog wr=_:=fun ty=>Lib.run_next_any_at wr w.heap.size s pos ty hit hps
   have hit2:=Lib.iterAt_heap wr w.heap.size s pos (pos+(Utf8.decode s pos).2) hit
   have hbw2:=Lib.below_iterAt hbw (k:=w.heap.size) (Nat.le_refl _) s (pos+(Utf8.decode s pos).2)
   by_cases hl:letN s[pos]=true
   ·have hlow:s[pos].toNat<128∧97≤s[pos].toNat∧s[pos].toNat≤122:=by simp[letN] at hl;omega
    have hd:=decode_ascii s pos hps hlow.1
    rw[hd] at hnx hit2 hbw2
    obtain⟨W,hWd⟩:∃W,wr.iterAt w.heap.size s (pos+1)=W:=⟨_,rfl⟩
    simp only[hWd] at hnx hit2 hbw2
    obtain⟨R,hR⟩:∃R:Int,(s[pos].toNat:Int)=R:=⟨_,rfl⟩
    simp only[hR] at hnx
    have cS:=zdJ R W
    rw[show noLet R=false by simp[noLet];omega] at cS
    have HT:Hid ((s.data.toList.take (pos+1)).all letN=true):=by
     show _=_
     rw[zoN s pos hps,HA.out,hl];rfl
    go_wp2_with (go_at_call 116;refine cS.mono ?_;rintro e W' ⟨rfl,rfl⟩)
    go_roundg g'
    case measure=>omega
    case rel=>exact⟨pos+1,hit2,hbw2,HT,by omega,by omega⟩
   ·have hl':letN s[pos]=false:=by simpa using hl
    have HF:Hid (s.data.toList.all letN=false):=zrc s pos hps hl'
    obtain⟨R,hR⟩:∃R,(Utf8.decode s pos).1=R:=⟨_,rfl⟩
    obtain⟨K,hK⟩:∃K,(Utf8.decode s pos).2=K:=⟨_,rfl⟩
    have hno:noLet (R:Int)=true:=by
     by_cases hlow:s[pos].toNat<128
     ·have hd:=decode_ascii s pos hps hlow
      rw[hd] at hR
      simp only at hR
      subst hR
      simp[letN] at hl'
      simp[noLet]
      omega
     ·have:=(decode_high s pos hps (by omega)).1
      rw[hR] at this
      simp[noLet];omega
    rw[hR,hK] at hnx
    rw[hK] at hit2 hbw2
    obtain⟨W,hWd⟩:∃W,wr.iterAt w.heap.size s (pos+K)=W:=⟨_,rfl⟩
    rw[hWd] at hnx hit2 hbw2
    have cS:=zdJ (R:Int) W
    rw[hno] at cS
    go_wp2_with (go_at_call 116;refine cS.mono ?_;rintro e W' ⟨rfl,rfl⟩)
    go_ret
    exact⟨⟨pos,rfl,by rw[HF.out];simp⟩,hbw2⟩
  ·have hnx:∀ty,(Instr.next (.pointer (some ⟨w.heap.size,0,none⟩)) true ty).run Tryz.prog wr=_:=fun ty=>Lib.run_next_end_at wr w.heap.size s pos ty hit hps
   have HF:Hid (s.data.toList.all letN=true):=by
    show _=_
    have:=HA.out
    rwa [List.take_of_length_le (by simp;omega)] at this
   go_wp2
   go_ret
   exact⟨⟨-1,rfl,by rw[HF.out];rfl⟩,hbw⟩
theorem zcx(s:ByteArray)(w:World) :
  Calls Tryz.prog 117 #[.string s,.func (.func 116) #[] #[]] w fun e w'=>e=.returned (.bool (!s.data.toList.all letN))∧Below w.heap.size w w':=by
 have hI:Calls Tryz.prog 149 #[.string s,.func (.func 116) #[] #[]] w fun e w'=>(∃k:Int,e=.returned (.int .i64 k)∧Hid (decide (0≤k)=!s.data.toList.all letN))∧Below w.heap.size w w':=by
  go_enter Tryz.func149,Tryz.ntmps149
  go_wp2_with fail
  refine (zek s _).mono ?_
  rintro e w' ⟨⟨k,rfl,hk⟩,b1⟩
  have HK:Hid (decide (0≤k)=!s.data.toList.all letN):=hk
  clear hk
  go_wp2
  go_ret
  exact⟨⟨k,rfl,HK⟩,b1⟩
 generalize (!s.data.toList.all letN)=g at hI
 go_enter Tryz.func117,Tryz.ntmps117
 go_wp2_with fail
 refine hI.mono ?_
 rintro e w' ⟨⟨k,rfl,HK⟩,b1⟩
 go_wp2
 go_ret
 refine⟨?_,b1⟩
 rw[←HK.out]
 rfl
theorem zcZ(s:ByteArray)(w:World)(hs:s.size≤maxLen) :
  Calls Tryz.prog 88 #[.string s] w fun e w'=>e=.returned (.bool (nameB s.data.toList))∧Below w.heap.size w w':=by
 have hs2:=hs
 unfold maxLen at hs2
 have hd:s.data.toList.length=s.size:=by simp
 by_cases h1:1≤s.size
 ·by_cases h2:s.size≤8
  ·have hnm:nameB s.data.toList=!(!s.data.toList.all letN):=by rw[nameB,hd,decide_eq_true h1,decide_eq_true h2];simp
   rw[hnm]
   generalize hg:(!s.data.toList.all letN)=g
   have cS:=zcx s
   rw[hg] at cS
   clear hg hnm
   have z1:(1:Int)≤(s.size:Int):=by omega
   have z2:(s.size:Int)≤8:=by omega
   go_enter Tryz.func88,Tryz.ntmps88
   go_wp2_with (go_at_call 117;refine (cS _).mono ?_;rintro e w' ⟨rfl,b1⟩)
   go_ret
   exact⟨rfl,b1⟩
  ·have hnm:nameB s.data.toList=false:=by rw[nameB,hd,decide_eq_false h2];simp
   rw[hnm]
   have z1:(1:Int)≤(s.size:Int):=by omega
   have z2:¬(s.size:Int)≤8:=by omega
   go_enter Tryz.func88,Tryz.ntmps88
   go_wp2
   go_ret
   exact⟨rfl,Below.refl _ _⟩
 ·have hnm:nameB s.data.toList=false:=by rw[nameB,hd,decide_eq_false h1];simp
  rw[hnm]
  have z1:¬(1:Int)≤(s.size:Int):=by omega
  go_enter Tryz.func88,Tryz.ntmps88
  go_wp2
  go_ret
  exact⟨rfl,Below.refl _ _⟩
structure TW(w:World):Prop where
 c0:w.cell? ⟨7,0,none⟩=some (.int .i64 1)
 c1:w.cell? ⟨7,1,none⟩=some (.string ⟨#[105,110,116]⟩)
 c2:w.cell? ⟨7,2,none⟩=some (.int .i64 2)
 c3:w.cell? ⟨7,3,none⟩=some (.string ⟨#[98,111,111,108]⟩)
 c4:w.cell? ⟨7,4,none⟩=some (.int .i64 3)
 c5:w.cell? ⟨7,5,none⟩=some (.string ⟨#[116,101,120,116]⟩)
 lt:7<w.heap.size
theorem TW.on{w w':World}(h:TW w)(hb:Below w.heap.size w w'):TW w':=by
 have hl:=h.lt
 have hz:=hb.size
 refine⟨?_,?_,?_,?_,?_,?_,by omega⟩
 ·rw[hb.cell (p:=⟨7,0,none⟩) hl];exact h.c0
 ·rw[hb.cell (p:=⟨7,1,none⟩) hl];exact h.c1
 ·rw[hb.cell (p:=⟨7,2,none⟩) hl];exact h.c2
 ·rw[hb.cell (p:=⟨7,3,none⟩) hl];exact h.c3
 ·rw[hb.cell (p:=⟨7,4,none⟩) hl];exact h.c4
 ·rw[hb.cell (p:=⟨7,5,none⟩) hl];exact h.c5
theorem zbw{w:World}{b o:Nat}{v:Value}(h:w.cell? ⟨b,o,none⟩=some v):b<w.heap.size:=by
 rcases Nat.lt_or_ge b w.heap.size with h'|h'
 ·exact h'
 ·simp[World.cell?,Array.getElem?_eq_none h'] at h
theorem zbF{W w1:World}(hb:Below W.heap.size W w1):(∀b o,b<W.heap.size→w1.cell? ⟨b,o,none⟩=W.cell? ⟨b,o,none⟩)∧(∀b o,b<W.heap.size→w1.frozen? ⟨b,o,none⟩=W.frozen? ⟨b,o,none⟩) :=
 ⟨fun b o h=>hb.cell (p:=⟨b,o,none⟩) h,fun b o h=>hb.frozen (p:=⟨b,o,none⟩) h⟩

theorem zav(wt:Int)(ww:ByteArray)(t:Int)(p:Nat)(r:Bool)(w:World)(hp:w.cell? ⟨p,0,none⟩=some (.int .i64 t))(hr:(wt == t)=r) :
  Calls Tryz.prog 158 #[.agg #[.int .i64 wt,.string ww],.pointer (some ⟨p,0,none⟩)] w fun e w'=>e=.returned (.bool r)∧Below w.heap.size w w':=by
 have hl:=zbw hp
 go_enter Tryz.func158,Tryz.ntmps158
 go_wp2
 go_ret
 exact⟨by rw[←hr];rfl,(Below.refl _ _).alloc (Nat.le_refl _) _⟩
theorem tw_0(W:World):Sem.run Tryz.prog (Instr.index 269 (.agg #[.int .i64 1,.string ⟨#[105,110,116]⟩,.int .i64 2,.string ⟨#[98,111,111,108]⟩,.int .i64 3,.string ⟨#[116,101,120,116]⟩]) (.int .i64 0)) W=.ok (.agg #[.int .i64 1,.string ⟨#[105,110,116]⟩]) W:=by kernel_rfl
theorem tw_1(W:World):Sem.run Tryz.prog (Instr.index 269 (.agg #[.int .i64 1,.string ⟨#[105,110,116]⟩,.int .i64 2,.string ⟨#[98,111,111,108]⟩,.int .i64 3,.string ⟨#[116,101,120,116]⟩]) (.int .i64 1)) W=.ok (.agg #[.int .i64 2,.string ⟨#[98,111,111,108]⟩]) W:=by kernel_rfl
theorem tw_2(W:World):Sem.run Tryz.prog (Instr.index 269 (.agg #[.int .i64 1,.string ⟨#[105,110,116]⟩,.int .i64 2,.string ⟨#[98,111,111,108]⟩,.int .i64 3,.string ⟨#[116,101,120,116]⟩]) (.int .i64 2)) W=.ok (.agg #[.int .i64 3,.string ⟨#[116,101,120,116]⟩]) W:=by kernel_rfl
structure FT(w wi:World)(p:Nat)(pv:Value):Prop where
 below:Below w.heap.size w wi
 lt:w.heap.size<wi.heap.size
 c0:wi.cell? ⟨w.heap.size,0,none⟩=some (.int .i64 0)
 c1:wi.cell? ⟨w.heap.size,1,none⟩=some (.string ⟨#[]⟩)
 f0:wi.frozen? ⟨w.heap.size,0,none⟩=false
 f1:wi.frozen? ⟨w.heap.size,1,none⟩=false
 pc:wi.cell? ⟨p,0,none⟩=some pv
theorem FT.first{w:World}{p:Nat}{pv:Value}(hp:w.cell? ⟨p,0,none⟩=some pv):FT w (w.alloc (.cells #[.int .i64 0,.string ⟨#[]⟩] 195)) p pv :=
 ⟨(Below.refl _ _).alloc (Nat.le_refl _) _,by simp,by rw[World.cell?_alloc_at _ _ _ _ rfl];rfl,by rw[World.cell?_alloc_at _ _ _ _ rfl];rfl,by simp,by simp,by rw[World.cell?_alloc_lt _ _ _ (zbw hp)];exact hp⟩
theorem FT.alloc{w wi:World}{p:Nat}{pv:Value}(h:FT w wi p pv)(o:Obj):FT w (wi.alloc o) p pv :=
 ⟨h.below.alloc h.below.size _,by have:=h.lt;simp;omega,by rw[World.cell?_alloc_lt _ _ _ h.lt];exact h.c0,by rw[World.cell?_alloc_lt _ _ _ h.lt];exact h.c1,
  by rw[World.frozen?_alloc_old _ _ _ (Nat.ne_of_lt h.lt)];exact h.f0,by rw[World.frozen?_alloc_old _ _ _ (Nat.ne_of_lt h.lt)];exact h.f1,by rw[World.cell?_alloc_lt _ _ _ (zbw h.pc)];exact h.pc⟩
theorem FT.next{w wi wj:World}{p:Nat}{pv:Value}(h:FT w wi p pv)(b:Below wi.heap.size wi wj):FT w wj p pv:=by
 obtain⟨hc,hf⟩:=zbF b
 have hz:=b.size
 exact⟨h.below.trans (b.mono h.below.size),by have:=h.lt;omega,by rw[hc _ _ h.lt];exact h.c0,by rw[hc _ _ h.lt];exact h.c1,by rw[hf _ _ h.lt];exact h.f0,by rw[hf _ _ h.lt];exact h.f1,by rw[hc _ _ (zbw h.pc)];exact h.pc⟩

set_option maxRecDepth 20000 in
theorem zqI(t:Int)(p:Nat)(w:World)(hw:TW w)(hp:w.cell? ⟨p,0,none⟩=some (.int .i64 t))(h1:((1:Int) == t)=true) :
  Calls Tryz.prog 157 #[.func (.func 158) #[] #[.pointer (some ⟨p,0,none⟩)]] w fun e w'=>e=.returned (.tuple #[.agg #[.int .i64 1,.string ⟨#[105,110,116]⟩],.bool true])∧Below w.heap.size w w':=by
 obtain⟨g0,g1,g2,g3,g4,g5,gl⟩:=hw
 have x0:=tw_0
 have x1:=tw_1
 have x2:=tw_2
 have F0:FT w _ p (.int .i64 t):=FT.first hp
 go_enter Tryz.func157,Tryz.ntmps157
 go_wp2
 refine wp_loop_rounds 1 ?_
 rw[rounds_succ]
 go_wp2_with fail
 have F0a:=F0.alloc (.cells #[.int .i64 1,.string ⟨#[105,110,116]⟩] 195)
 refine (zav 1 ⟨#[105,110,116]⟩ t p true _ F0a.pc h1).mono ?_
 rintro e w1 ⟨rfl,b1⟩
 have F1:=F0a.next b1
 obtain⟨hc1,hf1⟩:=zbF b1
 have l1:=F1.lt
 have q0:=F1.c0
 have q1:=F1.c1
 have q2:=F1.f0
 have q3:=F1.f1
 go_wp2
 refine bodyPost_ret (v:=(.tuple #[.agg #[.int .i64 1,.string ⟨#[105,110,116]⟩],.bool true])) (by simp[results,Tryz.results157,go_sem,q0,q1]) rfl ⟨rfl,?_⟩
 exact (F1.below.setCell (Nat.le_refl _) _).setCell (Nat.le_refl _) _
set_option maxRecDepth 20000 in
theorem zqJ(t:Int)(p:Nat)(w:World)(hw:TW w)(hp:w.cell? ⟨p,0,none⟩=some (.int .i64 t))(h1:((1:Int) == t)=false)(h2:((2:Int) == t)=true) :
  Calls Tryz.prog 157 #[.func (.func 158) #[] #[.pointer (some ⟨p,0,none⟩)]] w fun e w'=>e=.returned (.tuple #[.agg #[.int .i64 2,.string ⟨#[98,111,111,108]⟩],.bool true])∧Below w.heap.size w w':=by
 obtain⟨g0,g1,g2,g3,g4,g5,gl⟩:=hw
 have x0:=tw_0
 have x1:=tw_1
 have x2:=tw_2
 have F0:FT w _ p (.int .i64 t):=FT.first hp
 go_enter Tryz.func157,Tryz.ntmps157
 go_wp2
 refine wp_loop_rounds 2 ?_
 rw[rounds_succ]
 go_wp2_with fail
 have F0a:=F0.alloc (.cells #[.int .i64 1,.string ⟨#[105,110,116]⟩] 195)
 refine (zav 1 ⟨#[105,110,116]⟩ t p false _ F0a.pc h1).mono ?_
 rintro e w1 ⟨rfl,b1⟩
 have F1:=F0a.next b1
 obtain⟨hc1,hf1⟩:=zbF b1
 have l1:=F1.lt
 go_wp2
 rw[rounds_succ]
 go_wp2_with fail
 have F1a:=F1.alloc (.cells #[.int .i64 2,.string ⟨#[98,111,111,108]⟩] 195)
 refine (zav 2 ⟨#[98,111,111,108]⟩ t p true _ F1a.pc h2).mono ?_
 rintro e w2 ⟨rfl,b2⟩
 have F2:=F1a.next b2
 obtain⟨hc2,hf2⟩:=zbF b2
 have l2:=F2.lt
 have q0:=F2.c0
 have q1:=F2.c1
 have q2:=F2.f0
 have q3:=F2.f1
 go_wp2
 refine bodyPost_ret (v:=(.tuple #[.agg #[.int .i64 2,.string ⟨#[98,111,111,108]⟩],.bool true])) (by simp[results,Tryz.results157,go_sem,q0,q1]) rfl ⟨rfl,?_⟩
 exact (F2.below.setCell (Nat.le_refl _) _).setCell (Nat.le_refl _) _
set_option maxRecDepth 20000 in
theorem zqK(t:Int)(p:Nat)(w:World)(hw:TW w)(hp:w.cell? ⟨p,0,none⟩=some (.int .i64 t))(h1:((1:Int) == t)=false)(h2:((2:Int) == t)=false)(h3:((3:Int) == t)=true) :
  Calls Tryz.prog 157 #[.func (.func 158) #[] #[.pointer (some ⟨p,0,none⟩)]] w fun e w'=>e=.returned (.tuple #[.agg #[.int .i64 3,.string ⟨#[116,101,120,116]⟩],.bool true])∧Below w.heap.size w w':=by
 obtain⟨g0,g1,g2,g3,g4,g5,gl⟩:=hw
 have x0:=tw_0
 have x1:=tw_1
 have x2:=tw_2
 have F0:FT w _ p (.int .i64 t):=FT.first hp
 go_enter Tryz.func157,Tryz.ntmps157
 go_wp2
 refine wp_loop_rounds 3 ?_
 rw[rounds_succ]
 go_wp2_with fail
 have F0a:=F0.alloc (.cells #[.int .i64 1,.string ⟨#[105,110,116]⟩] 195)
 refine (zav 1 ⟨#[105,110,116]⟩ t p false _ F0a.pc h1).mono ?_
 rintro e w1 ⟨rfl,b1⟩
 have F1:=F0a.next b1
 obtain⟨hc1,hf1⟩:=zbF b1
 have l1:=F1.lt
 go_wp2
 rw[rounds_succ]
 go_wp2_with fail
 have F1a:=F1.alloc (.cells #[.int .i64 2,.string ⟨#[98,111,111,108]⟩] 195)
 refine (zav 2 ⟨#[98,111,111,108]⟩ t p false _ F1a.pc h2).mono ?_
 rintro e w2 ⟨rfl,b2⟩
 have F2:=F1a.next b2
 obtain⟨hc2,hf2⟩:=zbF b2
 have l2:=F2.lt
 go_wp2
 rw[rounds_succ]
 go_wp2_with fail
 have F2a:=F2.alloc (.cells #[.int .i64 3,.string ⟨#[116,101,120,116]⟩] 195)
 refine (zav 3 ⟨#[116,101,120,116]⟩ t p true _ F2a.pc h3).mono ?_
 rintro e w3 ⟨rfl,b3⟩
 have F3:=F2a.next b3
 obtain⟨hc3,hf3⟩:=zbF b3
 have l3:=F3.lt
 have q0:=F3.c0
 have q1:=F3.c1
 have q2:=F3.f0
 have q3:=F3.f1
 go_wp2
 refine bodyPost_ret (v:=(.tuple #[.agg #[.int .i64 3,.string ⟨#[116,101,120,116]⟩],.bool true])) (by simp[results,Tryz.results157,go_sem,q0,q1]) rfl ⟨rfl,?_⟩
 exact (F3.below.setCell (Nat.le_refl _) _).setCell (Nat.le_refl _) _
set_option maxRecDepth 20000 in
theorem zqH(t:Int)(p:Nat)(w:World)(hw:TW w)(hp:w.cell? ⟨p,0,none⟩=some (.int .i64 t))(h1:((1:Int) == t)=false)(h2:((2:Int) == t)=false)(h3:((3:Int) == t)=false) :
  Calls Tryz.prog 157 #[.func (.func 158) #[] #[.pointer (some ⟨p,0,none⟩)]] w fun e w'=>e=.returned (.tuple #[.agg #[.int .i64 0,.string ⟨#[]⟩],.bool false])∧Below w.heap.size w w':=by
 obtain⟨g0,g1,g2,g3,g4,g5,gl⟩:=hw
 have x0:=tw_0
 have x1:=tw_1
 have x2:=tw_2
 have F0:FT w _ p (.int .i64 t):=FT.first hp
 go_enter Tryz.func157,Tryz.ntmps157
 go_wp2
 refine wp_loop_rounds 4 ?_
 rw[rounds_succ]
 go_wp2_with fail
 have F0a:=F0.alloc (.cells #[.int .i64 1,.string ⟨#[105,110,116]⟩] 195)
 refine (zav 1 ⟨#[105,110,116]⟩ t p false _ F0a.pc h1).mono ?_
 rintro e w1 ⟨rfl,b1⟩
 have F1:=F0a.next b1
 obtain⟨hc1,hf1⟩:=zbF b1
 have l1:=F1.lt
 go_wp2
 rw[rounds_succ]
 go_wp2_with fail
 have F1a:=F1.alloc (.cells #[.int .i64 2,.string ⟨#[98,111,111,108]⟩] 195)
 refine (zav 2 ⟨#[98,111,111,108]⟩ t p false _ F1a.pc h2).mono ?_
 rintro e w2 ⟨rfl,b2⟩
 have F2:=F1a.next b2
 obtain⟨hc2,hf2⟩:=zbF b2
 have l2:=F2.lt
 go_wp2
 rw[rounds_succ]
 go_wp2_with fail
 have F2a:=F2.alloc (.cells #[.int .i64 3,.string ⟨#[116,101,120,116]⟩] 195)
 refine (zav 3 ⟨#[116,101,120,116]⟩ t p false _ F2a.pc h3).mono ?_
 rintro e w3 ⟨rfl,b3⟩
 have F3:=F2a.next b3
 obtain⟨hc3,hf3⟩:=zbF b3
 have l3:=F3.lt
 go_wp2
 rw[rounds_succ]
 have q0:=F3.c0
 have q1:=F3.c1
 have q2:=F3.f0
 have q3:=F3.f1
 go_wp2
 refine bodyPost_ret (v:=(.tuple #[.agg #[.int .i64 0,.string ⟨#[]⟩],.bool false])) (by simp[results,Tryz.results157,go_sem,q0,q1]) rfl ⟨rfl,?_⟩
 exact (F3.below.setCell (Nat.le_refl _) _).setCell (Nat.le_refl _) _
def zsF(t:Int):ByteArray:=if t=1 then ⟨#[105,110,116]⟩ else if t=2 then ⟨#[98,111,111,108]⟩ else ⟨#[116,101,120,116]⟩
theorem Pair.new(w:World)(x y:Value)(t:TypeId):(w.alloc (.cells #[x,y] t)).cell? ⟨w.heap.size,0,none⟩=some x∧(w.alloc (.cells #[x,y] t)).cell? ⟨w.heap.size,1,none⟩=some y∧(w.alloc (.cells #[x,y] t)).frozen? ⟨w.heap.size,0,none⟩=false∧(w.alloc (.cells #[x,y] t)).frozen? ⟨w.heap.size,1,none⟩=false :=
 ⟨by rw[World.cell?_alloc_at _ _ _ _ rfl];rfl,by rw[World.cell?_alloc_at _ _ _ _ rfl];rfl,by simp,by simp⟩
theorem zcC(t a:Int)(s:ByteArray)(r:Bool)(w:World)(hw:TW w)
  (h:∀(p:Nat) (W:World),TW W→W.cell? ⟨p,0,none⟩=some (.int .i64 t)→Calls Tryz.prog 157 #[.func (.func 158) #[] #[.pointer (some ⟨p,0,none⟩)]] W fun e w'=>e=.returned (.tuple #[.agg #[.int .i64 a,.string s],.bool r])∧Below W.heap.size W w') :
  Calls Tryz.prog 122 #[.int .i64 t] w fun e w'=>e=.returned (.tuple #[.agg #[.int .i64 a,.string s],.bool r])∧Below w.heap.size w w':=by
 have B0:Below w.heap.size w ((w.alloc (.cells #[.int .i64 t] 3)).alloc (.cells #[.int .i64 0,.string ⟨#[]⟩] 195)):=((Below.refl _ _).alloc (Nat.le_refl _) _).alloc (by simp) _
 have hcall:=h w.heap.size _ (hw.on B0) (by rw[World.cell?_alloc_lt _ _ _ (by simp),World.cell?_alloc_at _ _ _ _ rfl];rfl)
 obtain⟨r0,r1,r2,r3⟩:=Pair.new (w.alloc (.cells #[.int .i64 t] 3)) (.int .i64 0) (.string ⟨#[]⟩) 195
 rw[show (w.alloc (.cells #[.int .i64 t] 3)).heap.size=w.heap.size+1 by simp] at r0 r1 r2 r3
 go_enter Tryz.func122,Tryz.ntmps122
 go_wp2_with fail
 refine hcall.mono ?_
 rintro e w1 ⟨rfl,b1⟩
 obtain⟨hc1,hf1⟩:=zbF b1
 have hz:=b1.size
 have q0:=(hc1 (w.heap.size+1) 0 (by simp)).trans r0
 have q1:=(hc1 (w.heap.size+1) 1 (by simp)).trans r1
 have q2:=(hf1 (w.heap.size+1) 0 (by simp)).trans r2
 have q3:=(hf1 (w.heap.size+1) 1 (by simp)).trans r3
 have ql:w.heap.size+1<w1.heap.size:=by simp at hz;omega
 clear hc1 hf1 r0 r1 r2 r3
 go_wp2
 refine bodyPost_ret (v:=.tuple #[.agg #[.int .i64 a,.string s],.bool r]) (by simp[results,Tryz.results122,go_sem,q0,q1]) rfl ⟨rfl,?_⟩
 exact ((B0.trans (b1.mono B0.size)).setCell (by simp) _).setCell (by simp) _
theorem zjd(t:Int)(w:World)(hw:TW w)(ht:1≤t∧t≤3) :
  Calls Tryz.prog 122 #[.int .i64 t] w fun e w'=>e=.returned (.tuple #[.agg #[.int .i64 t,.string (zsF t)],.bool true])∧Below w.heap.size w w':=by
 have h3:t=1∨t=2∨t=3:=by omega
 rcases h3 with rfl|rfl|rfl
 ·exact zcC 1 1 _ true w hw fun p W hW hp=>zqI 1 p W hW hp rfl
 ·exact zcC 2 2 _ true w hw fun p W hW hp=>zqJ 2 p W hW hp rfl rfl
 ·exact zcC 3 3 _ true w hw fun p W hW hp=>zqK 3 p W hW hp rfl rfl rfl
theorem zlG(t:Int)(w:World)(hw:TW w)(ht:¬(1≤t∧t≤3)) :
  Calls Tryz.prog 122 #[.int .i64 t] w fun e w'=>e=.returned (.tuple #[.agg #[.int .i64 0,.string ⟨#[]⟩],.bool false])∧Below w.heap.size w w' :=
 zcC t 0 _ false w hw fun p W hW hp=>zqH t p W hW hp (by simp;omega) (by simp;omega) (by simp;omega)

def errR(k:Int):Value:=if k=0 then .nilIface else .iface 35 (.int .i64 k)
theorem zqB{k:Int}(h:k≠0):errR k=.iface 35 (.int .i64 k):=by rw[errR,if_neg h]
def colE(ahead:List (ByteArray×Int))(nm:List UInt8)(t:Int):Int :=
 if nameB nm=false then 2 else if ¬(1≤t∧t≤3) then 1 else if 0≤findN nm ahead then 7 else 0
def schGo:List (ByteArray×Int)→List (ByteArray×Int)→Int
 | _,[]=>0
 | a,c::r=>if colE a c.1.data.toList c.2≠0 then colE a c.1.data.toList c.2 else schGo (a++[c]) r
def schE(zs:List (ByteArray×Int)):Int:=if zs.length=0 then 5 else if 6<zs.length then 4 else schGo [] zs

theorem zgd(nm:ByteArray)(t:Int)(b off c:Nat)(zs:List (ByteArray×Int))(w:World)(hs:nm.size≤maxLen)(hw:TW w)(hn:zs.length≤9223372036854775807)(hc:zbn w b off zs) :
  Calls Tryz.prog 93 #[.agg #[.string nm,.int .i64 t],.slice (some ⟨b,off,none⟩) zs.length c] w fun e w'=>e=.returned (errR (colE zs nm.data.toList t))∧Below w.heap.size w w':=by
 have B0:Below w.heap.size w (w.alloc (.cells #[.string nm,.int .i64 t] 25)):=(Below.refl _ _).alloc (Nat.le_refl _) _
 obtain⟨r0,r1,_,_⟩:=Pair.new w (.string nm) (.int .i64 t) 25
 have hcE:colE zs nm.data.toList t=if nameB nm.data.toList=false then 2 else if ¬(1≤t∧t≤3) then 1 else if 0≤findN nm.data.toList zs then 7 else 0:=rfl
 by_cases h1:nameB nm.data.toList=false
 ·rw[if_pos h1] at hcE
  rw[hcE]
  clear hcE
  have cN:=zcZ nm (w.alloc (.cells #[.string nm,.int .i64 t] 25)) hs
  rw[h1] at cN
  go_enter Tryz.func93,Tryz.ntmps93
  go_wp2_with fail
  refine cN.mono ?_
  rintro e w1 ⟨rfl,b1⟩
  go_wp2
  go_ret
  exact⟨rfl,B0.trans (b1.mono B0.size)⟩
 ·rw[if_neg h1] at hcE
  have cN:=zcZ nm (w.alloc (.cells #[.string nm,.int .i64 t] 25)) hs
  rw[show nameB nm.data.toList=true by simpa using h1] at cN
  clear h1
  by_cases h2:1≤t∧t≤3
  ·rw[if_neg (by simpa using h2)] at hcE
   generalize hf:findN nm.data.toList zs=fi at hcE
   have HF:Hid (findN nm.data.toList zs=fi):=hf
   clear hf
   have cT:∀W,TW W→_:=fun W hW=>zjd t W hW h2
   generalize zsF t=wd at cT
   go_enter Tryz.func93,Tryz.ntmps93
   go_wp2_with fail
   refine cN.mono ?_
   rintro e w1 ⟨rfl,b1⟩
   obtain⟨hc1,hf1⟩:=zbF b1
   have l1:w.heap.size<w1.heap.size:=by have:=b1.size;simp at this;omega
   have q0:=(hc1 w.heap.size 0 (by simp)).trans r0
   have q1:=(hc1 w.heap.size 1 (by simp)).trans r1
   have B1:=B0.trans (b1.mono B0.size)
   clear hc1 hf1 b1
   go_wp2_with fail
   refine (cT w1 (hw.on B1)).mono ?_
   rintro e w2 ⟨rfl,b2⟩
   obtain⟨hc2,hf2⟩:=zbF b2
   have l2:w.heap.size<w2.heap.size:=by have:=b2.size;omega
   have p0:=(hc2 w.heap.size 0 l1).trans q0
   have p1:=(hc2 w.heap.size 1 l1).trans q1
   have B2:=B1.trans (b2.mono B1.size)
   clear hc2 hf2 b2 q0 q1 l1
   go_wp2_with fail
   have B3:=B2.alloc B2.size (.cells #[.int .i64 t,.string wd] 195)
   refine (zeA nm b off c zs _ hn (hc.on B3)).mono ?_
   rintro e w3 ⟨rfl,b3⟩
   have B4:=B3.trans (b3.mono B3.size)
   rw[HF.out]
   by_cases h3:0≤fi
   ·rw[if_pos h3] at hcE
    go_wp2
    go_ret
    exact⟨by rw[hcE];rfl,B4⟩
   ·rw[if_neg h3] at hcE
    go_wp2
    go_ret
    exact⟨by rw[hcE];rfl,B4⟩
  ·rw[if_pos h2] at hcE
   rw[hcE]
   clear hcE
   have cT:∀W,TW W→_:=fun W hW=>zlG t W hW h2
   clear h2
   go_enter Tryz.func93,Tryz.ntmps93
   go_wp2_with fail
   refine cN.mono ?_
   rintro e w1 ⟨rfl,b1⟩
   obtain⟨hc1,hf1⟩:=zbF b1
   have l1:w.heap.size<w1.heap.size:=by have:=b1.size;simp at this;omega
   have q0:=(hc1 w.heap.size 0 (by simp)).trans r0
   have q1:=(hc1 w.heap.size 1 (by simp)).trans r1
   have B1:=B0.trans (b1.mono B0.size)
   clear hc1 hf1 b1
   go_wp2_with fail
   refine (cT w1 (hw.on B1)).mono ?_
   rintro e w2 ⟨rfl,b2⟩
   have B2:=B1.trans (b2.mono B1.size)
   go_wp2
   go_ret
   exact⟨rfl,B2.alloc B2.size _⟩
theorem zdQ(p:Option Addr)(c:Nat)(w:World) :
  Calls Tryz.prog 61 #[.slice p 0 c] w fun e w'=>e=.returned (errR 5)∧w'=w:=by
 go_enter Tryz.func61,Tryz.ntmps61
 go_wp2
 go_ret
 exact⟨rfl,rfl⟩
theorem zix(p:Option Addr)(n c:Nat)(w:World)(hn:6<n) :
  Calls Tryz.prog 61 #[.slice p n c] w fun e w'=>e=.returned (errR 4)∧w'=w:=by
 have h0:((n:Int) == 0)=false:=by simp;omega
 have h6:(6:Int)<(n:Int):=by omega
 go_enter Tryz.func61,Tryz.ntmps61
 go_wp2
 go_ret
 exact⟨rfl,rfl⟩
theorem zpo{zs:List (ByteArray×Int)}{k:Nat}(h:k<zs.length):schGo (zs.take k) (zs.drop k)=if colE (zs.take k) zs[k].1.data.toList zs[k].2≠0 then colE (zs.take k) zs[k].1.data.toList zs[k].2 else schGo (zs.take (k+1)) (zs.drop (k+1)):=by
 rw[List.drop_eq_getElem_cons h,schGo,List.take_succ_eq_append_getElem h]
theorem zqC(k:Int)(W:World):Sem.run Tryz.prog (binOp .neq 45 (errR k) .nilIface) W=.ok (.bool (k != 0)) W:=by
 by_cases h:k=0
 ·subst h;kernel_rfl
 ·rw[zqB h,show (k != 0)=true by simpa using h];kernel_rfl
theorem zor(k:Int)(W:World)(j:Nat):Sem.run Tryz.prog (eqGuard .neq 45 (.tmp j) (.const .nilIface) (errR k) .nilIface) W=.ok () W:=by
 by_cases h:k=0
 ·subst h;kernel_rfl
 ·rw[zqB h];kernel_rfl
theorem ziy(b off c:Nat)(zs:List (ByteArray×Int))(w:World)(hw:TW w)(h1:zs.length≠0)(h6:¬6<zs.length)(hcap:zs.length≤c)(hl:∀z∈zs,z.1.size≤maxLen)(hc:zbn w b off zs) :
  Calls Tryz.prog 61 #[.slice (some ⟨b,off,none⟩) zs.length c] w fun e w'=>e=.returned (errR (schGo [] zs))∧Below w.heap.size w w':=by
 have z0:((zs.length:Int) == 0)=false:=by rw[beq_eq_false_iff_ne];omega
 have z6:¬(6:Int)<(zs.length:Int):=by omega
 obtain⟨E,hE⟩:∃E,schGo [] zs=E:=⟨_,rfl⟩
 rw[hE]
 go_enter Tryz.func61,Tryz.ntmps61
 go_wp2
 go_loopg [3,4,5,16] zs.length (fun gg _ _ _ s8 wr=>∃kk:Nat,kk≤zs.length∧zs.length-kk≤gg∧s8=.int .i64 kk∧Aside (Below w.heap.size w wr)∧Hid (E=schGo (zs.take kk) (zs.drop kk)))
 case atStart=>exact⟨0,Nat.zero_le _,by omega,rfl,Below.refl _ w,(show Hid _ by simp[Hid,hE])⟩
 case round =>
  obtain⟨kk,hkk,hg,rfl,BW,HS⟩:=hrel
  by_cases hlt:kk<zs.length
  ·have hltz:(kk:Int)<(zs.length:Int):=by omega
   have hin:=hc.on BW.out
   obtain⟨c0,c1⟩:=hin.2 kk hlt
   have HS2:Hid (E=if colE (zs.take kk) zs[kk].1.data.toList zs[kk].2≠0 then colE (zs.take kk) zs[kk].1.data.toList zs[kk].2 else schGo (zs.take (kk+1)) (zs.drop (kk+1))):=HS.out.trans (zpo hlt)
   have hsz:=hl _ (List.getElem_mem hlt)
   generalize hy:zs[kk]=y at c0 c1 HS2 hsz
   obtain⟨yn,yt⟩:=y
   have B1:=BW.out.alloc BW.out.size (.cells #[.string yn,.int .i64 yt] 25)
   have hlen:(zs.take kk).length=kk:=by rw[List.length_take];omega
   have cC:=fun q=>zgd yn yt b off c (zs.take kk) ((wr.alloc (.cells #[.string yn,.int .i64 yt] 25)).drewN q) hsz (hw.on (below_drewN B1 q)) (by omega) ((hc.on (below_drewN B1 q)).take kk)
   rw[hlen] at cC
   simp only at HS2
   generalize hce:colE (zs.take kk) yn.data.toList yt=ce at cC HS2
   have e1:=zqC ce
   have e2:=zor ce
   have k1:(0:Int)≤(kk:Int):=by omega
   have k2:(kk:Int)≤(c:Int):=by omega
   clear HS hy hin hc hl hce
   go_wp2
   go_region_with (go_at_call 93;refine (cC _).mono ?_;rintro e w' ⟨rfl,b2⟩)
   have B2:=(below_drewN B1 _).trans (b2.mono (below_drewN B1 _).size)
   by_cases hz:ce=0
   ·have hb:(ce != 0)=false:=by simpa using hz
    rw[hb] at e1
    have HS3:Hid (E=schGo (zs.take (kk+1)) (zs.drop (kk+1))):=by
     have:=HS2.out
     rwa [if_neg (by simpa using hz)] at this
    clear HS2 hz hb
    go_wp2
    go_roundg (zs.length-(kk+1))
    case measure=>omega
    case rel=>exact⟨kk+1,by omega,by omega,by go_num,B2,HS3⟩
   ·have hb:(ce != 0)=true:=by simpa using hz
    rw[hb] at e1
    have HS3:E=ce:=by
     have:=HS2.out
     rwa [if_pos hz] at this
    subst HS3
    clear HS2 hz hb
    go_wp2
    go_ret
    exact⟨rfl,B2⟩
  ·have hltz:¬(kk:Int)<(zs.length:Int):=by omega
   have:kk=zs.length:=by omega
   have hz:E=0:=by
    rw[HS.out,this,List.drop_length];cases zs.take zs.length<;>rfl
   subst hz
   clear HS
   go_wp2
   go_ret
   exact⟨rfl,BW.out⟩
theorem zkI(b off c:Nat)(zs:List (ByteArray×Int))(w:World)(hw:TW w)(hcap:zs.length≤c)(hl:∀z∈zs,z.1.size≤maxLen)(hc:zbn w b off zs) :
  Calls Tryz.prog 61 #[.slice (some ⟨b,off,none⟩) zs.length c] w fun e w'=>e=.returned (errR (schE zs))∧Below w.heap.size w w':=by
 rw[schE]
 by_cases h1:zs.length=0
 ·rw[if_pos h1,h1]
  exact (zdQ _ c w).mono fun e w' hh=>⟨hh.1,by rw[hh.2];exact Below.refl _ _⟩
 ·rw[if_neg h1]
  by_cases h6:6<zs.length
  ·rw[if_pos h6]
   exact (zix _ _ c w h6).mono fun e w' hh=>⟨hh.1,by rw[hh.2];exact Below.refl _ _⟩
  ·rw[if_neg h6]
   exact ziy b off c zs w hw h1 h6 hcap hl hc
theorem zfK:∀(a r:List (ByteArray×Int)),schGo a r=0→∀k (h:k<r.length),colE (a++r.take k) r[k].1.data.toList r[k].2=0
 | a,[],_,k,h=>absurd h (by simp)
 | a,c::r,h0,k,h=>by
  rw[schGo] at h0
  by_cases hc:colE a c.1.data.toList c.2=0
  ·rw[if_neg (by simpa using hc)] at h0
   cases k with
   | zero=>simpa using hc
   | succ k =>
    have:=zfK (a++[c]) r h0 k (by simpa using h)
    simpa [List.append_assoc] using this
  ·rw[if_pos hc] at h0
   exact absurd h0 hc
theorem zlH{a:List (ByteArray×Int)}{nm:List UInt8}{t:Int}(h:colE a nm t=0):nameB nm=true∧(1≤t∧t≤3)∧findN nm a=-1:=by
 rw[colE] at h
 split at h
 ·exact absurd h (by decide)
 ·rename_i h1
  split at h
  ·exact absurd h (by decide)
  ·rename_i h2
   split at h
   ·exact absurd h (by decide)
   ·rename_i h3
    refine⟨by simpa using h1,Classical.not_not.1 h2,?_⟩
    rcases zcl nm a with ⟨e,_⟩|⟨k,e,_⟩
    ·exact e
    ·rw[e] at h3;exact absurd (by omega) h3
theorem zeF{zs:List (ByteArray×Int)}(h:schE zs=0):zs.length≠0∧zs.length≤6∧∀k (h:k<zs.length),nameB zs[k].1.data.toList=true∧(1≤zs[k].2∧zs[k].2≤3)∧findN zs[k].1.data.toList zs=k:=by
 rw[schE] at h
 split at h
 ·exact absurd h (by decide)
 ·rename_i h1
  split at h
  ·exact absurd h (by decide)
  ·rename_i h6
   refine⟨h1,by omega,fun k hk=>?_⟩
   obtain⟨e1,e2,e3⟩:=zlH (zfK [] zs h k hk)
   refine⟨e1,e2,zhr hk rfl fun j hj he=>?_⟩
   rcases zcl zs[k].1.data.toList ([]++zs.take k) with ⟨_,hn⟩|⟨i,ei,_⟩
   ·have hj2:j<([]++zs.take k).length:=by simp;omega
    have:=hn j hj2
    simp only[List.nil_append,List.getElem_take] at this
    exact this he
   ·rw[e3] at ei;omega
section
open Go.ChangeShapes Go.WideShapes Go.ChangeAt Go.Deep
theorem zkb:laidOutB Tryz.prog=true:=by kernel_rfl
theorem zoc:Tryz.prog.cellsOf 9=1:=by kernel_rfl
theorem zjf:Tryz.prog.cellsOf 3=1:=by kernel_rfl
theorem g_tw : Tryz.prog.globalNamed "sluicebook/row.typeWords" = some 7 := by kernel_rfl
theorem t_tw:(Tryz.prog.globals[7]?).map (·.type)=some 269:=by kernel_rfl
theorem zqk:Tryz.prog.cellsOf 195=2:=by kernel_rfl
theorem zqj:Tryz.prog.cellsOf 269=6:=by kernel_rfl
set_option maxRecDepth 100000 in
theorem zlb{W:World}{m:Nat}{x y:Value}{a:Int}{l:List UInt8}{ps:List MemPlace}(h:DataW.trod (fun _=>()) Tryz.prog W 0 (fun _=>true) false m 195 [x,y]=some (DataW.agg [.lit (.int .i64 a),.lit (.string l)],ps)):x=.int .i64 a∧y=.string ⟨l.toArray⟩:=by
 obtain⟨y0,y1,n,e,_,h0,h1⟩:=trod_struct2 Tryz.underlying195 h
 simp[zjf,zoc] at h0 h1
 obtain⟨k,e0,r0,_⟩:=DataW.trod_int Tryz.underlying3 h0
 obtain⟨s,e1,r1,_⟩:=DataW.trod_string Tryz.underlying9 h1
 simp at e0 e1
 subst e0 e1 r0 r1
 simp at e
 obtain⟨⟨rfl,rfl⟩,_⟩:=e
 exact⟨rfl,by simp⟩
set_option maxRecDepth 100000 in
theorem tw_of {W : World} {rest : List (String × DataW Unit)} (h : laidMet Tryz.prog (("sluicebook/row.typeWords", Rows.laid_sluicebook_row_typeWords) :: rest) W) : TW W := by
 obtain⟨ps,⟨g',t',cs,fuel,p,q,hg',ht',hvar,hd,_,_⟩,_⟩:=h
 obtain rfl:=Option.some.inj (g_tw.symm.trans hg')
 obtain rfl:=Option.some.inj (t_tw.symm.trans ht')
 obtain⟨xs,m,_,hx,hl,hlen,hel⟩:=DataW.trod_array Tryz.underlying269 hd
 rw[zqj] at hl
 rw[zqk] at hel
 have hcs:∃c0 c1 c2 c3 c4 c5,cs=#[c0,c1,c2,c3,c4,c5]:=by
  obtain⟨l⟩:=cs
  match l,hl with
  | [c0,c1,c2,c3,c4,c5],_=>exact⟨_,_,_,_,_,_,rfl⟩
 obtain⟨c0,c1,c2,c3,c4,c5,rfl⟩:=hcs
 match xs,hlen with
 | [x0,x1,x2],_ =>
  obtain⟨d0,q0⟩:=x0
  obtain⟨d1,q1⟩:=x1
  obtain⟨d2,q2⟩:=x2
  have hx2:=congrArg Prod.fst hx
  simp[Rows.laid_sluicebook_row_typeWords] at hx2
  obtain⟨r0,r1,r2⟩:=hx2
  subst r0 r1 r2
  obtain⟨e0,e1⟩:=zlb (by simpa using hel 0 (by decide))
  obtain⟨e2,e3⟩:=zlb (by simpa using hel 1 (by decide))
  obtain⟨e4,e5⟩:=zlb (by simpa using hel 2 (by decide))
  subst e0 e1 e2 e3 e4 e5
  have hc:=fun i=>World.var?_cell g_tw hvar i
  exact⟨by simpa using hc 0,by simpa using hc 1,by simpa using hc 2,by simpa using hc 3,by simpa using hc 4,by simpa using hc 5,zbw (o:=0) (by simpa using hc 0)⟩
end
end Go.Proofs.YtbdnccnfidjiaaaGreatDoor
