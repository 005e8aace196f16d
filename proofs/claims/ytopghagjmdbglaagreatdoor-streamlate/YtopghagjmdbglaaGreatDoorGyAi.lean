/-
  Row1, Row2.
-/
import Derived.Test.YtopghagjmdbglaaGreatDoorProg
import Derived.WalkKit
import Derived.Below
import Derived.RowKitTokens
import Derived.Lib.OthersKept
import Derived.Lib.Strings
import Derived.Laws.RangeAny
import Derived.Deep.DeepCutAuto
namespace Go.Proofs.YtopghagjmdbglaaGreatDoor
open Go.RowKit
set_option linter.unusedVariables false
set_option linter.unusedSimpArgs false
set_option maxHeartbeats 8000000
def zbm(w:World)(b off:Nat)(zs:List (ByteArray×Int)):Prop :=
 b<w.heap.size∧∀j (h:j<zs.length),w.cell? ⟨b,off+j*2,none⟩=some (.string zs[j].1)∧w.cell? ⟨b,off+j*2+1,none⟩=some (.int .i64 zs[j].2)
theorem zbm.on{w w':World}{b off:Nat}{zs:List (ByteArray×Int)}(h:zbm w b off zs)(hb:Below w.heap.size w w'):zbm w' b off zs :=
 ⟨by have:=hb.size;have:=h.1;omega,fun j hj=>by
  rw[hb.cell (p:=⟨b,off+j*2,none⟩) h.1,hb.cell (p:=⟨b,off+j*2+1,none⟩) h.1];exact h.2 j hj⟩
theorem zbm.take{w:World}{b off:Nat}{zs:List (ByteArray×Int)}(h:zbm w b off zs)(k:Nat):zbm w b off (zs.take k) :=
 ⟨h.1,fun j hj=>by
  have hj':j<zs.length:=by rw[List.length_take] at hj;omega
  have:=h.2 j hj'
  simpa [List.getElem_take] using this⟩
def findN(x:List UInt8)(zs:List (ByteArray×Int)):Int:=match zs.findIdx? (fun z=>z.1.data.toList == x) with
 | some k=>k
 | none=>-1
theorem zhc{x:List UInt8}{zs:List (ByteArray×Int)}{k:Nat}(h:k<zs.length)(he:zs[k].1.data.toList=x)(hn:∀j (hj:j<k),zs[j].1.data.toList≠x):findN x zs=k:=by
 have:zs.findIdx? (fun z=>z.1.data.toList == x)=some k:=by
  rw[List.findIdx?_eq_some_iff_getElem]
  exact⟨h,by simpa using he,fun j hj=>by simpa using hn j hj⟩
 rw[findN,this]
theorem zjj{x:List UInt8}{zs:List (ByteArray×Int)}(hn:∀j (hj:j<zs.length),zs[j].1.data.toList≠x):findN x zs=-1:=by
 have:zs.findIdx? (fun z=>z.1.data.toList == x)=none:=by
  rw[List.findIdx?_eq_none_iff]
  intro z hz
  obtain⟨j,hj,rfl⟩:=List.getElem_of_mem hz
  simpa using hn j hj
 rw[findN,this]

theorem zjX(nm x:ByteArray)(t:Int)(p:Nat)(w:World)(hp:w.cell? ⟨p,0,none⟩=some (.string nm)) :
  Calls Tryz.prog 140 #[.agg #[.string x,.int .i64 t],.pointer (some ⟨p,0,none⟩)] w fun e w'=>e=.returned (.bool (x.data.toList == nm.data.toList))∧Below w.heap.size w w':=by
 have hl:p<w.heap.size:=by
  rcases Nat.lt_or_ge p w.heap.size with h'|h'
  ·exact h'
  ·simp[World.cell?,Array.getElem?_eq_none h'] at hp
 go_enter Tryz.func140,Tryz.ntmps140
 go_wp2
 go_ret
 exact⟨by simp only[Lib.toList_data];rfl,(Below.refl _ _).alloc (Nat.le_refl _) _⟩
theorem zfg(nm:ByteArray)(b off c p:Nat)(zs:List (ByteArray×Int))(w:World)(hn:zs.length≤9223372036854775807)(hc:zbm w b off zs)(hp:w.cell? ⟨p,0,none⟩=some (.string nm))(hpl:p<w.heap.size) :
  Calls Tryz.prog 139 #[.slice (some ⟨b,off,none⟩) zs.length c,.func (.func 140) #[] #[.pointer (some ⟨p,0,none⟩)]] w fun e w'=>e=.returned (.int .i64 (findN nm.data.toList zs))∧Below w.heap.size w w':=by
 go_enter Tryz.func139,Tryz.ntmps139
 go_wp2
 go_loopg [5,8] zs.length (fun gg _ s8 wr=>∃kk:Nat,kk≤zs.length∧zs.length-kk≤gg∧s8=.int .i64 kk∧Aside (Below w.heap.size w wr)∧Aside (∀j (hj:j<zs.length),j<kk→zs[j].1.data.toList≠nm.data.toList))
 case atStart=>exact⟨0,Nat.zero_le _,by omega,rfl,Below.refl _ w,fun j _ hj=>absurd hj (Nat.not_lt_zero _)⟩
 case round =>
  obtain⟨kk,hkk,hg,rfl,BW,A⟩:=hrel
  by_cases hlt:kk<zs.length
  ·have hltz:(kk:Int)<(zs.length:Int):=by omega
   obtain⟨c0,c1⟩:=(hc.on BW.out).2 kk hlt
   generalize hy:zs[kk]=y at c0 c1
   obtain⟨yn,yt⟩:=y
   have hcall:=zjX nm yn yt p wr (by rw[BW.out.cell (p:=⟨p,0,none⟩) hpl];exact hp)
   have HY:Hid (zs[kk]=(yn,yt)):=hy
   clear hy
   by_cases he:yn.data.toList=nm.data.toList
   ·have hq:(yn.data.toList == nm.data.toList)=true:=by simpa using he
    rw[hq] at hcall
    go_wp2_with (go_at_call 140;refine hcall.mono ?_;rintro e w' ⟨rfl,hb'⟩)
    go_ret
    refine⟨?_,BW.out.trans (hb'.mono BW.out.size)⟩
    rw[zhc hlt (by rw[HY.out];exact he) (fun j hj=>A.out j (by omega) hj)]
    rfl
   ·have hq:(yn.data.toList == nm.data.toList)=false:=by simpa using he
    rw[hq] at hcall
    go_wp2_with (go_at_call 140;refine hcall.mono ?_;rintro e w' ⟨rfl,hb'⟩)
    go_roundg (zs.length-(kk+1))
    case measure=>omega
    case rel =>
     refine⟨kk+1,by omega,by omega,by go_num,BW.out.trans (hb'.mono BW.out.size),(show Aside _ from fun j hj hjk=>?_)⟩
     by_cases e:j=kk
     ·subst e
      rw[HY.out];exact he
     ·exact A.out j hj (by omega)
  ·have hltz:¬(kk:Int)<(zs.length:Int):=by omega
   go_wp2
   go_ret
   refine⟨?_,BW.out⟩
   rw[zjj (fun j hj=>A.out j hj (by omega))]
   rfl
theorem zen(nm:ByteArray)(b off c:Nat)(zs:List (ByteArray×Int))(w:World)(hn:zs.length≤9223372036854775807)(hc:zbm w b off zs) :
  Calls Tryz.prog 109 #[.slice (some ⟨b,off,none⟩) zs.length c,.string nm] w fun e w'=>e=.returned (.int .i64 (findN nm.data.toList zs))∧Below w.heap.size w w':=by
 have hb0:Below w.heap.size w (w.alloc (.cells #[.string nm] 9)):=(Below.refl _ _).alloc (Nat.le_refl _) _
 have hc1:=hc.on hb0
 go_enter Tryz.func109,Tryz.ntmps109
 go_wp2_with fail
 refine (zfg nm b off c w.heap.size zs _ hn hc1 (by simp) (by simp)).mono ?_
 rintro e w' ⟨rfl,b1⟩
 go_wp2
 go_ret
 exact⟨rfl,hb0.trans (b1.mono (by simp))⟩
theorem zci(x:List UInt8)(zs:List (ByteArray×Int)):(findN x zs=-1∧∀j (hj:j<zs.length),zs[j].1.data.toList≠x)∨∃k:Nat,findN x zs=k∧∃h:k<zs.length,zs[k].1.data.toList=x∧∀j (hj:j<k),zs[j].1.data.toList≠x:=by
 rw[findN]
 cases h:zs.findIdx? (fun z=>z.1.data.toList == x) with
 | none =>
  left
  refine⟨rfl,fun j hj=>?_⟩
  rw[List.findIdx?_eq_none_iff] at h
  simpa using h _ (List.getElem_mem hj)
 | some k =>
  right
  rw[List.findIdx?_eq_some_iff_getElem] at h
  obtain⟨hk,he,hn⟩:=h
  exact⟨k,rfl,hk,by simpa using he,fun j hj=>by simpa using hn j hj⟩
theorem zjk(nm:ByteArray)(b off c:Nat)(zs:List (ByteArray×Int))(w:World)(hn:zs.length≤9223372036854775807)(hc:zbm w b off zs)(k:Nat)(hk:findN nm.data.toList zs=k) :
  Calls Tryz.prog 76 #[.slice (some ⟨b,off,none⟩) zs.length c,.string nm] w fun e w'=>e=.returned (.tuple #[.int .i64 k,.nilIface])∧Below w.heap.size w w':=by
 go_enter Tryz.func76,Tryz.ntmps76
 go_wp2_with fail
 refine (zen nm b off c zs _ hn hc).mono ?_
 rintro e w' ⟨rfl,b1⟩
 rw[hk]
 go_wp2
 go_ret2
 exact⟨rfl,b1⟩
theorem zlm(nm:ByteArray)(b off c:Nat)(zs:List (ByteArray×Int))(w:World)(hn:zs.length≤9223372036854775807)(hc:zbm w b off zs)(hk:findN nm.data.toList zs=-1) :
  Calls Tryz.prog 76 #[.slice (some ⟨b,off,none⟩) zs.length c,.string nm] w fun e w'=>e=.returned (.tuple #[.int .i64 0,.iface 35 (.int .i64 5)])∧Below w.heap.size w w':=by
 go_enter Tryz.func76,Tryz.ntmps76
 go_wp2_with fail
 refine (zen nm b off c zs _ hn hc).mono ?_
 rintro e w' ⟨rfl,b1⟩
 rw[hk]
 go_wp2
 go_ret2
 exact⟨rfl,b1⟩

def letN(c:UInt8):Bool:=decide (97≤c.toNat)&&decide (c.toNat≤122)
def nameB(l:List UInt8):Bool:=decide (1≤l.length)&&(decide (l.length≤8)&&l.all letN)
def noLet(r:Int):Bool:=decide (r<97)||decide (122<r)
theorem zdz(r:Int)(w:World) :
  Calls Tryz.prog 121 #[.int .i32 r] w fun e w'=>e=.returned (.bool (noLet r))∧w'=w:=by
 by_cases h1:r<97
 ·rw[show noLet r=true by simp[noLet,h1]]
  go_enter Tryz.func121,Tryz.ntmps121
  go_wp2
  go_ret
  exact⟨rfl,rfl⟩
 ·by_cases h2:122<r
  ·rw[show noLet r=true by simp[noLet,h2]]
   go_enter Tryz.func121,Tryz.ntmps121
   go_wp2
   go_ret
   exact⟨rfl,rfl⟩
  ·rw[show noLet r=false by simp[noLet,h1,h2]]
   go_enter Tryz.func121,Tryz.ntmps121
   go_wp2
   go_ret
   exact⟨rfl,rfl⟩
theorem zog(s:ByteArray)(k:Nat)(h:k<s.size):(s.data.toList.take (k+1)).all letN=((s.data.toList.take k).all letN&&letN s[k]):=by
 have:s.data.toList.take (k+1)=s.data.toList.take k++[s[k]]:=by
  rw[List.take_succ_eq_append_getElem (by simpa using h)];rfl
 rw[this,List.all_append];simp
theorem zqq(s:ByteArray)(k:Nat)(h:k<s.size)(hc:letN s[k]=false):s.data.toList.all letN=false:=by
 rw[List.all_eq_false]
 exact⟨s[k],by rw[show s[k]=s.data.toList[k]'(by simpa using h) from rfl];exact List.getElem_mem _,by simp[hc]⟩
theorem zdY(s:ByteArray)(w:World) :
  Calls Tryz.prog 183 #[.string s,.func (.func 121) #[] #[],.bool true] w fun e w'=>(∃k:Int,e=.returned (.int .i64 k)∧decide (0≤k)=!s.data.toList.all letN)∧Below w.heap.size w w':=by
 go_enter Tryz.func183,Tryz.ntmps183
 go_wp2
 go_loopg [7,8] s.size (fun gf _ _ wx=>∃pos:Nat,wx.heap[w.heap.size]?=some (.stringIter s pos)∧Below w.heap.size w wx∧Hid ((s.data.toList.take pos).all letN=true)∧s.size≤pos+gf∧pos≤s.size)
 case atStart=>exact⟨0,World.iter_heap w s 0,(Below.refl _ w).alloc (Nat.le_refl _) _,(show Hid _ by simp[Hid]),by omega,by omega⟩
 case round =>
  obtain⟨pos,hit,hbw,HA,hfu,hps'⟩:=hrel
  by_cases hps:pos<s.size
  ·obtain⟨g',rfl⟩:∃g',gk=g'+1:=⟨gk-1,by omega⟩
   have hnx:∀ty,(Instr.next (.pointer (some ⟨w.heap.size,0,none⟩)) true ty).run Tryz.prog wr=_:=fun ty=>Lib.run_next_any_at wr w.heap.size s pos ty hit hps
   have hit2:=Lib.iterAt_heap wr w.heap.size s pos (pos+(Utf8.decode s pos).2) hit
   have hbw2:=Lib.below_iterAt hbw (k:=w.heap.size) (Nat.le_refl _) s (pos+(Utf8.decode s pos).2)
   by_cases hl:letN s[pos]=true
   ·have hlow:s[pos].toNat<128∧97≤s[pos].toNat∧s[pos].toNat≤122:=by simp[letN] at hl;omega
    have hd:=decode_ascii s pos hps hlow.1
    rw[hd] at hnx hit2 hbw2
    obtain⟨W,hWd⟩:∃W,wr.iterAt w.heap.size s (pos+1)=W:=⟨_,rfl⟩
    simp only[hWd] at hnx hit2 hbw2
    obtain⟨R,hR⟩:∃R:Int,(s[pos].toNat:Int)=R:=⟨_,rfl⟩
    simp only[hR] at hnx
    have cS:=zdz R W
    rw[show noLet R=false by simp[noLet];omega] at cS
    have HT:Hid ((s.data.toList.take (pos+1)).all letN=true):=by
     show _=_
     rw[zog s pos hps,HA.out,hl];rfl
    go_wp2_with (go_at_call 121;refine cS.mono ?_;rintro e W' ⟨rfl,rfl⟩)
    go_roundg g'
    case measure=>omega
    case rel=>exact⟨pos+1,hit2,hbw2,HT,by omega,by omega⟩
   ·have hl':letN s[pos]=false:=by simpa using hl
    have HF:Hid (s.data.toList.all letN=false):=zqq s pos hps hl'
    obtain⟨R,hR⟩:∃R,(Utf8.decode s pos).1=R:=⟨_,rfl⟩
    obtain⟨K,hK⟩:∃K,(Utf8.decode s pos).2=K:=⟨_,rfl⟩
    have hno:noLet (R:Int)=true:=by
     by_cases hlow:s[pos].toNat<128
     ·have hd:=decode_ascii s pos hps hlow
      rw[hd] at hR
      simp only at hR
      subst hR
      simp[letN] at hl'
      simp[noLet]
      omega
     ·have:=(decode_high s pos hps (by omega)).1
      rw[hR] at this
      simp[noLet];omega
    rw[hR,hK] at hnx
    rw[hK] at hit2 hbw2
    obtain⟨W,hWd⟩:∃W,wr.iterAt w.heap.size s (pos+K)=W:=⟨_,rfl⟩
    rw[hWd] at hnx hit2 hbw2
    have cS:=zdz (R:Int) W
    rw[hno] at cS
    go_wp2_with (go_at_call 121;refine cS.mono ?_;rintro e W' ⟨rfl,rfl⟩)
    go_ret
    exact⟨⟨pos,rfl,by rw[HF.out];simp⟩,hbw2⟩
  ·have hnx:∀ty,(Instr.next (.pointer (some ⟨w.heap.size,0,none⟩)) true ty).run Tryz.prog wr=_:=fun ty=>Lib.run_next_end_at wr w.heap.size s pos ty hit hps
   have HF:Hid (s.data.toList.all letN=true):=by
    show _=_
    have:=HA.out
    rwa [List.take_of_length_le (by simp;omega)] at this
   go_wp2
   go_ret
   exact⟨⟨-1,rfl,by rw[HF.out];rfl⟩,hbw⟩
theorem zcs(s:ByteArray)(w:World) :
  Calls Tryz.prog 122 #[.string s,.func (.func 121) #[] #[]] w fun e w'=>e=.returned (.bool (!s.data.toList.all letN))∧Below w.heap.size w w':=by
 have hI:Calls Tryz.prog 154 #[.string s,.func (.func 121) #[] #[]] w fun e w'=>(∃k:Int,e=.returned (.int .i64 k)∧Hid (decide (0≤k)=!s.data.toList.all letN))∧Below w.heap.size w w':=by
  go_enter Tryz.func154,Tryz.ntmps154
  go_wp2_with fail
  refine (zdY s _).mono ?_
  rintro e w' ⟨⟨k,rfl,hk⟩,b1⟩
  have HK:Hid (decide (0≤k)=!s.data.toList.all letN):=hk
  clear hk
  go_wp2
  go_ret
  exact⟨⟨k,rfl,HK⟩,b1⟩
 generalize (!s.data.toList.all letN)=g at hI
 go_enter Tryz.func122,Tryz.ntmps122
 go_wp2_with fail
 refine hI.mono ?_
 rintro e w' ⟨⟨k,rfl,HK⟩,b1⟩
 go_wp2
 go_ret
 refine⟨?_,b1⟩
 rw[←HK.out]
 rfl
theorem zcS(s:ByteArray)(w:World)(hs:s.size≤maxLen) :
  Calls Tryz.prog 93 #[.string s] w fun e w'=>e=.returned (.bool (nameB s.data.toList))∧Below w.heap.size w w':=by
 have hs2:=hs
 unfold maxLen at hs2
 have hd:s.data.toList.length=s.size:=by simp
 by_cases h1:1≤s.size
 ·by_cases h2:s.size≤8
  ·have hnm:nameB s.data.toList=!(!s.data.toList.all letN):=by rw[nameB,hd,decide_eq_true h1,decide_eq_true h2];simp
   rw[hnm]
   generalize hg:(!s.data.toList.all letN)=g
   have cS:=zcs s
   rw[hg] at cS
   clear hg hnm
   have z1:(1:Int)≤(s.size:Int):=by omega
   have z2:(s.size:Int)≤8:=by omega
   go_enter Tryz.func93,Tryz.ntmps93
   go_wp2_with (go_at_call 122;refine (cS _).mono ?_;rintro e w' ⟨rfl,b1⟩)
   go_ret
   exact⟨rfl,b1⟩
  ·have hnm:nameB s.data.toList=false:=by rw[nameB,hd,decide_eq_false h2];simp
   rw[hnm]
   have z1:(1:Int)≤(s.size:Int):=by omega
   have z2:¬(s.size:Int)≤8:=by omega
   go_enter Tryz.func93,Tryz.ntmps93
   go_wp2
   go_ret
   exact⟨rfl,Below.refl _ _⟩
 ·have hnm:nameB s.data.toList=false:=by rw[nameB,hd,decide_eq_false h1];simp
  rw[hnm]
  have z1:¬(1:Int)≤(s.size:Int):=by omega
  go_enter Tryz.func93,Tryz.ntmps93
  go_wp2
  go_ret
  exact⟨rfl,Below.refl _ _⟩
end Go.Proofs.YtopghagjmdbglaaGreatDoor
