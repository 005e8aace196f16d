/-
  KdRuleC, TreeCk, TreeCh, KdCol.
-/
import Derived.Test.YtopghagjmdbglaaGreatDoorGyAh
import Derived.Test.YtopghagjmdbglaaGreatDoorGyAg
import Derived.Laws.StructEq
namespace Go.Proofs.YtopghagjmdbglaaGreatDoor
open Go.RowKit
set_option linter.unusedVariables false
set_option linter.unusedSimpArgs false
set_option maxHeartbeats 8000000
set_option maxRecDepth 20000
section
open Go.BigFrame
theorem zgt{x:List UInt8}{r:KRule}:∀{l:List KRule},zbd x l=some r→r∈l∧r.1=x
 | [],h=>by simp[zbd] at h
 | q::l,h=>by
  rw[zbd] at h
  split at h
  ·rename_i hq
   obtain rfl:=Option.some.inj h
   exact⟨List.mem_cons_self ..,hq⟩
  ·have:=zgt h
   exact⟨List.mem_cons_of_mem _ this.1,this.2⟩
theorem zpM:∀r∈zaF,1≤kdCnt r∧kdCnt r≤3:=by decide
theorem zlO{x:List UInt8}{ts:List Int}(h:zbd x zaF=none):ruleP x ts=(0,1):=by rw[ruleP,h]
theorem zmN{x:List UInt8}{ts:List Int}{r:KRule}(h:zbd x zaF=some r)(h2:ts.all isTy=false):ruleP x ts=(0,1):=by
 rw[ruleP,h];simp only;rw[if_pos h2]
theorem znc{x:List UInt8}{ts:List Int}{r:KRule}(h:zbd x zaF=some r)(h2:ts.all isTy=true)(h3:ts.length≠kdCnt r):ruleP x ts=(0,3):=by
 rw[ruleP,h];simp only;rw[if_neg (by simp[h2]),if_pos h3]
theorem zmr{x:List UInt8}{ts:List Int}{r:KRule}(h:zbd x zaF=some r)(h2:ts.all isTy=true)(h3:ts.length=kdCnt r):ruleP x ts=if kdAll (ts.getLast?.getD 0) ts [r.2.1,r.2.2.1,r.2.2.2.1]=true then (zbH (ts.getLast?.getD 0) r.2.2.2.2,0) else (0,8):=by
 rw[ruleP,h];simp only;rw[if_neg (by simp[h2]),if_neg (by simpa using h3)]
theorem zks{last:Int}{ts l:List Int}{k:Nat}(h:k<ts.length)(h2:k<l.length):kdAll last (ts.drop k) (l.drop k)=(decide (ts[k]=zbH last l[k])&&kdAll last (ts.drop (k+1)) (l.drop (k+1))):=by
 rw[List.drop_eq_getElem_cons h,List.drop_eq_getElem_cons h2,kdAll]
theorem znr{last:Int}{ts l:List Int}{k:Nat}(h:ts.length≤k):kdAll last (ts.drop k) (l.drop k)=true:=by
 rw[List.drop_eq_nil_of_le h,kdAll]
theorem zsb{ts:List Int}{n:Nat}(h:ts.length=n+1):ts.getLast?.getD 0=ts[n]'(by omega):=by
 rw[List.getLast?_eq_getElem?,show ts.length-1=n by omega,List.getElem?_eq_getElem (by omega)];rfl
theorem zuE(a0 a1 a2:Int):∀k,(h:k<3)→∀(W:World) (b:Nat) (S:ByteArray) (ty:Int),(∀i,W.cell? ⟨b,i,none⟩=(#[.string S,.int .i64 a0,.int .i64 a1,.int .i64 a2,.int .i64 ty]:Array Value)[i]?)→W.cell? ⟨b,1+k,none⟩=some (.int .i64 ([a0,a1,a2][k]'h))
 | 0,_,_,_,_,_,h=>h 1
 | 1,_,_,_,_,_,h=>h 2
 | 2,_,_,_,_,_,h=>h 3
 | k+3,h,_,_,_,_,_=>absurd h (by omega)
theorem zpH(op:ByteArray)(p:Option Addr)(c N:Nat)(ts:List Int)(w:World)(henv:REnv w)(hN:ts.length=N)(hl:N≤9223372036854775807)(hts:zdv w p ts)(T E:Int)(hR:ruleP op.data.toList ts=(T,E)) :
  Calls Tryz.prog 189 #[.string op,.slice p N c] w fun e w'=>e=.returned (.tuple #[.int .i64 T,errV E])∧Below w.heap.size w w':=by
 have HR:Hid (ruleP op.data.toList ts=(T,E)):=hR
 have cF:=zle op w henv _ rfl
 have HT:Aside (zdv w p ts):=hts
 have HN:Hid (ts.length=N):=hN
 clear hR hts henv hN
 obtain⟨R,hRR⟩:∃R,zbd op.data.toList zaF=R:=⟨_,rfl⟩
 have HF:Hid (zbd op.data.toList zaF=R):=hRR
 rw[hRR] at cF
 clear hRR
 go_enter Tryz.func189,Tryz.ntmps189
 go_wp2_with fail
 refine cF.mono ?_
 rintro e w1 ⟨⟨S,a0,a1,a2,ty,ok,rfl,hok⟩,b1⟩
 clear cF
 have b2:Below w.heap.size w (w1.alloc (.cells #[.string S,.int .i64 a0,.int .i64 a1,.int .i64 a2,.int .i64 ty] 309)):=b1.alloc b1.size _
 cases ok
 ·have h:=HR.out
  rw[zlO (by rw[HF.out];exact hok.out)] at h
  obtain⟨rfl,rfl⟩:=Prod.mk.inj h
  clear h HR HF hok HT HN
  go_wp2
  go_ret2
  exact⟨rfl,b2⟩
 ·have hfd:zbd op.data.toList zaF=some (S.data.toList,a0,a1,a2,ty):=by rw[HF.out];exact hok.out
  have HFD:Hid (zbd op.data.toList zaF=some (S.data.toList,a0,a1,a2,ty)):=hfd
  obtain⟨hc1,hc3⟩:=zpM _ (zgt hfd).1
  have cC:=zfk p c ts (w1.alloc (.cells #[.string S,.int .i64 a0,.int .i64 a1,.int .i64 a2,.int .i64 ty] 309)) (by rw[HN.out];exact hl) (HT.out.on b2)
  rw[HN.out] at cC
  clear hfd HF hok
  obtain⟨B,hB⟩:∃B,ts.all isTy=B:=⟨_,rfl⟩
  have HB:Hid (ts.all isTy=B):=hB
  rw[hB] at cC
  clear hB
  cases B
  ·have h:=HR.out
   rw[zmN HFD.out HB.out] at h
   obtain⟨rfl,rfl⟩:=Prod.mk.inj h
   clear h HR HFD HT HN HB
   go_wp2_with fail
   refine cC.mono ?_
   rintro e w2 ⟨rfl,hq⟩
   subst hq
   go_wp2
   go_ret2
   exact⟨rfl,b2⟩
  ·obtain⟨C,hC⟩:∃C,kdCnt (S.data.toList,a0,a1,a2,ty)=C:=⟨_,rfl⟩
   have HC:Hid (kdCnt (S.data.toList,a0,a1,a2,ty)=C):=hC
   have cN:=zmy S a0 a1 a2 ty (w1.alloc (.cells #[.string S,.int .i64 a0,.int .i64 a1,.int .i64 a2,.int .i64 ty] 309)) C hC
   rw[hC] at hc1 hc3
   clear hC
   have b3:Below w.heap.size w ((w1.alloc (.cells #[.string S,.int .i64 a0,.int .i64 a1,.int .i64 a2,.int .i64 ty] 309)).alloc (.cells #[.string S,.int .i64 a0,.int .i64 a1,.int .i64 a2,.int .i64 ty] 309)):=b2.alloc b2.size _
   by_cases hNC:N=C
   ·subst hNC
    obtain⟨m,rfl⟩:∃m,N=m+1:=⟨N-1,by omega⟩
    have hts0:=HN.out
    rcases HT.out.on b3 with h|⟨b,off,rfl,hbl,hcs⟩
    ·exact absurd h (by omega)
    obtain⟨LV,hLV⟩:∃LV,ts[m]'(by omega)=LV:=⟨_,rfl⟩
    have hlast:((w1.alloc (.cells #[.string S,.int .i64 a0,.int .i64 a1,.int .i64 a2,.int .i64 ty] 309)).alloc (.cells #[.string S,.int .i64 a0,.int .i64 a1,.int .i64 a2,.int .i64 ty] 309)).cell? ⟨b,off+m,none⟩=some (.int .i64 LV):=by rw[←hLV];exact hcs m (by omega)
    have h:=HR.out
    rw[zmr HFD.out HB.out (by rw[HN.out,HC.out]),zsb hts0,hLV] at h
    have HQ:Hid ((if kdAll LV ts [a0,a1,a2]=true then (zbH LV ty,0) else (0,8))=(T,E)):=h
    have b4:Below w.heap.size w (((w1.alloc (.cells #[.string S,.int .i64 a0,.int .i64 a1,.int .i64 a2,.int .i64 ty] 309)).alloc (.cells #[.string S,.int .i64 a0,.int .i64 a1,.int .i64 a2,.int .i64 ty] 309)).alloc (.cells #[.int .i64 LV] 3)):=b3.alloc b3.size _
    have bW:Below ((w1.alloc (.cells #[.string S,.int .i64 a0,.int .i64 a1,.int .i64 a2,.int .i64 ty] 309)).alloc (.cells #[.string S,.int .i64 a0,.int .i64 a1,.int .i64 a2,.int .i64 ty] 309)).heap.size ((w1.alloc (.cells #[.string S,.int .i64 a0,.int .i64 a1,.int .i64 a2,.int .i64 ty] 309)).alloc (.cells #[.string S,.int .i64 a0,.int .i64 a1,.int .i64 a2,.int .i64 ty] 309)) (((w1.alloc (.cells #[.string S,.int .i64 a0,.int .i64 a1,.int .i64 a2,.int .i64 ty] 309)).alloc (.cells #[.string S,.int .i64 a0,.int .i64 a1,.int .i64 a2,.int .i64 ty] 309)).alloc (.cells #[.int .i64 LV] 3)):=al _ _
    have hcs5:Aside (∀j (h:j<ts.length),(((w1.alloc (.cells #[.string S,.int .i64 a0,.int .i64 a1,.int .i64 a2,.int .i64 ty] 309)).alloc (.cells #[.string S,.int .i64 a0,.int .i64 a1,.int .i64 a2,.int .i64 ty] 309)).alloc (.cells #[.int .i64 LV] 3)).cell? ⟨b,off+j,none⟩=some (.int .i64 ts[j])):=fun j hj=>by rw[bW.cell (p:=⟨b,off+j,none⟩) hbl];exact hcs j hj
    have hrb:∀i,(((w1.alloc (.cells #[.string S,.int .i64 a0,.int .i64 a1,.int .i64 a2,.int .i64 ty] 309)).alloc (.cells #[.string S,.int .i64 a0,.int .i64 a1,.int .i64 a2,.int .i64 ty] 309)).alloc (.cells #[.int .i64 LV] 3)).cell? ⟨w1.heap.size,i,none⟩=(#[.string S,.int .i64 a0,.int .i64 a1,.int .i64 a2,.int .i64 ty]:Array Value)[i]?:=fun i=>by
     rw[bW.cell (p:=⟨w1.heap.size,i,none⟩) (by simp;omega),World.cell?_alloc_lt _ _ _ (by simp),World.cell?_alloc_at _ _ _ _ rfl]
    have hrt:(((w1.alloc (.cells #[.string S,.int .i64 a0,.int .i64 a1,.int .i64 a2,.int .i64 ty] 309)).alloc (.cells #[.string S,.int .i64 a0,.int .i64 a1,.int .i64 a2,.int .i64 ty] 309)).alloc (.cells #[.int .i64 LV] 3)).cell? ⟨w1.heap.size,4,none⟩=some (.int .i64 ty):=hrb 4
    have hra:Aside (∀k (h:k<3),(((w1.alloc (.cells #[.string S,.int .i64 a0,.int .i64 a1,.int .i64 a2,.int .i64 ty] 309)).alloc (.cells #[.string S,.int .i64 a0,.int .i64 a1,.int .i64 a2,.int .i64 ty] 309)).alloc (.cells #[.int .i64 LV] 3)).cell? ⟨w1.heap.size,1+k,none⟩=some (.int .i64 ([a0,a1,a2][k]'h))):=fun k hk=>zuE a0 a1 a2 k hk _ _ S ty hrb
    have hlc:(((w1.alloc (.cells #[.string S,.int .i64 a0,.int .i64 a1,.int .i64 a2,.int .i64 ty] 309)).alloc (.cells #[.string S,.int .i64 a0,.int .i64 a1,.int .i64 a2,.int .i64 ty] 309)).alloc (.cells #[.int .i64 LV] 3)).cell? ⟨w1.heap.size+1+1,0,none⟩=some (.int .i64 LV):=by rw[World.cell?_alloc_at _ _ _ _ (by simp)];rfl
    have hz1:w1.heap.size<(((w1.alloc (.cells #[.string S,.int .i64 a0,.int .i64 a1,.int .i64 a2,.int .i64 ty] 309)).alloc (.cells #[.string S,.int .i64 a0,.int .i64 a1,.int .i64 a2,.int .i64 ty] 309)).alloc (.cells #[.int .i64 LV] 3)).heap.size:=by simp;omega
    have hbl5:b<(((w1.alloc (.cells #[.string S,.int .i64 a0,.int .i64 a1,.int .i64 a2,.int .i64 ty] 309)).alloc (.cells #[.string S,.int .i64 a0,.int .i64 a1,.int .i64 a2,.int .i64 ty] 309)).alloc (.cells #[.int .i64 LV] 3)).heap.size:=by have:=bW.size;omega
    have cM:=fun t=>znt t LV ⟨w1.heap.size+1+1,0,none⟩ _ hlc
    have hmz:(m:Int)≤2:=by omega
    have hqq:(((m+1:Nat):Int) != ((m+1:Nat):Int))=false:=by simp
    clear h HR HFD HB HC HT hcs hLV bW hrb
    go_wp2_with fail
    refine cC.mono ?_
    rintro e w2 ⟨rfl,hq2⟩
    subst hq2
    go_wp2_with fail
    refine cN.mono ?_
    rintro e w3 ⟨rfl,hq3⟩
    subst hq3
    go_wp2
    generalize (((w1.alloc (.cells #[.string S,.int .i64 a0,.int .i64 a1,.int .i64 a2,.int .i64 ty] 309)).alloc (.cells #[.string S,.int .i64 a0,.int .i64 a1,.int .i64 a2,.int .i64 ty] 309)).alloc (.cells #[.int .i64 LV] 3))=W5 at *
    obtain⟨Q,hQ⟩:∃Q,kdAll LV ts [a0,a1,a2]=Q:=⟨_,rfl⟩
    have HQ0:Hid (kdAll LV (ts.drop 0) ([a0,a1,a2].drop 0)=Q):=hQ
    rw[hQ] at HQ
    clear hQ
    go_loopg [10,11,39] (m+1) (fun gg _ _ s39 wr=>∃kk:Nat,kk≤m+1∧(m+1)-kk≤gg∧s39=.int .i64 kk∧wr=W5∧Hid (kdAll LV (ts.drop kk) ([a0,a1,a2].drop kk)=Q))
    case atStart=>exact⟨0,Nat.zero_le _,by omega,rfl,rfl,HQ0⟩
    case round =>
     obtain⟨kk,hkk,hg,rfl,hwr,HE⟩:=hrel
     obtain rfl:W5=wr:=hwr.symm
     clear HQ0 hwr
     by_cases hlt:kk<m+1
     ·have hltz:(kk:Int)<(m:Int)+1:=by omega
      have hltN:(kk:Int)<((m+1:Nat):Int):=by omega
      have h0z:(0:Int)≤(kk:Int):=by omega
      have h3z:(kk:Int)<3:=by omega
      have ck:=hcs5.out kk (by omega)
      have ak:=hra.out kk (by omega)
      have HS:Hid (kdAll LV (ts.drop kk) ([a0,a1,a2].drop kk)=(decide (ts[kk]'(by omega)=zbH LV ([a0,a1,a2][kk]'(by show kk<3;omega)))&&kdAll LV (ts.drop (kk+1)) ([a0,a1,a2].drop (kk+1)))):=zks (by omega) (by show kk<3;omega)
      generalize ts[kk]'(by omega)=y at ck HS
      generalize [a0,a1,a2][kk]'(by show kk<3;omega)=av at ak HS
      have cK:=cM av
      generalize zbH LV av=M at cK HS
      by_cases hy:y=M
      ·have hyb:(y != M)=false:=by simpa using hy
       have HE2:Hid (kdAll LV (ts.drop (kk+1)) ([a0,a1,a2].drop (kk+1))=Q):=by
        show _=_
        rw[←HE.out,HS.out,decide_eq_true hy,Bool.true_and]
       clear HS HE hy hcs5 hra cM
       go_wp2_with fail
       refine cK.mono ?_
       rintro e w4 ⟨rfl,hq4⟩
       obtain rfl:W5=w4:=hq4.symm
       go_wp2
       go_roundg (m+1-(kk+1))
       case measure=>omega
       case rel=>exact⟨kk+1,by omega,by omega,by go_num,rfl,HE2⟩
      ·have hyb:(y != M)=true:=by simpa using hy
       have hQf:Q=false:=by rw[←HE.out,HS.out,decide_eq_false hy,Bool.false_and]
       have h:=HQ.out
       rw[hQf,if_neg (by simp)] at h
       obtain⟨rfl,rfl⟩:=Prod.mk.inj h
       clear h HS HE hy hcs5 hra cM HQ hQf
       go_wp2_with fail
       refine cK.mono ?_
       rintro e w4 ⟨rfl,hq4⟩
       obtain rfl:W5=w4:=hq4.symm
       go_wp2
       go_ret2
       exact⟨rfl,b4⟩
     ·have hltz:¬(kk:Int)<(m:Int)+1:=by omega
      have hltN:¬(kk:Int)<((m+1:Nat):Int):=by omega
      have hQt:Q=true:=by rw[←HE.out,znr (by have:=HN.out;omega)]
      have h:=HQ.out
      rw[hQt,if_pos rfl] at h
      obtain⟨hT,rfl⟩:=Prod.mk.inj h
      have cK:=cM ty
      rw[hT] at cK
      clear h HE hcs5 hra cM HQ hQt hT
      go_wp2_with fail
      refine cK.mono ?_
      rintro e w4 ⟨rfl,hq4⟩
      obtain rfl:W5=w4:=hq4.symm
      go_wp2
      go_ret2
      exact⟨rfl,b4⟩
   ·have h:=HR.out
    rw[znc HFD.out HB.out (by rw[HN.out,HC.out];exact hNC)] at h
    obtain⟨rfl,rfl⟩:=Prod.mk.inj h
    have hq:((N:Int) != (C:Int))=true:=by simp;omega
    clear h HR HFD HT HN HB HC hNC
    go_wp2_with fail
    refine cC.mono ?_
    rintro e w2 ⟨rfl,hq2⟩
    subst hq2
    go_wp2_with fail
    refine cN.mono ?_
    rintro e w3 ⟨rfl,hq3⟩
    subst hq3
    go_wp2
    go_ret2
    exact⟨rfl,b3⟩
theorem zmq(k:Int)(W:World):Sem.run Tryz.prog (binOp .neq 42 (errV k) .nilIface) W=.ok (.bool (k != 0)) W:=by
 rw[errV]
 split
 ·rename_i h;subst h;kernel_rfl
 ·rename_i h
  rw[show (k != 0)=true by simpa using h]
  kernel_rfl
theorem zhR(k:Int)(W:World)(j:Nat):Sem.run Tryz.prog (eqGuard .neq 42 (.tmp j) (.const .nilIface) (errV k) .nilIface) W=.ok () W:=by
 rw[errV]
 split<;>kernel_rfl
theorem zqW(k:Int)(W:World):Sem.run Tryz.prog (binOp .eql 42 (errV k) .nilIface) W=.ok (.bool (k == 0)) W:=by
 rw[errV]
 split
 ·rename_i h;subst h;kernel_rfl
 ·rename_i h
  rw[show (k == 0)=false by simpa using h]
  kernel_rfl
theorem zns(k:Int)(W:World)(j:Nat):Sem.run Tryz.prog (eqGuard .eql 42 (.tmp j) (.const .nilIface) (errV k) .nilIface) W=.ok () W:=by
 rw[errV]
 split<;>kernel_rfl
def ckV(t n:Int)(l:List UInt8):Int:=if chk t n l≠0 then chk t n l else if t=1∧n<0 then 1 else 0
theorem zgN(t n:Int)(s:ByteArray)(w:World)(hs:s.size≤maxLen) :
  Calls Tryz.prog 65 #[.agg #[.int .i64 t,.int .i64 n,.string s]] w fun e w'=>e=.returned (errV (ckV t n s.data.toList))∧Below w.heap.size w w':=by
 have b1:Below w.heap.size w (w.alloc (.cells #[.int .i64 t,.int .i64 n,.string s] 27)):=(Below.refl _ w).alloc (Nat.le_refl _) _
 have cC:=zcg t n s (w.alloc (.cells #[.int .i64 t,.int .i64 n,.string s] 27)) hs
 obtain⟨K,hK⟩:∃K,ckV t n s.data.toList=K:=⟨_,rfl⟩
 have HK:Hid (ckV t n s.data.toList=K):=hK
 rw[hK]
 clear hK
 have hn1:=zmq (chk t n s.data.toList)
 have hn2:=zhR (chk t n s.data.toList)
 obtain⟨E,hE⟩:∃E,chk t n s.data.toList=E:=⟨_,rfl⟩
 have HE:Hid (chk t n s.data.toList=E):=hE
 rw[hE] at cC hn1 hn2
 clear hE
 by_cases h0:E=0
 ·subst h0
  have hb:((0:Int) != 0)=false:=rfl
  rw[show errV 0=.nilIface from rfl] at cC
  clear hn1 hn2
  by_cases h1:t=1
  ·subst h1
   by_cases h2:n<0
   ·have hk:(.iface 35 (.int .i64 1):Value)=errV K:=by rw[←HK.out,ckV,if_neg (by rw[HE.out];simp),if_pos ⟨rfl,h2⟩];rfl
    have HV:Hid ((.iface 35 (.int .i64 1):Value)=errV K):=hk
    clear HK hk HE
    generalize errV K=V at HV ⊢
    go_enter Tryz.func65,Tryz.ntmps65
    go_wp2_with fail
    refine cC.mono ?_
    rintro e w1 ⟨rfl,b2⟩
    have c0:w1.cell? ⟨w.heap.size,0,none⟩=some (.int .i64 1):=by rw[b2.cell (p:=⟨w.heap.size,0,none⟩) (by simp),World.cell?_alloc_at _ _ _ _ rfl];rfl
    have c1:w1.cell? ⟨w.heap.size,1,none⟩=some (.int .i64 n):=by rw[b2.cell (p:=⟨w.heap.size,1,none⟩) (by simp),World.cell?_alloc_at _ _ _ _ rfl];rfl
    have hl:w.heap.size<w1.heap.size:=by have:=b2.size;simp at this;omega
    go_wp2
    go_ret
    exact⟨by rw[←HV.out];rfl,b1.trans (b2.mono (by simp))⟩
   ·have hk:(.nilIface:Value)=errV K:=by rw[←HK.out,ckV,if_neg (by rw[HE.out];simp),if_neg (fun h=>h2 h.2)];rfl
    have HV:Hid ((.nilIface:Value)=errV K):=hk
    clear HK hk HE
    generalize errV K=V at HV ⊢
    go_enter Tryz.func65,Tryz.ntmps65
    go_wp2_with fail
    refine cC.mono ?_
    rintro e w1 ⟨rfl,b2⟩
    have c0:w1.cell? ⟨w.heap.size,0,none⟩=some (.int .i64 1):=by rw[b2.cell (p:=⟨w.heap.size,0,none⟩) (by simp),World.cell?_alloc_at _ _ _ _ rfl];rfl
    have c1:w1.cell? ⟨w.heap.size,1,none⟩=some (.int .i64 n):=by rw[b2.cell (p:=⟨w.heap.size,1,none⟩) (by simp),World.cell?_alloc_at _ _ _ _ rfl];rfl
    have hl:w.heap.size<w1.heap.size:=by have:=b2.size;simp at this;omega
    go_wp2
    go_ret
    exact⟨by rw[←HV.out];rfl,b1.trans (b2.mono (by simp))⟩
  ·have hk:(.nilIface:Value)=errV K:=by rw[←HK.out,ckV,if_neg (by rw[HE.out];simp),if_neg (fun h=>h1 h.1)];rfl
   have HV:Hid ((.nilIface:Value)=errV K):=hk
   have h1z:(t == 1)=false:=by simpa using h1
   clear HK hk HE
   generalize errV K=V at HV ⊢
   go_enter Tryz.func65,Tryz.ntmps65
   go_wp2_with fail
   refine cC.mono ?_
   rintro e w1 ⟨rfl,b2⟩
   have c0:w1.cell? ⟨w.heap.size,0,none⟩=some (.int .i64 t):=by rw[b2.cell (p:=⟨w.heap.size,0,none⟩) (by simp),World.cell?_alloc_at _ _ _ _ rfl];rfl
   have hl:w.heap.size<w1.heap.size:=by have:=b2.size;simp at this;omega
   go_wp2
   go_ret
   exact⟨by rw[←HV.out];rfl,b1.trans (b2.mono (by simp))⟩
 ·have hk:errV E=errV K:=by rw[←HK.out,ckV,HE.out,if_pos h0]
  have HV:Hid (errV E=errV K):=hk
  have hb:(E != 0)=true:=by simpa using h0
  rw[hb] at hn1
  clear HK hk HE h0 hb
  generalize errV K=V at HV ⊢
  generalize errV E=U at *
  go_enter Tryz.func65,Tryz.ntmps65
  go_wp2_with fail
  refine cC.mono ?_
  rintro e w1 ⟨rfl,b2⟩
  go_wp2
  go_ret
  exact⟨by rw[←HV.out];rfl,b1.trans (b2.mono (by simp))⟩
def nodeB(ok ic nt ln nn iv vn:Bool)(cv:Int):Int:=if (!ok||(ic&&!nt))=true then 2 else if (ln||((!ic&&nn)||(!iv&&vn)))=true then 3 else if iv=true then cv else 0
def nodeE(x:Ex):Int:=nodeB (apL x.op.data.toList opsL).2 (x.op.toList == [99,111,108]) (nameT x.nm.data.toList) ((x.args.length:Int) != (apL x.op.data.toList opsL).1) (!(x.nm.toList == [])) (x.op.toList == [118,97,108]) (!((x.vt == 0)&&((x.vn == 0)&&(x.vs.toList == [])))) (ckV x.vt x.vn x.vs.data.toList)
theorem znN(t n t2 n2:Int)(s s2:ByteArray)(W:World):(Op.equalIn 10000 27 (.agg #[.int .i64 t,.int .i64 n,.string s]) (.agg #[.int .i64 t2,.int .i64 n2,.string s2])).run Tryz.prog W=.ok ((t == t2)&&((n == n2)&&(s.toList == s2.toList))) W:=by
 rw[show (10000:Nat)=9999+1 from rfl,run_equalIn_agg W 9999 27 _ _ (by kernel_rfl) (by kernel_rfl)]
 simp only[Program.fieldsOf,Tryz.underlying27]
 go_simp
 by_cases h1:t=t2<;>by_cases h2:n=n2<;>by_cases h3:s.toList=s2.toList<;>simp[h1,h2,h3]
theorem zpq(t n t2 n2:Int)(s s2:ByteArray)(W:World):Sem.run Tryz.prog (binOp .neq 27 (.agg #[.int .i64 t,.int .i64 n,.string s]) (.agg #[.int .i64 t2,.int .i64 n2,.string s2])) W=.ok (.bool !((t == t2)&&((n == n2)&&(s.toList == s2.toList)))) W:=by
 rw[run_neq_struct,znN];rfl
theorem ExIn.whole{w:World}{lo:Nat→Prop}{v:Value}{x:Ex}(h:ExIn w lo v x):∃p c,v=.agg #[.string x.op,.string x.nm,.int .i64 x.vt,.int .i64 x.vn,.string x.vs,.slice p x.args.length c,.int .i64 x.pos]∧x.args.length≤maxLen∧x.op.size≤maxLen∧x.nm.size≤maxLen∧x.vs.size≤maxLen:=by
 cases x with
 | node op nm vt vn vs pos l =>
  rw[ExIn] at h
  obtain⟨p,c,e,h1,h2,h3,h4,_⟩:=h
  exact⟨p,c,e,h1.1,h2,h3,h4⟩
theorem zgD(x:Ex)(lo:Nat→Prop)(v:Value)(w:World)(henv:TEnv w)(hx:ExIn w lo v x) :
  Calls Tryz.prog 36 #[v] w fun e w'=>e=.returned (errV (nodeE x))∧Below w.heap.size w w':=by
 obtain⟨p,c,rfl,hm,hso,hsn,hss⟩:=hx.whole
 unfold maxLen at hm
 have b1:Below w.heap.size w (w.alloc (.cells #[.string x.op,.string x.nm,.int .i64 x.vt,.int .i64 x.vn,.string x.vs,.slice p x.args.length c,.int .i64 x.pos] 30)):=(Below.refl _ w).alloc (Nat.le_refl _) _
 obtain⟨n,ok,hap⟩:∃n ok,apL x.op.data.toList opsL=(n,ok):=⟨_,_,rfl⟩
 have cA:=zfP x.op (w.alloc (.cells #[.string x.op,.string x.nm,.int .i64 x.vt,.int .i64 x.vn,.string x.vs,.slice p x.args.length c,.int .i64 x.pos] 30)) (henv.on b1) n ok hap
 have cN:=fun W (hb:Below w.heap.size w W)=>zbQ x.nm W (henv.on hb) hsn
 have cV:=fun W=>zgN x.vt x.vn x.vs W hss
 obtain⟨K,hK⟩:∃K,errV (nodeE x)=K:=⟨_,rfl⟩
 have HK:Hid (errV (nodeE x)=K):=hK
 rw[hK]
 rw[nodeE,hap] at HK
 simp only at HK
 have hvn:=zpq x.vt x.vn 0 0 x.vs ⟨#[]⟩
 rw[show (⟨#[]⟩:ByteArray).toList=[] by rw[Lib.toList_data]] at hvn
 clear hK hap henv hx
 generalize x.op=OP at *
 generalize x.nm=NM at *
 generalize x.vs=VS at *
 generalize x.vt=VT at *
 generalize x.vn=VN at *
 generalize x.pos=PS at *
 generalize x.args.length=M at *
 generalize nameT NM.data.toList=NT at cN HK
 generalize hic:(OP.toList == [99,111,108])=IC at HK
 generalize hiv:(OP.toList == [118,97,108])=IV at HK
 generalize hln:((M:Int) != n)=LN at HK
 generalize hnn:(NM.toList == [])=NN at HK
 generalize hvv:((VT == 0)&&((VN == 0)&&(VS.toList == [])))=VV at HK hvn
 generalize ckV VT VN VS.data.toList=CV at cV HK
 clear hvv
 have key:∀(k:Int),nodeB ok IC NT LN (!NN) IV (!VV) CV=k→Hid (errV k=K):=fun k h=>by show _=_;rw[←h];exact HK.out
 clear HK
 cases ok
 ·have HV:=key 2 rfl
  go_enter Tryz.func36,Tryz.ntmps36
  go_wp2_with fail
  refine cA.mono ?_
  rintro e w1 ⟨rfl,b2⟩
  go_wp2
  go_ret
  exact⟨by rw[←HV.out];rfl,b1.trans (b2.mono (by simp))⟩
 ·cases IC
  ·cases LN
   ·cases NN
    ·have HV:=key 3 rfl
     go_enter Tryz.func36,Tryz.ntmps36
     go_wp2_with fail
     refine cA.mono ?_
     rintro e w1 ⟨rfl,b2⟩
     have hz1:w.heap.size<w1.heap.size:=by have:=b2.size;simp at this;omega
     have gB:∀i,w1.cell? ⟨w.heap.size,i,none⟩=(#[.string OP,.string NM,.int .i64 VT,.int .i64 VN,.string VS,.slice p M c,.int .i64 PS]:Array Value)[i]?:=fun i=>by rw[b2.cell (p:=⟨w.heap.size,i,none⟩) (by simp),World.cell?_alloc_at _ _ _ _ rfl]
     have g0:w1.cell? ⟨w.heap.size,0,none⟩=some (.string OP):=gB 0
     have g1:w1.cell? ⟨w.heap.size,1,none⟩=some (.string NM):=gB 1
     have g2:w1.cell? ⟨w.heap.size,2,none⟩=some (.int .i64 VT):=gB 2
     have g3:w1.cell? ⟨w.heap.size,3,none⟩=some (.int .i64 VN):=gB 3
     have g4:w1.cell? ⟨w.heap.size,4,none⟩=some (.string VS):=gB 4
     have g5:w1.cell? ⟨w.heap.size,5,none⟩=some (.slice p M c):=gB 5
     have b3:Below w.heap.size w w1:=b1.trans (b2.mono (by simp))
     clear gB
     go_wp2
     go_ret
     exact⟨by rw[←HV.out];rfl,b3⟩
    ·cases IV
     ·cases VV
      ·have HV:=key 3 rfl
       go_enter Tryz.func36,Tryz.ntmps36
       go_wp2_with fail
       refine cA.mono ?_
       rintro e w1 ⟨rfl,b2⟩
       have hz1:w.heap.size<w1.heap.size:=by have:=b2.size;simp at this;omega
       have gB:∀i,w1.cell? ⟨w.heap.size,i,none⟩=(#[.string OP,.string NM,.int .i64 VT,.int .i64 VN,.string VS,.slice p M c,.int .i64 PS]:Array Value)[i]?:=fun i=>by rw[b2.cell (p:=⟨w.heap.size,i,none⟩) (by simp),World.cell?_alloc_at _ _ _ _ rfl]
       have g0:w1.cell? ⟨w.heap.size,0,none⟩=some (.string OP):=gB 0
       have g1:w1.cell? ⟨w.heap.size,1,none⟩=some (.string NM):=gB 1
       have g2:w1.cell? ⟨w.heap.size,2,none⟩=some (.int .i64 VT):=gB 2
       have g3:w1.cell? ⟨w.heap.size,3,none⟩=some (.int .i64 VN):=gB 3
       have g4:w1.cell? ⟨w.heap.size,4,none⟩=some (.string VS):=gB 4
       have g5:w1.cell? ⟨w.heap.size,5,none⟩=some (.slice p M c):=gB 5
       have b3:Below w.heap.size w w1:=b1.trans (b2.mono (by simp))
       clear gB
       go_wp2
       go_ret
       exact⟨by rw[←HV.out];rfl,b3⟩
      ·have HV:=key 0 rfl
       go_enter Tryz.func36,Tryz.ntmps36
       go_wp2_with fail
       refine cA.mono ?_
       rintro e w1 ⟨rfl,b2⟩
       have hz1:w.heap.size<w1.heap.size:=by have:=b2.size;simp at this;omega
       have gB:∀i,w1.cell? ⟨w.heap.size,i,none⟩=(#[.string OP,.string NM,.int .i64 VT,.int .i64 VN,.string VS,.slice p M c,.int .i64 PS]:Array Value)[i]?:=fun i=>by rw[b2.cell (p:=⟨w.heap.size,i,none⟩) (by simp),World.cell?_alloc_at _ _ _ _ rfl]
       have g0:w1.cell? ⟨w.heap.size,0,none⟩=some (.string OP):=gB 0
       have g1:w1.cell? ⟨w.heap.size,1,none⟩=some (.string NM):=gB 1
       have g2:w1.cell? ⟨w.heap.size,2,none⟩=some (.int .i64 VT):=gB 2
       have g3:w1.cell? ⟨w.heap.size,3,none⟩=some (.int .i64 VN):=gB 3
       have g4:w1.cell? ⟨w.heap.size,4,none⟩=some (.string VS):=gB 4
       have g5:w1.cell? ⟨w.heap.size,5,none⟩=some (.slice p M c):=gB 5
       have b3:Below w.heap.size w w1:=b1.trans (b2.mono (by simp))
       clear gB
       go_wp2
       go_ret
       exact⟨by rw[←HV.out];rfl,b3⟩
     ·have HV:=key CV rfl
      go_enter Tryz.func36,Tryz.ntmps36
      go_wp2_with fail
      refine cA.mono ?_
      rintro e w1 ⟨rfl,b2⟩
      have hz1:w.heap.size<w1.heap.size:=by have:=b2.size;simp at this;omega
      have gB:∀i,w1.cell? ⟨w.heap.size,i,none⟩=(#[.string OP,.string NM,.int .i64 VT,.int .i64 VN,.string VS,.slice p M c,.int .i64 PS]:Array Value)[i]?:=fun i=>by rw[b2.cell (p:=⟨w.heap.size,i,none⟩) (by simp),World.cell?_alloc_at _ _ _ _ rfl]
      have g0:w1.cell? ⟨w.heap.size,0,none⟩=some (.string OP):=gB 0
      have g1:w1.cell? ⟨w.heap.size,1,none⟩=some (.string NM):=gB 1
      have g2:w1.cell? ⟨w.heap.size,2,none⟩=some (.int .i64 VT):=gB 2
      have g3:w1.cell? ⟨w.heap.size,3,none⟩=some (.int .i64 VN):=gB 3
      have g4:w1.cell? ⟨w.heap.size,4,none⟩=some (.string VS):=gB 4
      have g5:w1.cell? ⟨w.heap.size,5,none⟩=some (.slice p M c):=gB 5
      have b3:Below w.heap.size w w1:=b1.trans (b2.mono (by simp))
      clear gB
      go_wp2_with fail
      refine (cV _).mono ?_
      rintro e w2 ⟨rfl,b4⟩
      go_wp2
      go_ret
      exact⟨by rw[←HV.out];rfl,b3.trans (b4.mono b3.size)⟩
   ·have HV:=key 3 rfl
    go_enter Tryz.func36,Tryz.ntmps36
    go_wp2_with fail
    refine cA.mono ?_
    rintro e w1 ⟨rfl,b2⟩
    have hz1:w.heap.size<w1.heap.size:=by have:=b2.size;simp at this;omega
    have gB:∀i,w1.cell? ⟨w.heap.size,i,none⟩=(#[.string OP,.string NM,.int .i64 VT,.int .i64 VN,.string VS,.slice p M c,.int .i64 PS]:Array Value)[i]?:=fun i=>by rw[b2.cell (p:=⟨w.heap.size,i,none⟩) (by simp),World.cell?_alloc_at _ _ _ _ rfl]
    have g0:w1.cell? ⟨w.heap.size,0,none⟩=some (.string OP):=gB 0
    have g1:w1.cell? ⟨w.heap.size,1,none⟩=some (.string NM):=gB 1
    have g2:w1.cell? ⟨w.heap.size,2,none⟩=some (.int .i64 VT):=gB 2
    have g3:w1.cell? ⟨w.heap.size,3,none⟩=some (.int .i64 VN):=gB 3
    have g4:w1.cell? ⟨w.heap.size,4,none⟩=some (.string VS):=gB 4
    have g5:w1.cell? ⟨w.heap.size,5,none⟩=some (.slice p M c):=gB 5
    have b3:Below w.heap.size w w1:=b1.trans (b2.mono (by simp))
    clear gB
    go_wp2
    go_ret
    exact⟨by rw[←HV.out];rfl,b3⟩
  ·cases NT
   ·have HV:=key 2 rfl
    go_enter Tryz.func36,Tryz.ntmps36
    go_wp2_with fail
    refine cA.mono ?_
    rintro e w1 ⟨rfl,b2⟩
    have hz1:w.heap.size<w1.heap.size:=by have:=b2.size;simp at this;omega
    have gB:∀i,w1.cell? ⟨w.heap.size,i,none⟩=(#[.string OP,.string NM,.int .i64 VT,.int .i64 VN,.string VS,.slice p M c,.int .i64 PS]:Array Value)[i]?:=fun i=>by rw[b2.cell (p:=⟨w.heap.size,i,none⟩) (by simp),World.cell?_alloc_at _ _ _ _ rfl]
    have g0:w1.cell? ⟨w.heap.size,0,none⟩=some (.string OP):=gB 0
    have g1:w1.cell? ⟨w.heap.size,1,none⟩=some (.string NM):=gB 1
    have g2:w1.cell? ⟨w.heap.size,2,none⟩=some (.int .i64 VT):=gB 2
    have g3:w1.cell? ⟨w.heap.size,3,none⟩=some (.int .i64 VN):=gB 3
    have g4:w1.cell? ⟨w.heap.size,4,none⟩=some (.string VS):=gB 4
    have g5:w1.cell? ⟨w.heap.size,5,none⟩=some (.slice p M c):=gB 5
    have b3:Below w.heap.size w w1:=b1.trans (b2.mono (by simp))
    clear gB
    go_wp2_with fail
    refine (cN _ b3).mono ?_
    rintro e w2 ⟨rfl,b4⟩
    have hz2:w.heap.size<w2.heap.size:=by have:=b4.size;omega
    have k0:w2.cell? ⟨w.heap.size,0,none⟩=some (.string OP):=by rw[b4.cell (p:=⟨w.heap.size,0,none⟩) hz1];exact g0
    have k1:w2.cell? ⟨w.heap.size,1,none⟩=some (.string NM):=by rw[b4.cell (p:=⟨w.heap.size,1,none⟩) hz1];exact g1
    have k2:w2.cell? ⟨w.heap.size,2,none⟩=some (.int .i64 VT):=by rw[b4.cell (p:=⟨w.heap.size,2,none⟩) hz1];exact g2
    have k3:w2.cell? ⟨w.heap.size,3,none⟩=some (.int .i64 VN):=by rw[b4.cell (p:=⟨w.heap.size,3,none⟩) hz1];exact g3
    have k4:w2.cell? ⟨w.heap.size,4,none⟩=some (.string VS):=by rw[b4.cell (p:=⟨w.heap.size,4,none⟩) hz1];exact g4
    have k5:w2.cell? ⟨w.heap.size,5,none⟩=some (.slice p M c):=by rw[b4.cell (p:=⟨w.heap.size,5,none⟩) hz1];exact g5
    have b5:Below w.heap.size w w2:=b3.trans (b4.mono b3.size)
    go_wp2
    go_ret
    exact⟨by rw[←HV.out];rfl,b5⟩
   ·cases LN
    ·cases IV
     ·cases VV
      ·have HV:=key 3 rfl
       go_enter Tryz.func36,Tryz.ntmps36
       go_wp2_with fail
       refine cA.mono ?_
       rintro e w1 ⟨rfl,b2⟩
       have hz1:w.heap.size<w1.heap.size:=by have:=b2.size;simp at this;omega
       have gB:∀i,w1.cell? ⟨w.heap.size,i,none⟩=(#[.string OP,.string NM,.int .i64 VT,.int .i64 VN,.string VS,.slice p M c,.int .i64 PS]:Array Value)[i]?:=fun i=>by rw[b2.cell (p:=⟨w.heap.size,i,none⟩) (by simp),World.cell?_alloc_at _ _ _ _ rfl]
       have g0:w1.cell? ⟨w.heap.size,0,none⟩=some (.string OP):=gB 0
       have g1:w1.cell? ⟨w.heap.size,1,none⟩=some (.string NM):=gB 1
       have g2:w1.cell? ⟨w.heap.size,2,none⟩=some (.int .i64 VT):=gB 2
       have g3:w1.cell? ⟨w.heap.size,3,none⟩=some (.int .i64 VN):=gB 3
       have g4:w1.cell? ⟨w.heap.size,4,none⟩=some (.string VS):=gB 4
       have g5:w1.cell? ⟨w.heap.size,5,none⟩=some (.slice p M c):=gB 5
       have b3:Below w.heap.size w w1:=b1.trans (b2.mono (by simp))
       clear gB
       go_wp2_with fail
       refine (cN _ b3).mono ?_
       rintro e w2 ⟨rfl,b4⟩
       have hz2:w.heap.size<w2.heap.size:=by have:=b4.size;omega
       have k0:w2.cell? ⟨w.heap.size,0,none⟩=some (.string OP):=by rw[b4.cell (p:=⟨w.heap.size,0,none⟩) hz1];exact g0
       have k1:w2.cell? ⟨w.heap.size,1,none⟩=some (.string NM):=by rw[b4.cell (p:=⟨w.heap.size,1,none⟩) hz1];exact g1
       have k2:w2.cell? ⟨w.heap.size,2,none⟩=some (.int .i64 VT):=by rw[b4.cell (p:=⟨w.heap.size,2,none⟩) hz1];exact g2
       have k3:w2.cell? ⟨w.heap.size,3,none⟩=some (.int .i64 VN):=by rw[b4.cell (p:=⟨w.heap.size,3,none⟩) hz1];exact g3
       have k4:w2.cell? ⟨w.heap.size,4,none⟩=some (.string VS):=by rw[b4.cell (p:=⟨w.heap.size,4,none⟩) hz1];exact g4
       have k5:w2.cell? ⟨w.heap.size,5,none⟩=some (.slice p M c):=by rw[b4.cell (p:=⟨w.heap.size,5,none⟩) hz1];exact g5
       have b5:Below w.heap.size w w2:=b3.trans (b4.mono b3.size)
       go_wp2
       go_ret
       exact⟨by rw[←HV.out];rfl,b5⟩
      ·have HV:=key 0 rfl
       go_enter Tryz.func36,Tryz.ntmps36
       go_wp2_with fail
       refine cA.mono ?_
       rintro e w1 ⟨rfl,b2⟩
       have hz1:w.heap.size<w1.heap.size:=by have:=b2.size;simp at this;omega
       have gB:∀i,w1.cell? ⟨w.heap.size,i,none⟩=(#[.string OP,.string NM,.int .i64 VT,.int .i64 VN,.string VS,.slice p M c,.int .i64 PS]:Array Value)[i]?:=fun i=>by rw[b2.cell (p:=⟨w.heap.size,i,none⟩) (by simp),World.cell?_alloc_at _ _ _ _ rfl]
       have g0:w1.cell? ⟨w.heap.size,0,none⟩=some (.string OP):=gB 0
       have g1:w1.cell? ⟨w.heap.size,1,none⟩=some (.string NM):=gB 1
       have g2:w1.cell? ⟨w.heap.size,2,none⟩=some (.int .i64 VT):=gB 2
       have g3:w1.cell? ⟨w.heap.size,3,none⟩=some (.int .i64 VN):=gB 3
       have g4:w1.cell? ⟨w.heap.size,4,none⟩=some (.string VS):=gB 4
       have g5:w1.cell? ⟨w.heap.size,5,none⟩=some (.slice p M c):=gB 5
       have b3:Below w.heap.size w w1:=b1.trans (b2.mono (by simp))
       clear gB
       go_wp2_with fail
       refine (cN _ b3).mono ?_
       rintro e w2 ⟨rfl,b4⟩
       have hz2:w.heap.size<w2.heap.size:=by have:=b4.size;omega
       have k0:w2.cell? ⟨w.heap.size,0,none⟩=some (.string OP):=by rw[b4.cell (p:=⟨w.heap.size,0,none⟩) hz1];exact g0
       have k1:w2.cell? ⟨w.heap.size,1,none⟩=some (.string NM):=by rw[b4.cell (p:=⟨w.heap.size,1,none⟩) hz1];exact g1
       have k2:w2.cell? ⟨w.heap.size,2,none⟩=some (.int .i64 VT):=by rw[b4.cell (p:=⟨w.heap.size,2,none⟩) hz1];exact g2
       have k3:w2.cell? ⟨w.heap.size,3,none⟩=some (.int .i64 VN):=by rw[b4.cell (p:=⟨w.heap.size,3,none⟩) hz1];exact g3
       have k4:w2.cell? ⟨w.heap.size,4,none⟩=some (.string VS):=by rw[b4.cell (p:=⟨w.heap.size,4,none⟩) hz1];exact g4
       have k5:w2.cell? ⟨w.heap.size,5,none⟩=some (.slice p M c):=by rw[b4.cell (p:=⟨w.heap.size,5,none⟩) hz1];exact g5
       have b5:Below w.heap.size w w2:=b3.trans (b4.mono b3.size)
       go_wp2
       go_ret
       exact⟨by rw[←HV.out];rfl,b5⟩
     ·have HV:=key CV rfl
      go_enter Tryz.func36,Tryz.ntmps36
      go_wp2_with fail
      refine cA.mono ?_
      rintro e w1 ⟨rfl,b2⟩
      have hz1:w.heap.size<w1.heap.size:=by have:=b2.size;simp at this;omega
      have gB:∀i,w1.cell? ⟨w.heap.size,i,none⟩=(#[.string OP,.string NM,.int .i64 VT,.int .i64 VN,.string VS,.slice p M c,.int .i64 PS]:Array Value)[i]?:=fun i=>by rw[b2.cell (p:=⟨w.heap.size,i,none⟩) (by simp),World.cell?_alloc_at _ _ _ _ rfl]
      have g0:w1.cell? ⟨w.heap.size,0,none⟩=some (.string OP):=gB 0
      have g1:w1.cell? ⟨w.heap.size,1,none⟩=some (.string NM):=gB 1
      have g2:w1.cell? ⟨w.heap.size,2,none⟩=some (.int .i64 VT):=gB 2
      have g3:w1.cell? ⟨w.heap.size,3,none⟩=some (.int .i64 VN):=gB 3
      have g4:w1.cell? ⟨w.heap.size,4,none⟩=some (.string VS):=gB 4
      have g5:w1.cell? ⟨w.heap.size,5,none⟩=some (.slice p M c):=gB 5
      have b3:Below w.heap.size w w1:=b1.trans (b2.mono (by simp))
      clear gB
      go_wp2_with fail
      refine (cN _ b3).mono ?_
      rintro e w2 ⟨rfl,b4⟩
      have hz2:w.heap.size<w2.heap.size:=by have:=b4.size;omega
      have k0:w2.cell? ⟨w.heap.size,0,none⟩=some (.string OP):=by rw[b4.cell (p:=⟨w.heap.size,0,none⟩) hz1];exact g0
      have k1:w2.cell? ⟨w.heap.size,1,none⟩=some (.string NM):=by rw[b4.cell (p:=⟨w.heap.size,1,none⟩) hz1];exact g1
      have k2:w2.cell? ⟨w.heap.size,2,none⟩=some (.int .i64 VT):=by rw[b4.cell (p:=⟨w.heap.size,2,none⟩) hz1];exact g2
      have k3:w2.cell? ⟨w.heap.size,3,none⟩=some (.int .i64 VN):=by rw[b4.cell (p:=⟨w.heap.size,3,none⟩) hz1];exact g3
      have k4:w2.cell? ⟨w.heap.size,4,none⟩=some (.string VS):=by rw[b4.cell (p:=⟨w.heap.size,4,none⟩) hz1];exact g4
      have k5:w2.cell? ⟨w.heap.size,5,none⟩=some (.slice p M c):=by rw[b4.cell (p:=⟨w.heap.size,5,none⟩) hz1];exact g5
      have b5:Below w.heap.size w w2:=b3.trans (b4.mono b3.size)
      go_wp2_with fail
      refine (cV _).mono ?_
      rintro e w3 ⟨rfl,b6⟩
      go_wp2
      go_ret
      exact⟨by rw[←HV.out];rfl,b5.trans (b6.mono b5.size)⟩
    ·have HV:=key 3 rfl
     go_enter Tryz.func36,Tryz.ntmps36
     go_wp2_with fail
     refine cA.mono ?_
     rintro e w1 ⟨rfl,b2⟩
     have hz1:w.heap.size<w1.heap.size:=by have:=b2.size;simp at this;omega
     have gB:∀i,w1.cell? ⟨w.heap.size,i,none⟩=(#[.string OP,.string NM,.int .i64 VT,.int .i64 VN,.string VS,.slice p M c,.int .i64 PS]:Array Value)[i]?:=fun i=>by rw[b2.cell (p:=⟨w.heap.size,i,none⟩) (by simp),World.cell?_alloc_at _ _ _ _ rfl]
     have g0:w1.cell? ⟨w.heap.size,0,none⟩=some (.string OP):=gB 0
     have g1:w1.cell? ⟨w.heap.size,1,none⟩=some (.string NM):=gB 1
     have g2:w1.cell? ⟨w.heap.size,2,none⟩=some (.int .i64 VT):=gB 2
     have g3:w1.cell? ⟨w.heap.size,3,none⟩=some (.int .i64 VN):=gB 3
     have g4:w1.cell? ⟨w.heap.size,4,none⟩=some (.string VS):=gB 4
     have g5:w1.cell? ⟨w.heap.size,5,none⟩=some (.slice p M c):=gB 5
     have b3:Below w.heap.size w w1:=b1.trans (b2.mono (by simp))
     clear gB
     go_wp2_with fail
     refine (cN _ b3).mono ?_
     rintro e w2 ⟨rfl,b4⟩
     have hz2:w.heap.size<w2.heap.size:=by have:=b4.size;omega
     have k0:w2.cell? ⟨w.heap.size,0,none⟩=some (.string OP):=by rw[b4.cell (p:=⟨w.heap.size,0,none⟩) hz1];exact g0
     have k1:w2.cell? ⟨w.heap.size,1,none⟩=some (.string NM):=by rw[b4.cell (p:=⟨w.heap.size,1,none⟩) hz1];exact g1
     have k2:w2.cell? ⟨w.heap.size,2,none⟩=some (.int .i64 VT):=by rw[b4.cell (p:=⟨w.heap.size,2,none⟩) hz1];exact g2
     have k3:w2.cell? ⟨w.heap.size,3,none⟩=some (.int .i64 VN):=by rw[b4.cell (p:=⟨w.heap.size,3,none⟩) hz1];exact g3
     have k4:w2.cell? ⟨w.heap.size,4,none⟩=some (.string VS):=by rw[b4.cell (p:=⟨w.heap.size,4,none⟩) hz1];exact g4
     have k5:w2.cell? ⟨w.heap.size,5,none⟩=some (.slice p M c):=by rw[b4.cell (p:=⟨w.heap.size,5,none⟩) hz1];exact g5
     have b5:Below w.heap.size w w2:=b3.trans (b4.mono b3.size)
     go_wp2
     go_ret
     exact⟨by rw[←HV.out];rfl,b5⟩
def fck(s:Int)(x:Ex)(d:Nat):Int×Bool:=(nodeE x,nodeE x == 0)
def ckP(x:Ex):Int:=if tgB x=true then 4 else (foldP fck 0 (x.pre 1)).1
def ErrIn(p:Nat)(W:World)(s:Int)(m:Nat):Prop:=(W.cell? ⟨p,0,none⟩=some (errV s)∧W.frozen? ⟨p,0,none⟩=false∧p<W.heap.size)∧TEnv W∧12≤p
theorem zlP(p:Nat)(W:World)(v:Value)(lo:Nat→Prop)(x:Ex)(d:Nat)(s:Int)(m:Nat)(hx:ExIn W lo v x)(hs:ErrIn p W s (m+1)) :
  Calls Tryz.prog 35 #[v,.int .i64 (d:Int),.pointer (some ⟨p,0,none⟩)] W fun e w'=>e=.returned (.bool (fck s x d).2)∧((fck s x d).2=true→ErrIn p w' (fck s x d).1 m)∧((fck s x d).2=false→ErrIn p w' (fck s x d).1 0)∧But p W w':=by
 obtain⟨⟨h1,h2,h3⟩,henv,hG⟩:=hs
 obtain⟨o1,n1,t1,k1,s1,p1,m1,c1,a1,rfl⟩:=hx.agg
 have b1:Below W.heap.size W (W.alloc (.cells #[.string o1,.string n1,.int .i64 t1,.int .i64 k1,.string s1,.slice p1 m1 c1,.int .i64 a1] 30)):=al W _
 have cN:=zgD x lo _ _ (henv.on b1) (hx.on b1)
 have q1:=zqW (nodeE x)
 have q2:=zns (nodeE x)
 have key:Hid (∀w',But p W w'→w'.cell? ⟨p,0,none⟩=some (errV (nodeE x))→w'.frozen? ⟨p,0,none⟩=false→∀j,ErrIn p w' (nodeE x) j):=fun w' hb hc hf j=>⟨⟨hc,hf,by have:=hb.size;omega⟩,henv.but hb hG,hG⟩
 rw[fck]
 show Calls Tryz.prog 35 _ W fun e w'=>e=.returned (.bool (nodeE x == 0))∧((nodeE x == 0)=true→ErrIn p w' (nodeE x) m)∧((nodeE x == 0)=false→ErrIn p w' (nodeE x) 0)∧But p W w'
 have fin:Hid (∀w1,Below (W.alloc (.cells #[.string o1,.string n1,.int .i64 t1,.int .i64 k1,.string s1,.slice p1 m1 c1,.int .i64 a1] 30)).heap.size (W.alloc (.cells #[.string o1,.string n1,.int .i64 t1,.int .i64 k1,.string s1,.slice p1 m1 c1,.int .i64 a1] 30)) w1→(∀j,ErrIn p (w1.setCell ⟨p,0,none⟩ (errV (nodeE x))) (nodeE x) j)∧But p W (w1.setCell ⟨p,0,none⟩ (errV (nodeE x)))):=fun w1 b2=>by
  have b3:Below W.heap.size W w1:=b1.trans (b2.mono (by simp))
  have bb:But p W (w1.setCell ⟨p,0,none⟩ (errV (nodeE x))):=(But.of_below' b3 (Nat.le_of_lt h3)).set 0 _
  have e1:w1.cell? ⟨p,0,none⟩=some (errV s):=by rw[b3.cell (p:=⟨p,0,none⟩) h3];exact h1
  have e2:w1.frozen? ⟨p,0,none⟩=false:=by rw[b3.frozen (p:=⟨p,0,none⟩) h3];exact h2
  exact⟨key.out _ bb (World.cell?_setCell_same w1 ⟨p,0,none⟩ _ e1) (by simpa using e2),bb⟩
 clear key
 generalize nodeE x=K at *
 by_cases hK:K=0
 ·have hU:errV K=.nilIface:=if_pos hK
  have hQ:(K == 0)=true:=by simpa using hK
  rw[hU] at cN q1 q2 fin
  rw[hQ] at q1
  rw[hQ]
  clear hU hQ hK
  clear henv hx
  go_enter Tryz.func35,Tryz.ntmps35
  go_wp2_with fail
  refine cN.mono ?_
  rintro e w1 ⟨rfl,b2⟩
  have b3:Below W.heap.size W w1:=b1.trans (b2.mono (by simp))
  have e1:w1.cell? ⟨p,0,none⟩=some (errV s):=by rw[b3.cell (p:=⟨p,0,none⟩) h3];exact h1
  have e2:w1.frozen? ⟨p,0,none⟩=false:=by rw[b3.frozen (p:=⟨p,0,none⟩) h3];exact h2
  have FN:Hid ((∀j,ErrIn p (w1.setCell ⟨p,0,none⟩ .nilIface) K j)∧But p W (w1.setCell ⟨p,0,none⟩ .nilIface)):=fin.out w1 b2
  have hl:p<w1.heap.size:=by have:=b3.size;omega
  clear fin cN b1 b2 b3 h1 h2
  go_wp2
  go_ret
  exact⟨rfl,fun _=>FN.out.1 _,fun _=>FN.out.1 _,FN.out.2⟩
 ·have hU:errV K=.iface 35 (.int .i64 K):=if_neg hK
  have hQ:(K == 0)=false:=by simpa using hK
  rw[hU] at cN q1 q2 fin
  rw[hQ] at q1
  rw[hQ]
  clear hU hQ hK
  clear henv hx
  go_enter Tryz.func35,Tryz.ntmps35
  go_wp2_with fail
  refine cN.mono ?_
  rintro e w1 ⟨rfl,b2⟩
  have b3:Below W.heap.size W w1:=b1.trans (b2.mono (by simp))
  have e1:w1.cell? ⟨p,0,none⟩=some (errV s):=by rw[b3.cell (p:=⟨p,0,none⟩) h3];exact h1
  have e2:w1.frozen? ⟨p,0,none⟩=false:=by rw[b3.frozen (p:=⟨p,0,none⟩) h3];exact h2
  have FN:Hid ((∀j,ErrIn p (w1.setCell ⟨p,0,none⟩ (.iface 35 (.int .i64 K))) K j)∧But p W (w1.setCell ⟨p,0,none⟩ (.iface 35 (.int .i64 K)))):=fin.out w1 b2
  have hl:p<w1.heap.size:=by have:=b3.size;omega
  clear fin cN b1 b2 b3 h1 h2
  go_wp2
  go_ret
  exact⟨rfl,fun _=>FN.out.1 _,fun _=>FN.out.1 _,FN.out.2⟩
theorem zgn(x:Ex)(lo:Nat→Prop)(v:Value)(w:World)(henv:TEnv w)(hx:ExIn w lo v x)(hsz:(x.pre 1).length≤1048576) :
  Calls Tryz.prog 17 #[v] w fun e w'=>e=.returned (errV (ckP x))∧Below w.heap.size w w':=by
 obtain⟨o1,n1,t1,k1,s1,p1,m1,c1,a1,rfl⟩:=hx.agg
 have b1:Below w.heap.size w (w.alloc (.cells #[.string o1,.string n1,.int .i64 t1,.int .i64 k1,.string s1,.slice p1 m1 c1,.int .i64 a1] 30)):=al w _
 have cT:=zgO x (fun b=>lo b∧b<w.heap.size) _ _ ((ExIn.low (fun b h1 h2=>⟨h2,h1⟩) _ _ hx).on b1) hsz
 have hG:=henv.big
 have cW:∀w1:World,Below (w.alloc (.cells #[.string o1,.string n1,.int .i64 t1,.int .i64 k1,.string s1,.slice p1 m1 c1,.int .i64 a1] 30)).heap.size (w.alloc (.cells #[.string o1,.string n1,.int .i64 t1,.int .i64 k1,.string s1,.slice p1 m1 c1,.int .i64 a1] 30)) w1→Calls Tryz.prog 34 #[.agg #[.string o1,.string n1,.int .i64 t1,.int .i64 k1,.string s1,.slice p1 m1 c1,.int .i64 a1],.func (.func 35) #[] #[.pointer (some ⟨w1.heap.size,0,none⟩)]] (w1.alloc (.cells #[.nilIface] 42)) fun e w'=>e=.returned (.bool (foldP fck 0 (x.pre 1)).2)∧w'.cell? ⟨w1.heap.size,0,none⟩=some (errV (foldP fck 0 (x.pre 1)).1)∧w1.heap.size<w'.heap.size∧Below w.heap.size w w':=by
  intro w1 b2
  have b3:Below w.heap.size w w1:=b1.trans (b2.mono (by simp))
  have hz1:w.heap.size+1≤w1.heap.size:=by have:=b2.size;simpa using this
  have b4:Below w.heap.size w (w1.alloc (.cells #[.nilIface] 42)):=b3.trans ((al _ _).mono b3.size)
  have cc:=zlS fck 35 (fun args W=>by kernel_rfl) w1.heap.size (ErrIn w1.heap.size) (fun W s=>ErrIn w1.heap.size W s 0) (fun b=>lo b∧b<w.heap.size) (w1.alloc (.cells #[.nilIface] 42)) _ x 0 (by simp) ((ExIn.low (fun b h1 h2=>⟨h2,h1⟩) _ _ hx).on b4) (fun b h1 _=>by have:=h1.2;omega) hsz
   (fun W v y d s m _ hy _ hs=>zlP _ W v _ y d s m hy hs)
   (fun W W' s m hb hz hs=>by
    obtain⟨⟨h1,h2,h3⟩,h4,h5⟩:=hs
    exact⟨⟨by rw[hb.cell (p:=⟨w1.heap.size,0,none⟩) (by simp)];exact h1,by rw[hb.frozen (p:=⟨w1.heap.size,0,none⟩) (by simp)];exact h2,by omega⟩,h4.onB hb (by simp;omega) hz,h5⟩)
   ⟨⟨by rw[World.cell?_alloc_at _ _ _ _ rfl];rfl,World.frozen?_alloc_at _ _ _ _ rfl,by simp⟩,henv.on b4,by omega⟩
  refine cc.mono ?_
  rintro e w' ⟨he,g1,g2,g3⟩
  have gz:=g3.size
  simp at gz
  refine⟨he,?_,by omega,b4.trans (g3.below.mono (by omega))⟩
  cases hq:(foldP fck 0 (x.pre 1)).2
  ·exact (g2 hq).1.1
  ·exact (g1 hq).1.1
 obtain⟨K,hK⟩:∃K,errV (ckP x)=K:=⟨_,rfl⟩
 have HK:Hid (errV (ckP x)=K):=hK
 rw[hK]
 rw[ckP] at HK
 generalize foldP fck 0 (x.pre 1)=T at cW HK
 obtain⟨T1,T2⟩:=T
 simp only at cW HK
 generalize tgB x=G at cT HK
 cases G
 ·have HV:Hid (errV T1=K):=by show _=_;rw[←HK.out];rfl
  clear HK
  generalize errV T1=U at *
  go_enter Tryz.func17,Tryz.ntmps17
  go_wp2_with fail
  refine cT.mono ?_
  rintro e w1 ⟨rfl,b2⟩
  have cc:=cW w1 b2
  have hz1:w.heap.size<w1.heap.size:=by have:=b2.size;simp at this;omega
  have gB:∀i,w1.cell? ⟨w.heap.size,i,none⟩=(#[.string o1,.string n1,.int .i64 t1,.int .i64 k1,.string s1,.slice p1 m1 c1,.int .i64 a1]:Array Value)[i]?:=fun i=>by rw[b2.cell (p:=⟨w.heap.size,i,none⟩) (by simp),World.cell?_alloc_at _ _ _ _ rfl]
  have g0:w1.cell? ⟨w.heap.size,0,none⟩=some (.string o1):=gB 0
  have g1:w1.cell? ⟨w.heap.size,1,none⟩=some (.string n1):=gB 1
  have g2:w1.cell? ⟨w.heap.size,2,none⟩=some (.int .i64 t1):=gB 2
  have g3:w1.cell? ⟨w.heap.size,3,none⟩=some (.int .i64 k1):=gB 3
  have g4:w1.cell? ⟨w.heap.size,4,none⟩=some (.string s1):=gB 4
  have g5:w1.cell? ⟨w.heap.size,5,none⟩=some (.slice p1 m1 c1):=gB 5
  have g6:w1.cell? ⟨w.heap.size,6,none⟩=some (.int .i64 a1):=gB 6
  clear gB cW
  go_wp2_with fail
  refine cc.mono ?_
  rintro e w2 ⟨rfl,hc2,hl2,b5⟩
  go_wp2
  go_ret
  exact⟨by rw[←HV.out];rfl,b5⟩
 ·have HV:Hid ((.iface 35 (.int .i64 4):Value)=K):=by show _=_;rw[←HK.out];rfl
  clear HK cW
  go_enter Tryz.func17,Tryz.ntmps17
  go_wp2_with fail
  refine cT.mono ?_
  rintro e w1 ⟨rfl,b2⟩
  go_wp2
  go_ret
  exact⟨by rw[←HV.out];rfl,b1.trans (b2.mono (by simp))⟩
theorem zdN(x:Ex)(lo:Nat→Prop)(v:Value)(b off c:Nat)(zs:List (ByteArray×Int))(w:World)(henv:KEnv w)(hx:ExIn w lo v x)(hn:zs.length≤6)(hc:zaZ w b off zs)(T H P:Int)(hR:(if findN x.nm.data.toList zs=-1 then (0,5,x.pos) else ((zs[(findN x.nm.data.toList zs).toNat]?.getD default).2,0,0))=(T,H,P)) :
  Calls Tryz.prog 188 #[v,.slice (some ⟨b,off,none⟩) zs.length c] w fun e w'=>e=.returned (.tuple #[.int .i64 T,.agg #[.int .i64 H,.int .i64 P]])∧Below w.heap.size w w':=by
 obtain⟨p,c1,rfl,_,_,_,_⟩:=hx.whole
 have b1:Below w.heap.size w ((w.alloc (.cells #[.string x.op,.string x.nm,.int .i64 x.vt,.int .i64 x.vn,.string x.vs,.slice p x.args.length c1,.int .i64 x.pos] 30)).alloc (.cells #[.int .i64 0,.int .i64 0] 37)):=((Below.refl _ w).alloc (Nat.le_refl _) _).alloc (by simp) _
 have key:∀w1,Below ((w.alloc (.cells #[.string x.op,.string x.nm,.int .i64 x.vt,.int .i64 x.vn,.string x.vs,.slice p x.args.length c1,.int .i64 x.pos] 30)).alloc (.cells #[.int .i64 0,.int .i64 0] 37)).heap.size ((w.alloc (.cells #[.string x.op,.string x.nm,.int .i64 x.vt,.int .i64 x.vn,.string x.vs,.slice p x.args.length c1,.int .i64 x.pos] 30)).alloc (.cells #[.int .i64 0,.int .i64 0] 37)) w1→w1.cell? ⟨w.heap.size,6,none⟩=some (.int .i64 x.pos)∧w1.cell? ⟨w.heap.size+1,0,none⟩=some (.int .i64 0)∧w1.cell? ⟨w.heap.size+1,1,none⟩=some (.int .i64 0)∧(∀o,w1.frozen? ⟨w.heap.size+1,o,none⟩=false)∧w.heap.size+1<w1.heap.size:=fun w1 b2=>by
  have hz:=b2.size
  simp at hz
  refine⟨?_,?_,?_,fun o=>?_,by omega⟩
  ·rw[b2.cell (p:=⟨w.heap.size,6,none⟩) (by simp;omega),World.cell?_alloc_lt _ _ _ (by simp),World.cell?_alloc_at _ _ _ _ rfl];rfl
  ·rw[b2.cell (p:=⟨w.heap.size+1,0,none⟩) (by simp),World.cell?_alloc_at _ _ _ _ (by simp)];rfl
  ·rw[b2.cell (p:=⟨w.heap.size+1,1,none⟩) (by simp),World.cell?_alloc_at _ _ _ _ (by simp)];rfl
  ·rw[b2.frozen (p:=⟨w.heap.size+1,o,none⟩) (by simp),World.frozen?_alloc_at _ _ _ _ (by simp)]
 have HE:Aside (KEnv w):=henv
 have HCc:Aside (zaZ w b off zs):=hc
 by_cases h1:findN x.nm.data.toList zs=-1
 ·rw[if_pos h1] at hR
  simp only[Prod.mk.injEq] at hR
  obtain⟨rfl,rfl,rfl⟩:=hR
  have cF:=ziK x.nm b off c zs _ (by omega) (hc.on b1) h1
  clear h1 hx henv hc
  generalize x.op=OP at *
  generalize x.nm=NM at *
  generalize x.vs=VS at *
  generalize x.vt=VT at *
  generalize x.vn=VN at *
  generalize x.pos=PS at *
  generalize x.args.length=M at *
  go_enter Tryz.func188,Tryz.ntmps188
  go_wp2_with fail
  refine cF.mono ?_
  rintro e w1 ⟨rfl,b2⟩
  obtain⟨k6,f0,f1,ff,hl⟩:=key w1 b2
  have b3:Below w.heap.size w w1:=b1.trans (b2.mono b1.size)
  have cP:=zbC 5 PS w1 (HE.out.on b3)
  have hl0:w.heap.size<w1.heap.size:=by omega
  clear key cF b1 HE HCc
  go_wp2_with fail
  refine cP.mono ?_
  rintro e w2 ⟨rfl,b4⟩
  have g0:w2.cell? ⟨w.heap.size+1,0,none⟩=some (.int .i64 0):=by rw[b4.cell (p:=⟨w.heap.size+1,0,none⟩) hl];exact f0
  have g1:w2.cell? ⟨w.heap.size+1,1,none⟩=some (.int .i64 0):=by rw[b4.cell (p:=⟨w.heap.size+1,1,none⟩) hl];exact f1
  have gf:∀o,w2.frozen? ⟨w.heap.size+1,o,none⟩=false:=fun o=>by rw[b4.frozen (p:=⟨w.heap.size+1,o,none⟩) hl];exact ff o
  have hl2:w.heap.size+1<w2.heap.size:=by have:=b4.size;omega
  have b5:Below w.heap.size w w2:=b3.trans (b4.mono b3.size)
  clear cP b2 b3 b4
  go_wp2
  refine bodyPost_ret (v:=.tuple #[.int .i64 0,.agg #[.int .i64 5,.int .i64 PS]]) (by simp[results,Tryz.results188,go_sem,World.cell?_setCell_other,World.cell?_setCell_same,g0,g1]) rfl ⟨rfl,?_⟩
  exact (b5.setCell (p:=⟨w.heap.size+1,0,none⟩) (Nat.le_succ _) _).setCell (p:=⟨w.heap.size+1,1,none⟩) (Nat.le_succ _) _
 ·rw[if_neg h1] at hR
  simp only[Prod.mk.injEq] at hR
  obtain⟨hT,rfl,rfl⟩:=hR
  rcases zbA x.nm.data.toList zs with ⟨h,_⟩|⟨k,hk,hkl,_⟩
  ·exact absurd h h1
  have HTk:Hid (zs[k].2=T):=by
   show _=_
   rw[←hT,hk]
   simp[hkl]
  have cF:=zgP x.nm b off c zs _ (by omega) (hc.on b1) k hk
  clear h1 hx henv hT hk
  generalize x.op=OP at *
  generalize x.nm=NM at *
  generalize x.vs=VS at *
  generalize x.vt=VT at *
  generalize x.vn=VN at *
  generalize x.pos=PS at *
  generalize x.args.length=M at *
  have hk0:(0:Int)≤(k:Int):=by omega
  have hkz:(k:Int)<(zs.length:Int):=by omega
  go_enter Tryz.func188,Tryz.ntmps188
  go_wp2_with fail
  refine cF.mono ?_
  rintro e w1 ⟨rfl,b2⟩
  obtain⟨k6,f0,f1,ff,hl⟩:=key w1 b2
  have b3:Below w.heap.size w w1:=b1.trans (b2.mono b1.size)
  obtain⟨hbl,hcc⟩:=HCc.out.on b3
  have ct:=(hcc k hkl).2
  rw[HTk.out] at ct
  clear key cF b1 HE HCc hcc HTk hc
  go_wp2
  refine bodyPost_ret (v:=.tuple #[.int .i64 T,.agg #[.int .i64 0,.int .i64 0]]) (by simp[results,Tryz.results188,go_sem,World.cell?_setCell_other,World.cell?_setCell_same,f0,f1]) rfl ⟨rfl,?_⟩
  exact (b3.setCell (p:=⟨w.heap.size+1,0,none⟩) (Nat.le_succ _) _).setCell (p:=⟨w.heap.size+1,1,none⟩) (Nat.le_succ _) _
end
end Go.Proofs.YtopghagjmdbglaaGreatDoor
