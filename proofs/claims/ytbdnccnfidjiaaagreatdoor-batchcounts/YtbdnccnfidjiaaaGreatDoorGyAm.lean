/-
  TreeCk, TreeCh, KdOf, KdOfB, QyP, QuP, QyM, QuC1, TreeWs.
-/
import Derived.Test.YtbdnccnfidjiaaaGreatDoorGyAk
import Derived.Laws.StructEq
import Derived.Test.YtbdnccnfidjiaaaGreatDoorGyAl
import Derived.Test.YtbdnccnfidjiaaaGreatDoorGyAi
import Derived.Test.YtbdnccnfidjiaaaGreatDoorGyAj
import Derived.Test.YtbdnccnfidjiaaaGreatDoorGyAh
import Derived.Test.YtbdnccnfidjiaaaGreatDoorGyAa
import Derived.Deep.MidRow
import Derived.Deep.QuietTactic
import Derived.Test.YtbdnccnfidjiaaaGreatDoorGyAc
import Derived.Lib.Builder
import Derived.Lib.AppendStr
import Derived.Lib.OthersKept
import Derived.Deep.LoopGhost
import Derived.Lib.ItoaLen
namespace Go.Proofs.YtbdnccnfidjiaaaGreatDoor
open Go.RowKit
set_option linter.unusedVariables false
set_option linter.unusedSimpArgs false
set_option maxHeartbeats 8000000
section
open Go.BigFrame
theorem zjy(k:Int)(W:World):Sem.run Tryz.prog (binOp .neq 45 (errV k) .nilIface) W=.ok (.bool (k != 0)) W:=by
 rw[errV]
 split
 ·rename_i h;subst h;kernel_rfl
 ·rename_i h
  rw[show (k != 0)=true by simpa using h]
  kernel_rfl
theorem zhl(k:Int)(W:World)(j:Nat):Sem.run Tryz.prog (eqGuard .neq 45 (.tmp j) (.const .nilIface) (errV k) .nilIface) W=.ok () W:=by
 rw[errV]
 split<;>kernel_rfl
theorem zoq(k:Int)(W:World):Sem.run Tryz.prog (binOp .eql 45 (errV k) .nilIface) W=.ok (.bool (k == 0)) W:=by
 rw[errV]
 split
 ·rename_i h;subst h;kernel_rfl
 ·rename_i h
  rw[show (k == 0)=false by simpa using h]
  kernel_rfl
theorem zlL(k:Int)(W:World)(j:Nat):Sem.run Tryz.prog (eqGuard .eql 45 (.tmp j) (.const .nilIface) (errV k) .nilIface) W=.ok () W:=by
 rw[errV]
 split<;>kernel_rfl
def ckV(t n:Int)(l:List UInt8):Int:=if chk t n l≠0 then chk t n l else if t=1∧n<0 then 1 else 0
theorem zge(t n:Int)(s:ByteArray)(w:World)(hs:s.size≤maxLen) :
  Calls Tryz.prog 60 #[.agg #[.int .i64 t,.int .i64 n,.string s]] w fun e w'=>e=.returned (errV (ckV t n s.data.toList))∧Below w.heap.size w w':=by
 have b1:Below w.heap.size w (w.alloc (.cells #[.int .i64 t,.int .i64 n,.string s] 28)):=(Below.refl _ w).alloc (Nat.le_refl _) _
 have cC:=zbH t n s (w.alloc (.cells #[.int .i64 t,.int .i64 n,.string s] 28)) hs
 obtain⟨K,hK⟩:∃K,ckV t n s.data.toList=K:=⟨_,rfl⟩
 have HK:Hid (ckV t n s.data.toList=K):=hK
 rw[hK]
 clear hK
 have hn1:=zjy (chk t n s.data.toList)
 have hn2:=zhl (chk t n s.data.toList)
 obtain⟨E,hE⟩:∃E,chk t n s.data.toList=E:=⟨_,rfl⟩
 have HE:Hid (chk t n s.data.toList=E):=hE
 rw[hE] at cC hn1 hn2
 clear hE
 by_cases h0:E=0
 ·subst h0
  have hb:((0:Int) != 0)=false:=rfl
  rw[show errV 0=.nilIface from rfl] at cC
  clear hn1 hn2
  by_cases h1:t=1
  ·subst h1
   by_cases h2:n<0
   ·have hk:(.iface 35 (.int .i64 1):Value)=errV K:=by rw[←HK.out,ckV,if_neg (by rw[HE.out];simp),if_pos ⟨rfl,h2⟩];rfl
    have HV:Hid ((.iface 35 (.int .i64 1):Value)=errV K):=hk
    clear HK hk HE
    generalize errV K=V at HV ⊢
    go_enter Tryz.func60,Tryz.ntmps60
    go_wp2_with fail
    refine cC.mono ?_
    rintro e w1 ⟨rfl,b2⟩
    have c0:w1.cell? ⟨w.heap.size,0,none⟩=some (.int .i64 1):=by rw[b2.cell (p:=⟨w.heap.size,0,none⟩) (by simp),World.cell?_alloc_at _ _ _ _ rfl];rfl
    have c1:w1.cell? ⟨w.heap.size,1,none⟩=some (.int .i64 n):=by rw[b2.cell (p:=⟨w.heap.size,1,none⟩) (by simp),World.cell?_alloc_at _ _ _ _ rfl];rfl
    have hl:w.heap.size<w1.heap.size:=by have:=b2.size;simp at this;omega
    go_wp2
    go_ret
    exact⟨by rw[←HV.out];rfl,b1.trans (b2.mono (by simp))⟩
   ·have hk:(.nilIface:Value)=errV K:=by rw[←HK.out,ckV,if_neg (by rw[HE.out];simp),if_neg (fun h=>h2 h.2)];rfl
    have HV:Hid ((.nilIface:Value)=errV K):=hk
    clear HK hk HE
    generalize errV K=V at HV ⊢
    go_enter Tryz.func60,Tryz.ntmps60
    go_wp2_with fail
    refine cC.mono ?_
    rintro e w1 ⟨rfl,b2⟩
    have c0:w1.cell? ⟨w.heap.size,0,none⟩=some (.int .i64 1):=by rw[b2.cell (p:=⟨w.heap.size,0,none⟩) (by simp),World.cell?_alloc_at _ _ _ _ rfl];rfl
    have c1:w1.cell? ⟨w.heap.size,1,none⟩=some (.int .i64 n):=by rw[b2.cell (p:=⟨w.heap.size,1,none⟩) (by simp),World.cell?_alloc_at _ _ _ _ rfl];rfl
    have hl:w.heap.size<w1.heap.size:=by have:=b2.size;simp at this;omega
    go_wp2
    go_ret
    exact⟨by rw[←HV.out];rfl,b1.trans (b2.mono (by simp))⟩
  ·have hk:(.nilIface:Value)=errV K:=by rw[←HK.out,ckV,if_neg (by rw[HE.out];simp),if_neg (fun h=>h1 h.1)];rfl
   have HV:Hid ((.nilIface:Value)=errV K):=hk
   have h1z:(t == 1)=false:=by simpa using h1
   clear HK hk HE
   generalize errV K=V at HV ⊢
   go_enter Tryz.func60,Tryz.ntmps60
   go_wp2_with fail
   refine cC.mono ?_
   rintro e w1 ⟨rfl,b2⟩
   have c0:w1.cell? ⟨w.heap.size,0,none⟩=some (.int .i64 t):=by rw[b2.cell (p:=⟨w.heap.size,0,none⟩) (by simp),World.cell?_alloc_at _ _ _ _ rfl];rfl
   have hl:w.heap.size<w1.heap.size:=by have:=b2.size;simp at this;omega
   go_wp2
   go_ret
   exact⟨by rw[←HV.out];rfl,b1.trans (b2.mono (by simp))⟩
 ·have hk:errV E=errV K:=by rw[←HK.out,ckV,HE.out,if_pos h0]
  have HV:Hid (errV E=errV K):=hk
  have hb:(E != 0)=true:=by simpa using h0
  rw[hb] at hn1
  clear HK hk HE h0 hb
  generalize errV K=V at HV ⊢
  generalize errV E=U at *
  go_enter Tryz.func60,Tryz.ntmps60
  go_wp2_with fail
  refine cC.mono ?_
  rintro e w1 ⟨rfl,b2⟩
  go_wp2
  go_ret
  exact⟨by rw[←HV.out];rfl,b1.trans (b2.mono (by simp))⟩
def nodeB(ok ic nt ln nn iv vn:Bool)(cv:Int):Int:=if (!ok||(ic&&!nt))=true then 2 else if (ln||((!ic&&nn)||(!iv&&vn)))=true then 3 else if iv=true then cv else 0
def nodeE(x:Ex):Int:=nodeB (apL x.op.data.toList opsL).2 (x.op.toList == [99,111,108]) (nameT x.nm.data.toList) ((x.args.length:Int) != (apL x.op.data.toList opsL).1) (!(x.nm.toList == [])) (x.op.toList == [118,97,108]) (!((x.vt == 0)&&((x.vn == 0)&&(x.vs.toList == [])))) (ckV x.vt x.vn x.vs.data.toList)
theorem zmJ(t n t2 n2:Int)(s s2:ByteArray)(W:World):(Op.equalIn 10000 28 (.agg #[.int .i64 t,.int .i64 n,.string s]) (.agg #[.int .i64 t2,.int .i64 n2,.string s2])).run Tryz.prog W=.ok ((t == t2)&&((n == n2)&&(s.toList == s2.toList))) W:=by
 rw[show (10000:Nat)=9999+1 from rfl,run_equalIn_agg W 9999 28 _ _ (by kernel_rfl) (by kernel_rfl)]
 simp only[Program.fieldsOf,Tryz.underlying28]
 go_simp
 by_cases h1:t=t2<;>by_cases h2:n=n2<;>by_cases h3:s.toList=s2.toList<;>simp[h1,h2,h3]
theorem zpK(t n t2 n2:Int)(s s2:ByteArray)(W:World):Sem.run Tryz.prog (binOp .neq 28 (.agg #[.int .i64 t,.int .i64 n,.string s]) (.agg #[.int .i64 t2,.int .i64 n2,.string s2])) W=.ok (.bool !((t == t2)&&((n == n2)&&(s.toList == s2.toList)))) W:=by
 rw[run_neq_struct,zmJ];rfl
theorem ExIn.whole{w:World}{lo:Nat→Prop}{v:Value}{x:Ex}(h:ExIn w lo v x):∃p c,v=.agg #[.string x.op,.string x.nm,.int .i64 x.vt,.int .i64 x.vn,.string x.vs,.slice p x.args.length c,.int .i64 x.pos]∧x.args.length≤maxLen∧x.op.size≤maxLen∧x.nm.size≤maxLen∧x.vs.size≤maxLen:=by
 cases x with
 | node op nm vt vn vs pos l =>
  rw[ExIn] at h
  obtain⟨p,c,e,h1,h2,h3,h4,_⟩:=h
  exact⟨p,c,e,h1.1,h2,h3,h4⟩
set_option maxRecDepth 20000 in
theorem zfd(x:Ex)(lo:Nat→Prop)(v:Value)(w:World)(henv:TEnv w)(hx:ExIn w lo v x) :
  Calls Tryz.prog 31 #[v] w fun e w'=>e=.returned (errV (nodeE x))∧Below w.heap.size w w':=by
 obtain⟨p,c,rfl,hm,hso,hsn,hss⟩:=hx.whole
 unfold maxLen at hm
 have b1:Below w.heap.size w (w.alloc (.cells #[.string x.op,.string x.nm,.int .i64 x.vt,.int .i64 x.vn,.string x.vs,.slice p x.args.length c,.int .i64 x.pos] 31)):=(Below.refl _ w).alloc (Nat.le_refl _) _
 obtain⟨n,ok,hap⟩:∃n ok,apL x.op.data.toList opsL=(n,ok):=⟨_,_,rfl⟩
 have cA:=zeX x.op (w.alloc (.cells #[.string x.op,.string x.nm,.int .i64 x.vt,.int .i64 x.vn,.string x.vs,.slice p x.args.length c,.int .i64 x.pos] 31)) (henv.on b1) n ok hap
 have cN:=fun W (hb:Below w.heap.size w W)=>zbz x.nm W (henv.on hb) hsn
 have cV:=fun W=>zge x.vt x.vn x.vs W hss
 obtain⟨K,hK⟩:∃K,errV (nodeE x)=K:=⟨_,rfl⟩
 have HK:Hid (errV (nodeE x)=K):=hK
 rw[hK]
 rw[nodeE,hap] at HK
 simp only at HK
 have hvn:=zpK x.vt x.vn 0 0 x.vs ⟨#[]⟩
 rw[show (⟨#[]⟩:ByteArray).toList=[] by rw[Lib.toList_data]] at hvn
 clear hK hap henv hx
 generalize x.op=OP at *
 generalize x.nm=NM at *
 generalize x.vs=VS at *
 generalize x.vt=VT at *
 generalize x.vn=VN at *
 generalize x.pos=PS at *
 generalize x.args.length=M at *
 generalize nameT NM.data.toList=NT at cN HK
 generalize hic:(OP.toList == [99,111,108])=IC at HK
 generalize hiv:(OP.toList == [118,97,108])=IV at HK
 generalize hln:((M:Int) != n)=LN at HK
 generalize hnn:(NM.toList == [])=NN at HK
 generalize hvv:((VT == 0)&&((VN == 0)&&(VS.toList == [])))=VV at HK hvn
 generalize ckV VT VN VS.data.toList=CV at cV HK
 clear hvv
 have key:∀(k:Int),nodeB ok IC NT LN (!NN) IV (!VV) CV=k→Hid (errV k=K):=fun k h=>by show _=_;rw[←h];exact HK.out
 clear HK
 cases ok
 ·have HV:=key 2 rfl
  go_enter Tryz.func31,Tryz.ntmps31
  go_wp2_with fail
  refine cA.mono ?_
  rintro e w1 ⟨rfl,b2⟩
  go_wp2
  go_ret
  exact⟨by rw[←HV.out];rfl,b1.trans (b2.mono (by simp))⟩
 ·cases IC
  ·cases LN
   ·cases NN
    ·have HV:=key 3 rfl
     go_enter Tryz.func31,Tryz.ntmps31
     go_wp2_with fail
     refine cA.mono ?_
     rintro e w1 ⟨rfl,b2⟩
     have hz1:w.heap.size<w1.heap.size:=by have:=b2.size;simp at this;omega
     have gB:∀i,w1.cell? ⟨w.heap.size,i,none⟩=(#[.string OP,.string NM,.int .i64 VT,.int .i64 VN,.string VS,.slice p M c,.int .i64 PS]:Array Value)[i]?:=fun i=>by rw[b2.cell (p:=⟨w.heap.size,i,none⟩) (by simp),World.cell?_alloc_at _ _ _ _ rfl]
     have g0:w1.cell? ⟨w.heap.size,0,none⟩=some (.string OP):=gB 0
     have g1:w1.cell? ⟨w.heap.size,1,none⟩=some (.string NM):=gB 1
     have g2:w1.cell? ⟨w.heap.size,2,none⟩=some (.int .i64 VT):=gB 2
     have g3:w1.cell? ⟨w.heap.size,3,none⟩=some (.int .i64 VN):=gB 3
     have g4:w1.cell? ⟨w.heap.size,4,none⟩=some (.string VS):=gB 4
     have g5:w1.cell? ⟨w.heap.size,5,none⟩=some (.slice p M c):=gB 5
     have b3:Below w.heap.size w w1:=b1.trans (b2.mono (by simp))
     clear gB
     go_wp2
     go_ret
     exact⟨by rw[←HV.out];rfl,b3⟩
    ·cases IV
     ·cases VV
      ·have HV:=key 3 rfl
       go_enter Tryz.func31,Tryz.ntmps31
       go_wp2_with fail
       refine cA.mono ?_
       rintro e w1 ⟨rfl,b2⟩
       have hz1:w.heap.size<w1.heap.size:=by have:=b2.size;simp at this;omega
       have gB:∀i,w1.cell? ⟨w.heap.size,i,none⟩=(#[.string OP,.string NM,.int .i64 VT,.int .i64 VN,.string VS,.slice p M c,.int .i64 PS]:Array Value)[i]?:=fun i=>by rw[b2.cell (p:=⟨w.heap.size,i,none⟩) (by simp),World.cell?_alloc_at _ _ _ _ rfl]
       have g0:w1.cell? ⟨w.heap.size,0,none⟩=some (.string OP):=gB 0
       have g1:w1.cell? ⟨w.heap.size,1,none⟩=some (.string NM):=gB 1
       have g2:w1.cell? ⟨w.heap.size,2,none⟩=some (.int .i64 VT):=gB 2
       have g3:w1.cell? ⟨w.heap.size,3,none⟩=some (.int .i64 VN):=gB 3
       have g4:w1.cell? ⟨w.heap.size,4,none⟩=some (.string VS):=gB 4
       have g5:w1.cell? ⟨w.heap.size,5,none⟩=some (.slice p M c):=gB 5
       have b3:Below w.heap.size w w1:=b1.trans (b2.mono (by simp))
       clear gB
       go_wp2
       go_ret
       exact⟨by rw[←HV.out];rfl,b3⟩
      ·have HV:=key 0 rfl
       go_enter Tryz.func31,Tryz.ntmps31
       go_wp2_with fail
       refine cA.mono ?_
       rintro e w1 ⟨rfl,b2⟩
       have hz1:w.heap.size<w1.heap.size:=by have:=b2.size;simp at this;omega
       have gB:∀i,w1.cell? ⟨w.heap.size,i,none⟩=(#[.string OP,.string NM,.int .i64 VT,.int .i64 VN,.string VS,.slice p M c,.int .i64 PS]:Array Value)[i]?:=fun i=>by rw[b2.cell (p:=⟨w.heap.size,i,none⟩) (by simp),World.cell?_alloc_at _ _ _ _ rfl]
       have g0:w1.cell? ⟨w.heap.size,0,none⟩=some (.string OP):=gB 0
       have g1:w1.cell? ⟨w.heap.size,1,none⟩=some (.string NM):=gB 1
       have g2:w1.cell? ⟨w.heap.size,2,none⟩=some (.int .i64 VT):=gB 2
       have g3:w1.cell? ⟨w.heap.size,3,none⟩=some (.int .i64 VN):=gB 3
       have g4:w1.cell? ⟨w.heap.size,4,none⟩=some (.string VS):=gB 4
       have g5:w1.cell? ⟨w.heap.size,5,none⟩=some (.slice p M c):=gB 5
       have b3:Below w.heap.size w w1:=b1.trans (b2.mono (by simp))
       clear gB
       go_wp2
       go_ret
       exact⟨by rw[←HV.out];rfl,b3⟩
     ·have HV:=key CV rfl
      go_enter Tryz.func31,Tryz.ntmps31
      go_wp2_with fail
      refine cA.mono ?_
      rintro e w1 ⟨rfl,b2⟩
      have hz1:w.heap.size<w1.heap.size:=by have:=b2.size;simp at this;omega
      have gB:∀i,w1.cell? ⟨w.heap.size,i,none⟩=(#[.string OP,.string NM,.int .i64 VT,.int .i64 VN,.string VS,.slice p M c,.int .i64 PS]:Array Value)[i]?:=fun i=>by rw[b2.cell (p:=⟨w.heap.size,i,none⟩) (by simp),World.cell?_alloc_at _ _ _ _ rfl]
      have g0:w1.cell? ⟨w.heap.size,0,none⟩=some (.string OP):=gB 0
      have g1:w1.cell? ⟨w.heap.size,1,none⟩=some (.string NM):=gB 1
      have g2:w1.cell? ⟨w.heap.size,2,none⟩=some (.int .i64 VT):=gB 2
      have g3:w1.cell? ⟨w.heap.size,3,none⟩=some (.int .i64 VN):=gB 3
      have g4:w1.cell? ⟨w.heap.size,4,none⟩=some (.string VS):=gB 4
      have g5:w1.cell? ⟨w.heap.size,5,none⟩=some (.slice p M c):=gB 5
      have b3:Below w.heap.size w w1:=b1.trans (b2.mono (by simp))
      clear gB
      go_wp2_with fail
      refine (cV _).mono ?_
      rintro e w2 ⟨rfl,b4⟩
      go_wp2
      go_ret
      exact⟨by rw[←HV.out];rfl,b3.trans (b4.mono b3.size)⟩
   ·have HV:=key 3 rfl
    go_enter Tryz.func31,Tryz.ntmps31
    go_wp2_with fail
    refine cA.mono ?_
    rintro e w1 ⟨rfl,b2⟩
    have hz1:w.heap.size<w1.heap.size:=by have:=b2.size;simp at this;omega
    have gB:∀i,w1.cell? ⟨w.heap.size,i,none⟩=(#[.string OP,.string NM,.int .i64 VT,.int .i64 VN,.string VS,.slice p M c,.int .i64 PS]:Array Value)[i]?:=fun i=>by rw[b2.cell (p:=⟨w.heap.size,i,none⟩) (by simp),World.cell?_alloc_at _ _ _ _ rfl]
    have g0:w1.cell? ⟨w.heap.size,0,none⟩=some (.string OP):=gB 0
    have g1:w1.cell? ⟨w.heap.size,1,none⟩=some (.string NM):=gB 1
    have g2:w1.cell? ⟨w.heap.size,2,none⟩=some (.int .i64 VT):=gB 2
    have g3:w1.cell? ⟨w.heap.size,3,none⟩=some (.int .i64 VN):=gB 3
    have g4:w1.cell? ⟨w.heap.size,4,none⟩=some (.string VS):=gB 4
    have g5:w1.cell? ⟨w.heap.size,5,none⟩=some (.slice p M c):=gB 5
    have b3:Below w.heap.size w w1:=b1.trans (b2.mono (by simp))
    clear gB
    go_wp2
    go_ret
    exact⟨by rw[←HV.out];rfl,b3⟩
  ·cases NT
   ·have HV:=key 2 rfl
    go_enter Tryz.func31,Tryz.ntmps31
    go_wp2_with fail
    refine cA.mono ?_
    rintro e w1 ⟨rfl,b2⟩
    have hz1:w.heap.size<w1.heap.size:=by have:=b2.size;simp at this;omega
    have gB:∀i,w1.cell? ⟨w.heap.size,i,none⟩=(#[.string OP,.string NM,.int .i64 VT,.int .i64 VN,.string VS,.slice p M c,.int .i64 PS]:Array Value)[i]?:=fun i=>by rw[b2.cell (p:=⟨w.heap.size,i,none⟩) (by simp),World.cell?_alloc_at _ _ _ _ rfl]
    have g0:w1.cell? ⟨w.heap.size,0,none⟩=some (.string OP):=gB 0
    have g1:w1.cell? ⟨w.heap.size,1,none⟩=some (.string NM):=gB 1
    have g2:w1.cell? ⟨w.heap.size,2,none⟩=some (.int .i64 VT):=gB 2
    have g3:w1.cell? ⟨w.heap.size,3,none⟩=some (.int .i64 VN):=gB 3
    have g4:w1.cell? ⟨w.heap.size,4,none⟩=some (.string VS):=gB 4
    have g5:w1.cell? ⟨w.heap.size,5,none⟩=some (.slice p M c):=gB 5
    have b3:Below w.heap.size w w1:=b1.trans (b2.mono (by simp))
    clear gB
    go_wp2_with fail
    refine (cN _ b3).mono ?_
    rintro e w2 ⟨rfl,b4⟩
    have hz2:w.heap.size<w2.heap.size:=by have:=b4.size;omega
    have k0:w2.cell? ⟨w.heap.size,0,none⟩=some (.string OP):=by rw[b4.cell (p:=⟨w.heap.size,0,none⟩) hz1];exact g0
    have k1:w2.cell? ⟨w.heap.size,1,none⟩=some (.string NM):=by rw[b4.cell (p:=⟨w.heap.size,1,none⟩) hz1];exact g1
    have k2:w2.cell? ⟨w.heap.size,2,none⟩=some (.int .i64 VT):=by rw[b4.cell (p:=⟨w.heap.size,2,none⟩) hz1];exact g2
    have k3:w2.cell? ⟨w.heap.size,3,none⟩=some (.int .i64 VN):=by rw[b4.cell (p:=⟨w.heap.size,3,none⟩) hz1];exact g3
    have k4:w2.cell? ⟨w.heap.size,4,none⟩=some (.string VS):=by rw[b4.cell (p:=⟨w.heap.size,4,none⟩) hz1];exact g4
    have k5:w2.cell? ⟨w.heap.size,5,none⟩=some (.slice p M c):=by rw[b4.cell (p:=⟨w.heap.size,5,none⟩) hz1];exact g5
    have b5:Below w.heap.size w w2:=b3.trans (b4.mono b3.size)
    go_wp2
    go_ret
    exact⟨by rw[←HV.out];rfl,b5⟩
   ·cases LN
    ·cases IV
     ·cases VV
      ·have HV:=key 3 rfl
       go_enter Tryz.func31,Tryz.ntmps31
       go_wp2_with fail
       refine cA.mono ?_
       rintro e w1 ⟨rfl,b2⟩
       have hz1:w.heap.size<w1.heap.size:=by have:=b2.size;simp at this;omega
       have gB:∀i,w1.cell? ⟨w.heap.size,i,none⟩=(#[.string OP,.string NM,.int .i64 VT,.int .i64 VN,.string VS,.slice p M c,.int .i64 PS]:Array Value)[i]?:=fun i=>by rw[b2.cell (p:=⟨w.heap.size,i,none⟩) (by simp),World.cell?_alloc_at _ _ _ _ rfl]
       have g0:w1.cell? ⟨w.heap.size,0,none⟩=some (.string OP):=gB 0
       have g1:w1.cell? ⟨w.heap.size,1,none⟩=some (.string NM):=gB 1
       have g2:w1.cell? ⟨w.heap.size,2,none⟩=some (.int .i64 VT):=gB 2
       have g3:w1.cell? ⟨w.heap.size,3,none⟩=some (.int .i64 VN):=gB 3
       have g4:w1.cell? ⟨w.heap.size,4,none⟩=some (.string VS):=gB 4
       have g5:w1.cell? ⟨w.heap.size,5,none⟩=some (.slice p M c):=gB 5
       have b3:Below w.heap.size w w1:=b1.trans (b2.mono (by simp))
       clear gB
       go_wp2_with fail
       refine (cN _ b3).mono ?_
       rintro e w2 ⟨rfl,b4⟩
       have hz2:w.heap.size<w2.heap.size:=by have:=b4.size;omega
       have k0:w2.cell? ⟨w.heap.size,0,none⟩=some (.string OP):=by rw[b4.cell (p:=⟨w.heap.size,0,none⟩) hz1];exact g0
       have k1:w2.cell? ⟨w.heap.size,1,none⟩=some (.string NM):=by rw[b4.cell (p:=⟨w.heap.size,1,none⟩) hz1];exact g1
       have k2:w2.cell? ⟨w.heap.size,2,none⟩=some (.int .i64 VT):=by rw[b4.cell (p:=⟨w.heap.size,2,none⟩) hz1];exact g2
       have k3:w2.cell? ⟨w.heap.size,3,none⟩=some (.int .i64 VN):=by rw[b4.cell (p:=⟨w.heap.size,3,none⟩) hz1];exact g3
       have k4:w2.cell? ⟨w.heap.size,4,none⟩=some (.string VS):=by rw[b4.cell (p:=⟨w.heap.size,4,none⟩) hz1];exact g4
       have k5:w2.cell? ⟨w.heap.size,5,none⟩=some (.slice p M c):=by rw[b4.cell (p:=⟨w.heap.size,5,none⟩) hz1];exact g5
       have b5:Below w.heap.size w w2:=b3.trans (b4.mono b3.size)
       go_wp2
       go_ret
       exact⟨by rw[←HV.out];rfl,b5⟩
      ·have HV:=key 0 rfl
       go_enter Tryz.func31,Tryz.ntmps31
       go_wp2_with fail
       refine cA.mono ?_
       rintro e w1 ⟨rfl,b2⟩
       have hz1:w.heap.size<w1.heap.size:=by have:=b2.size;simp at this;omega
       have gB:∀i,w1.cell? ⟨w.heap.size,i,none⟩=(#[.string OP,.string NM,.int .i64 VT,.int .i64 VN,.string VS,.slice p M c,.int .i64 PS]:Array Value)[i]?:=fun i=>by rw[b2.cell (p:=⟨w.heap.size,i,none⟩) (by simp),World.cell?_alloc_at _ _ _ _ rfl]
       have g0:w1.cell? ⟨w.heap.size,0,none⟩=some (.string OP):=gB 0
       have g1:w1.cell? ⟨w.heap.size,1,none⟩=some (.string NM):=gB 1
       have g2:w1.cell? ⟨w.heap.size,2,none⟩=some (.int .i64 VT):=gB 2
       have g3:w1.cell? ⟨w.heap.size,3,none⟩=some (.int .i64 VN):=gB 3
       have g4:w1.cell? ⟨w.heap.size,4,none⟩=some (.string VS):=gB 4
       have g5:w1.cell? ⟨w.heap.size,5,none⟩=some (.slice p M c):=gB 5
       have b3:Below w.heap.size w w1:=b1.trans (b2.mono (by simp))
       clear gB
       go_wp2_with fail
       refine (cN _ b3).mono ?_
       rintro e w2 ⟨rfl,b4⟩
       have hz2:w.heap.size<w2.heap.size:=by have:=b4.size;omega
       have k0:w2.cell? ⟨w.heap.size,0,none⟩=some (.string OP):=by rw[b4.cell (p:=⟨w.heap.size,0,none⟩) hz1];exact g0
       have k1:w2.cell? ⟨w.heap.size,1,none⟩=some (.string NM):=by rw[b4.cell (p:=⟨w.heap.size,1,none⟩) hz1];exact g1
       have k2:w2.cell? ⟨w.heap.size,2,none⟩=some (.int .i64 VT):=by rw[b4.cell (p:=⟨w.heap.size,2,none⟩) hz1];exact g2
       have k3:w2.cell? ⟨w.heap.size,3,none⟩=some (.int .i64 VN):=by rw[b4.cell (p:=⟨w.heap.size,3,none⟩) hz1];exact g3
       have k4:w2.cell? ⟨w.heap.size,4,none⟩=some (.string VS):=by rw[b4.cell (p:=⟨w.heap.size,4,none⟩) hz1];exact g4
       have k5:w2.cell? ⟨w.heap.size,5,none⟩=some (.slice p M c):=by rw[b4.cell (p:=⟨w.heap.size,5,none⟩) hz1];exact g5
       have b5:Below w.heap.size w w2:=b3.trans (b4.mono b3.size)
       go_wp2
       go_ret
       exact⟨by rw[←HV.out];rfl,b5⟩
     ·have HV:=key CV rfl
      go_enter Tryz.func31,Tryz.ntmps31
      go_wp2_with fail
      refine cA.mono ?_
      rintro e w1 ⟨rfl,b2⟩
      have hz1:w.heap.size<w1.heap.size:=by have:=b2.size;simp at this;omega
      have gB:∀i,w1.cell? ⟨w.heap.size,i,none⟩=(#[.string OP,.string NM,.int .i64 VT,.int .i64 VN,.string VS,.slice p M c,.int .i64 PS]:Array Value)[i]?:=fun i=>by rw[b2.cell (p:=⟨w.heap.size,i,none⟩) (by simp),World.cell?_alloc_at _ _ _ _ rfl]
      have g0:w1.cell? ⟨w.heap.size,0,none⟩=some (.string OP):=gB 0
      have g1:w1.cell? ⟨w.heap.size,1,none⟩=some (.string NM):=gB 1
      have g2:w1.cell? ⟨w.heap.size,2,none⟩=some (.int .i64 VT):=gB 2
      have g3:w1.cell? ⟨w.heap.size,3,none⟩=some (.int .i64 VN):=gB 3
      have g4:w1.cell? ⟨w.heap.size,4,none⟩=some (.string VS):=gB 4
      have g5:w1.cell? ⟨w.heap.size,5,none⟩=some (.slice p M c):=gB 5
      have b3:Below w.heap.size w w1:=b1.trans (b2.mono (by simp))
      clear gB
      go_wp2_with fail
      refine (cN _ b3).mono ?_
      rintro e w2 ⟨rfl,b4⟩
      have hz2:w.heap.size<w2.heap.size:=by have:=b4.size;omega
      have k0:w2.cell? ⟨w.heap.size,0,none⟩=some (.string OP):=by rw[b4.cell (p:=⟨w.heap.size,0,none⟩) hz1];exact g0
      have k1:w2.cell? ⟨w.heap.size,1,none⟩=some (.string NM):=by rw[b4.cell (p:=⟨w.heap.size,1,none⟩) hz1];exact g1
      have k2:w2.cell? ⟨w.heap.size,2,none⟩=some (.int .i64 VT):=by rw[b4.cell (p:=⟨w.heap.size,2,none⟩) hz1];exact g2
      have k3:w2.cell? ⟨w.heap.size,3,none⟩=some (.int .i64 VN):=by rw[b4.cell (p:=⟨w.heap.size,3,none⟩) hz1];exact g3
      have k4:w2.cell? ⟨w.heap.size,4,none⟩=some (.string VS):=by rw[b4.cell (p:=⟨w.heap.size,4,none⟩) hz1];exact g4
      have k5:w2.cell? ⟨w.heap.size,5,none⟩=some (.slice p M c):=by rw[b4.cell (p:=⟨w.heap.size,5,none⟩) hz1];exact g5
      have b5:Below w.heap.size w w2:=b3.trans (b4.mono b3.size)
      go_wp2_with fail
      refine (cV _).mono ?_
      rintro e w3 ⟨rfl,b6⟩
      go_wp2
      go_ret
      exact⟨by rw[←HV.out];rfl,b5.trans (b6.mono b5.size)⟩
    ·have HV:=key 3 rfl
     go_enter Tryz.func31,Tryz.ntmps31
     go_wp2_with fail
     refine cA.mono ?_
     rintro e w1 ⟨rfl,b2⟩
     have hz1:w.heap.size<w1.heap.size:=by have:=b2.size;simp at this;omega
     have gB:∀i,w1.cell? ⟨w.heap.size,i,none⟩=(#[.string OP,.string NM,.int .i64 VT,.int .i64 VN,.string VS,.slice p M c,.int .i64 PS]:Array Value)[i]?:=fun i=>by rw[b2.cell (p:=⟨w.heap.size,i,none⟩) (by simp),World.cell?_alloc_at _ _ _ _ rfl]
     have g0:w1.cell? ⟨w.heap.size,0,none⟩=some (.string OP):=gB 0
     have g1:w1.cell? ⟨w.heap.size,1,none⟩=some (.string NM):=gB 1
     have g2:w1.cell? ⟨w.heap.size,2,none⟩=some (.int .i64 VT):=gB 2
     have g3:w1.cell? ⟨w.heap.size,3,none⟩=some (.int .i64 VN):=gB 3
     have g4:w1.cell? ⟨w.heap.size,4,none⟩=some (.string VS):=gB 4
     have g5:w1.cell? ⟨w.heap.size,5,none⟩=some (.slice p M c):=gB 5
     have b3:Below w.heap.size w w1:=b1.trans (b2.mono (by simp))
     clear gB
     go_wp2_with fail
     refine (cN _ b3).mono ?_
     rintro e w2 ⟨rfl,b4⟩
     have hz2:w.heap.size<w2.heap.size:=by have:=b4.size;omega
     have k0:w2.cell? ⟨w.heap.size,0,none⟩=some (.string OP):=by rw[b4.cell (p:=⟨w.heap.size,0,none⟩) hz1];exact g0
     have k1:w2.cell? ⟨w.heap.size,1,none⟩=some (.string NM):=by rw[b4.cell (p:=⟨w.heap.size,1,none⟩) hz1];exact g1
     have k2:w2.cell? ⟨w.heap.size,2,none⟩=some (.int .i64 VT):=by rw[b4.cell (p:=⟨w.heap.size,2,none⟩) hz1];exact g2
     have k3:w2.cell? ⟨w.heap.size,3,none⟩=some (.int .i64 VN):=by rw[b4.cell (p:=⟨w.heap.size,3,none⟩) hz1];exact g3
     have k4:w2.cell? ⟨w.heap.size,4,none⟩=some (.string VS):=by rw[b4.cell (p:=⟨w.heap.size,4,none⟩) hz1];exact g4
     have k5:w2.cell? ⟨w.heap.size,5,none⟩=some (.slice p M c):=by rw[b4.cell (p:=⟨w.heap.size,5,none⟩) hz1];exact g5
     have b5:Below w.heap.size w w2:=b3.trans (b4.mono b3.size)
     go_wp2
     go_ret
     exact⟨by rw[←HV.out];rfl,b5⟩
def fck(s:Int)(x:Ex)(d:Nat):Int×Bool:=(nodeE x,nodeE x == 0)
def ckP(x:Ex):Int:=if tgB x=true then 4 else (foldP fck 0 (x.pre 1)).1
def ErrIn(p:Nat)(W:World)(s:Int)(m:Nat):Prop:=(W.cell? ⟨p,0,none⟩=some (errV s)∧W.frozen? ⟨p,0,none⟩=false∧p<W.heap.size)∧TEnv W∧12≤p
set_option maxRecDepth 20000 in
theorem zjh(p:Nat)(W:World)(v:Value)(lo:Nat→Prop)(x:Ex)(d:Nat)(s:Int)(m:Nat)(hx:ExIn W lo v x)(hs:ErrIn p W s (m+1)) :
  Calls Tryz.prog 30 #[v,.int .i64 (d:Int),.pointer (some ⟨p,0,none⟩)] W fun e w'=>e=.returned (.bool (fck s x d).2)∧((fck s x d).2=true→ErrIn p w' (fck s x d).1 m)∧((fck s x d).2=false→ErrIn p w' (fck s x d).1 0)∧But p W w':=by
 obtain⟨⟨h1,h2,h3⟩,henv,hG⟩:=hs
 obtain⟨o1,n1,t1,k1,s1,p1,m1,c1,a1,rfl⟩:=hx.agg
 have b1:Below W.heap.size W (W.alloc (.cells #[.string o1,.string n1,.int .i64 t1,.int .i64 k1,.string s1,.slice p1 m1 c1,.int .i64 a1] 31)):=al W _
 have cN:=zfd x lo _ _ (henv.on b1) (hx.on b1)
 have q1:=zoq (nodeE x)
 have q2:=zlL (nodeE x)
 have key:Hid (∀w',But p W w'→w'.cell? ⟨p,0,none⟩=some (errV (nodeE x))→w'.frozen? ⟨p,0,none⟩=false→∀j,ErrIn p w' (nodeE x) j):=fun w' hb hc hf j=>⟨⟨hc,hf,by have:=hb.size;omega⟩,henv.but hb hG,hG⟩
 rw[fck]
 show Calls Tryz.prog 30 _ W fun e w'=>e=.returned (.bool (nodeE x == 0))∧((nodeE x == 0)=true→ErrIn p w' (nodeE x) m)∧((nodeE x == 0)=false→ErrIn p w' (nodeE x) 0)∧But p W w'
 have fin:Hid (∀w1,Below (W.alloc (.cells #[.string o1,.string n1,.int .i64 t1,.int .i64 k1,.string s1,.slice p1 m1 c1,.int .i64 a1] 31)).heap.size (W.alloc (.cells #[.string o1,.string n1,.int .i64 t1,.int .i64 k1,.string s1,.slice p1 m1 c1,.int .i64 a1] 31)) w1→(∀j,ErrIn p (w1.setCell ⟨p,0,none⟩ (errV (nodeE x))) (nodeE x) j)∧But p W (w1.setCell ⟨p,0,none⟩ (errV (nodeE x)))):=fun w1 b2=>by
  have b3:Below W.heap.size W w1:=b1.trans (b2.mono (by simp))
  have bb:But p W (w1.setCell ⟨p,0,none⟩ (errV (nodeE x))):=(But.of_below' b3 (Nat.le_of_lt h3)).set 0 _
  have e1:w1.cell? ⟨p,0,none⟩=some (errV s):=by rw[b3.cell (p:=⟨p,0,none⟩) h3];exact h1
  have e2:w1.frozen? ⟨p,0,none⟩=false:=by rw[b3.frozen (p:=⟨p,0,none⟩) h3];exact h2
  exact⟨key.out _ bb (World.cell?_setCell_same w1 ⟨p,0,none⟩ _ e1) (by simpa using e2),bb⟩
 clear key
 generalize nodeE x=K at *
 by_cases hK:K=0
 ·have hU:errV K=.nilIface:=if_pos hK
  have hQ:(K == 0)=true:=by simpa using hK
  rw[hU] at cN q1 q2 fin
  rw[hQ] at q1
  rw[hQ]
  clear hU hQ hK
  clear henv hx
  go_enter Tryz.func30,Tryz.ntmps30
  go_wp2_with fail
  refine cN.mono ?_
  rintro e w1 ⟨rfl,b2⟩
  have b3:Below W.heap.size W w1:=b1.trans (b2.mono (by simp))
  have e1:w1.cell? ⟨p,0,none⟩=some (errV s):=by rw[b3.cell (p:=⟨p,0,none⟩) h3];exact h1
  have e2:w1.frozen? ⟨p,0,none⟩=false:=by rw[b3.frozen (p:=⟨p,0,none⟩) h3];exact h2
  have FN:Hid ((∀j,ErrIn p (w1.setCell ⟨p,0,none⟩ .nilIface) K j)∧But p W (w1.setCell ⟨p,0,none⟩ .nilIface)):=fin.out w1 b2
  have hl:p<w1.heap.size:=by have:=b3.size;omega
  clear fin cN b1 b2 b3 h1 h2
  go_wp2
  go_ret
  exact⟨rfl,fun _=>FN.out.1 _,fun _=>FN.out.1 _,FN.out.2⟩
 ·have hU:errV K=.iface 35 (.int .i64 K):=if_neg hK
  have hQ:(K == 0)=false:=by simpa using hK
  rw[hU] at cN q1 q2 fin
  rw[hQ] at q1
  rw[hQ]
  clear hU hQ hK
  clear henv hx
  go_enter Tryz.func30,Tryz.ntmps30
  go_wp2_with fail
  refine cN.mono ?_
  rintro e w1 ⟨rfl,b2⟩
  have b3:Below W.heap.size W w1:=b1.trans (b2.mono (by simp))
  have e1:w1.cell? ⟨p,0,none⟩=some (errV s):=by rw[b3.cell (p:=⟨p,0,none⟩) h3];exact h1
  have e2:w1.frozen? ⟨p,0,none⟩=false:=by rw[b3.frozen (p:=⟨p,0,none⟩) h3];exact h2
  have FN:Hid ((∀j,ErrIn p (w1.setCell ⟨p,0,none⟩ (.iface 35 (.int .i64 K))) K j)∧But p W (w1.setCell ⟨p,0,none⟩ (.iface 35 (.int .i64 K)))):=fin.out w1 b2
  have hl:p<w1.heap.size:=by have:=b3.size;omega
  clear fin cN b1 b2 b3 h1 h2
  go_wp2
  go_ret
  exact⟨rfl,fun _=>FN.out.1 _,fun _=>FN.out.1 _,FN.out.2⟩
set_option maxRecDepth 20000 in
theorem zji(x:Ex)(lo:Nat→Prop)(v:Value)(w:World)(henv:TEnv w)(hx:ExIn w lo v x)(hsz:(x.pre 1).length≤1048576) :
  Calls Tryz.prog 13 #[v] w fun e w'=>e=.returned (errV (ckP x))∧Below w.heap.size w w':=by
 obtain⟨o1,n1,t1,k1,s1,p1,m1,c1,a1,rfl⟩:=hx.agg
 have b1:Below w.heap.size w (w.alloc (.cells #[.string o1,.string n1,.int .i64 t1,.int .i64 k1,.string s1,.slice p1 m1 c1,.int .i64 a1] 31)):=al w _
 have cT:=zha x (fun b=>lo b∧b<w.heap.size) _ _ ((ExIn.low (fun b h1 h2=>⟨h2,h1⟩) _ _ hx).on b1) hsz
 have hG:=henv.big
 have cW:∀w1:World,Below (w.alloc (.cells #[.string o1,.string n1,.int .i64 t1,.int .i64 k1,.string s1,.slice p1 m1 c1,.int .i64 a1] 31)).heap.size (w.alloc (.cells #[.string o1,.string n1,.int .i64 t1,.int .i64 k1,.string s1,.slice p1 m1 c1,.int .i64 a1] 31)) w1→Calls Tryz.prog 29 #[.agg #[.string o1,.string n1,.int .i64 t1,.int .i64 k1,.string s1,.slice p1 m1 c1,.int .i64 a1],.func (.func 30) #[] #[.pointer (some ⟨w1.heap.size,0,none⟩)]] (w1.alloc (.cells #[.nilIface] 45)) fun e w'=>e=.returned (.bool (foldP fck 0 (x.pre 1)).2)∧w'.cell? ⟨w1.heap.size,0,none⟩=some (errV (foldP fck 0 (x.pre 1)).1)∧w1.heap.size<w'.heap.size∧Below w.heap.size w w':=by
  intro w1 b2
  have b3:Below w.heap.size w w1:=b1.trans (b2.mono (by simp))
  have hz1:w.heap.size+1≤w1.heap.size:=by have:=b2.size;simpa using this
  have b4:Below w.heap.size w (w1.alloc (.cells #[.nilIface] 45)):=b3.trans ((al _ _).mono b3.size)
  have cc:=zlq fck 30 (fun args W=>by kernel_rfl) w1.heap.size (ErrIn w1.heap.size) (fun W s=>ErrIn w1.heap.size W s 0) (fun b=>lo b∧b<w.heap.size) (w1.alloc (.cells #[.nilIface] 45)) _ x 0 (by simp) ((ExIn.low (fun b h1 h2=>⟨h2,h1⟩) _ _ hx).on b4) (fun b h1 _=>by have:=h1.2;omega) hsz
   (fun W v y d s m _ hy _ hs=>zjh _ W v _ y d s m hy hs)
   (fun W W' s m hb hz hs=>by
    obtain⟨⟨h1,h2,h3⟩,h4,h5⟩:=hs
    exact⟨⟨by rw[hb.cell (p:=⟨w1.heap.size,0,none⟩) (by simp)];exact h1,by rw[hb.frozen (p:=⟨w1.heap.size,0,none⟩) (by simp)];exact h2,by omega⟩,h4.onB hb (by simp;omega) hz,h5⟩)
   ⟨⟨by rw[World.cell?_alloc_at _ _ _ _ rfl];rfl,World.frozen?_alloc_at _ _ _ _ rfl,by simp⟩,henv.on b4,by omega⟩
  refine cc.mono ?_
  rintro e w' ⟨he,g1,g2,g3⟩
  have gz:=g3.size
  simp at gz
  refine⟨he,?_,by omega,b4.trans (g3.below.mono (by omega))⟩
  cases hq:(foldP fck 0 (x.pre 1)).2
  ·exact (g2 hq).1.1
  ·exact (g1 hq).1.1
 obtain⟨K,hK⟩:∃K,errV (ckP x)=K:=⟨_,rfl⟩
 have HK:Hid (errV (ckP x)=K):=hK
 rw[hK]
 rw[ckP] at HK
 generalize foldP fck 0 (x.pre 1)=T at cW HK
 obtain⟨T1,T2⟩:=T
 simp only at cW HK
 generalize tgB x=G at cT HK
 cases G
 ·have HV:Hid (errV T1=K):=by show _=_;rw[←HK.out];rfl
  clear HK
  generalize errV T1=U at *
  go_enter Tryz.func13,Tryz.ntmps13
  go_wp2_with fail
  refine cT.mono ?_
  rintro e w1 ⟨rfl,b2⟩
  have cc:=cW w1 b2
  have hz1:w.heap.size<w1.heap.size:=by have:=b2.size;simp at this;omega
  have gB:∀i,w1.cell? ⟨w.heap.size,i,none⟩=(#[.string o1,.string n1,.int .i64 t1,.int .i64 k1,.string s1,.slice p1 m1 c1,.int .i64 a1]:Array Value)[i]?:=fun i=>by rw[b2.cell (p:=⟨w.heap.size,i,none⟩) (by simp),World.cell?_alloc_at _ _ _ _ rfl]
  have g0:w1.cell? ⟨w.heap.size,0,none⟩=some (.string o1):=gB 0
  have g1:w1.cell? ⟨w.heap.size,1,none⟩=some (.string n1):=gB 1
  have g2:w1.cell? ⟨w.heap.size,2,none⟩=some (.int .i64 t1):=gB 2
  have g3:w1.cell? ⟨w.heap.size,3,none⟩=some (.int .i64 k1):=gB 3
  have g4:w1.cell? ⟨w.heap.size,4,none⟩=some (.string s1):=gB 4
  have g5:w1.cell? ⟨w.heap.size,5,none⟩=some (.slice p1 m1 c1):=gB 5
  have g6:w1.cell? ⟨w.heap.size,6,none⟩=some (.int .i64 a1):=gB 6
  clear gB cW
  go_wp2_with fail
  refine cc.mono ?_
  rintro e w2 ⟨rfl,hc2,hl2,b5⟩
  go_wp2
  go_ret
  exact⟨by rw[←HV.out];rfl,b5⟩
 ·have HV:Hid ((.iface 35 (.int .i64 4):Value)=K):=by show _=_;rw[←HK.out];rfl
  clear HK cW
  go_enter Tryz.func13,Tryz.ntmps13
  go_wp2_with fail
  refine cT.mono ?_
  rintro e w1 ⟨rfl,b2⟩
  go_wp2
  go_ret
  exact⟨by rw[←HV.out];rfl,b1.trans (b2.mono (by simp))⟩
theorem znd:∀(l:List (Ex×Nat)) (s:Nat),(foldP ftg s l).2=true↔(l=[]∨s+l.length≤200)∧∀q∈l,q.2≤30
 | [],s=>by simp[foldP]
 | p::r,s=>by
  rw[foldP]
  by_cases h:(ftg s p.1 p.2).2=true
  ·rw[if_pos h,znd r]
   rw[ftg] at h ⊢
   simp at h ⊢
   constructor
   ·rintro ⟨h1,h2⟩
    refine⟨?_,h.2,h2⟩
    rcases h1 with rfl|h1
    ·simp;omega
    ·omega
   ·rintro ⟨h1,h2,h3⟩
    exact⟨.inr (by omega),h3⟩
  ·rw[if_neg h]
   rw[ftg] at h
   simp at h ⊢
   intro h1 h2
   have:=h (by omega)
   omega
def ofP(zs:List (ByteArray×Int))(x:Ex):Int×Int×Int:=if ckP x≠0 then (0,ckP x,0) else if schE zs≠0 then (0,schE zs,0) else tyP zs x
end
structure Ag where
 what:ByteArray
 arg:Ex
 name:ByteArray
structure Qy where
 frm:ByteArray
 whr:Ex
 cols:List Ex
 names:List ByteArray
 group:List ByteArray
 size:Int
 slide:Int
 aggs:List Ag
abbrev Cl:=ByteArray×Int
def nuI(l:List UInt8):Int:=(val10 l:Nat)
abbrev zdV:List UInt8:=[115,101,108,101,99,116]
abbrev wAs:List UInt8:=[97,115]
abbrev wFrom:List UInt8:=[102,114,111,109]
abbrev zfV:List UInt8:=[119,104,101,114,101]
abbrev ziI:List UInt8:=[103,114,111,117,112]
abbrev wBy:List UInt8:=[98,121]
abbrev zfW:List UInt8:=[119,105,110,100,111,119]
abbrev zhe:List UInt8:=[115,108,105,100,101]
abbrev zcb:List UInt8:=[99,111,117,110,116]
def thU{α β:Type}(a:Option α×List Tok)(f:α→List Tok→Option β×List Tok):Option β×List Tok:=match a with
 | (some x,rs)=>f x rs
 | (none,rs)=>(none,rs)
def jU(g:List UInt8)(ts:List Tok):Option Unit×List Tok:=match nxT (sgT [g]) ts with
 | some (_,rs)=>(some (),rs)
 | none=>(none,ts)
def nU(ts:List Tok):Option ByteArray×List Tok:=match nxT nmT ts with
 | some (t,rs)=>(some t.2.1,rs)
 | none=>(none,ts)
def isNum(t:Tok):Bool:=decide (t.1=2)
def iU(ts:List Tok):Option Int×List Tok:=match nxT isNum ts with
 | some (t,rs)=>(some (nuI t.2.1.data.toList),rs)
 | none=>(none,ts)
def asU(ts:List Tok):Option ByteArray×List Tok:=thU (jU wAs ts) fun _ rs=>nU rs
def agB(t:Tok):Bool:=isAg t.2.1.data.toList
def brU(ts:List Tok):Option Ex×List Tok:=thU (jU [40] ts) fun _ rs=>thU (readE rs) fun x rs=>thU (jU [41] rs) fun _ rs=>(some x,rs)
def argU(what:List UInt8)(ts:List Tok):Option Ex×List Tok:=if what=zcb then (some ex0,ts) else brU ts
def aggU(ts:List Tok):Option Ag×List Tok:=match nxT agB ts with
 | some (t,rs)=>thU (argU t.2.1.data.toList rs) fun x rs=>thU (asU rs) fun n rs=>(some ⟨t.2.1,x,n⟩,rs)
 | none=>(none,ts)
def sevU{α:Type}(part:List Tok→Option α×List Tok):Nat→List α→List Tok→Option (List α)×List Tok
 | 0,_,ts=>(none,ts)
 | k+1,acc,ts=>match part ts with
  | (none,rs)=>(none,rs)
  | (some x,rs)=>match nxT (sgT [[44]]) rs with
   | some (_,rs')=>sevU part k (acc++[x]) rs'
   | none=>(some (acc++[x]),rs)
def nextB(P:Tok→Bool)(ts:List Tok):Bool:=match ts with
 | []=>false
 | t::_=>P t
def whU(ts:List Tok):Option Ex×List Tok:=match nxT (sgT [zfV]) ts with
 | some (_,rs)=>readE rs
 | none=>(some ex0,ts)
def slU(sz:Int)(ts:List Tok):Option Int×List Tok:=match nxT (sgT [zhe]) ts with
 | some (_,rs)=>iU rs
 | none=>(some sz,ts)
def frU(ts:List Tok):Option (ByteArray×Ex)×List Tok:=thU (jU wFrom ts) fun _ rs=>thU (nU rs) fun f rs=>thU (whU rs) fun x rs=>(some (f,x),rs)
def grU(ts:List Tok):Option (List ByteArray×Int×Int)×List Tok :=
 thU (jU ziI ts) fun _ rs=>thU (jU wBy rs) fun _ rs=>thU (sevU nU (rs.length+1) [] rs) fun g rs=>thU (jU zfW rs) fun _ rs=>thU (iU rs) fun z rs=>thU (slU z rs) fun s rs=>(some (g,z,s),rs)
def qTwoU(ts:List Tok):Option Qy×List Tok:=thU (sevU aggU (ts.length+1) [] ts) fun a rs=>thU (frU rs) fun f rs=>thU (grU rs) fun g rs=>(some ⟨f.1,f.2,[],[],g.1,g.2.1,g.2.2,a⟩,rs)
def exsQ(q:Qy):List Ex:=q.whr::(q.cols++q.aggs.map (·.arg))
def noOp(x:Ex):Bool:=decide (x.op.data.toList=[])
def ofT(zs:List Cl)(x:Ex):Int×Int:=if (ofP zs x).2.1≠0 then (0,(ofP zs x).2.1) else ((ofP zs x).1,0)
def grT(zs:List Cl)(ahead:List ByteArray)(g:ByteArray):Int×Int :=
 if findN g.data.toList zs<0 then (0,5) else if (ahead.any fun a=>a.data.toList == g.data.toList)=true then (0,7) else ((zs[(findN g.data.toList zs).toNat]?.getD (⟨#[]⟩,0)).2,0)
def agQ(zs:List Cl)(a:Ag):Int×Int :=
 if isAg a.what.data.toList=false then (0,2)
 else if a.what.data.toList=zcb then (if noOp a.arg=true then (1,0) else (0,3))
 else if (ofP zs a.arg).2.1≠0 then (0,(ofP zs a.arg).2.1)
 else if a.what.data.toList=[115,117,109]∧(ofP zs a.arg).1≠1 then (0,8)
 else ((ofP zs a.arg).1,0)
def zaT(q:Qy):List ByteArray:=q.names++(q.group++q.aggs.map (·.name))
def tyAt(zs:List Cl)(q:Qy)(i:Nat):Int×Int :=
 if i<q.cols.length then ofT zs (q.cols[i]?.getD ex0)
 else if i<q.group.length then grT zs (q.group.take i) (q.group[i]?.getD ⟨#[]⟩)
 else agQ zs (q.aggs[i-q.group.length]?.getD ⟨⟨#[]⟩,ex0,⟨#[]⟩⟩)
def clQ(zs:List Cl)(q:Qy):Nat→List Cl→List ByteArray→List Cl×Int
 | _,out,[]=>(out,0)
 | i,out,n::ns=>if (tyAt zs q i).2≠0 then ([],(tyAt zs q i).2) else clQ zs q (i+1) (out++[(n,(tyAt zs q i).1)]) ns
def togQ(q:Qy):Bool :=
 if q.size≠0 then decide (q.cols.length=0)&&decide (q.names.length=0)
 else decide (q.slide=0)&&(decide (q.aggs.length=0)&&(decide (q.group.length=0)&&decide (q.names.length=q.cols.length)))
def formQ(q:Qy):Int :=
 if togQ q=false then 3
 else if q.size≠0∧¬wdB q.size q.slide then 1
 else if q.cols.length+q.group.length+q.aggs.length=0 then 5
 else if 6<q.cols.length+q.group.length+q.aggs.length then 4
 else 0
def whQ(zs:List Cl)(x:Ex):Int:=if noOp x=true then 0 else if (ofP zs x).2.1≠0 then (ofP zs x).2.1 else if (ofP zs x).1≠2 then 8 else 0
def chQ(zs:List Cl)(q:Qy):List Cl×Int :=
 if schE zs≠0 then ([],schE zs)
 else if formQ q≠0 then ([],formQ q)
 else if whQ zs q.whr≠0 then ([],whQ zs q.whr)
 else if (clQ zs q 0 [] (zaT q)).2≠0 then ([],(clQ zs q 0 [] (zaT q)).2)
 else if schE (clQ zs q 0 [] (zaT q)).1≠0 then ([],schE (clQ zs q 0 [] (zaT q)).1)
 else ((clQ zs q 0 [] (zaT q)).1,0)

abbrev exV(x:Ex)(p:Option Addr)(c:Nat):Value:=.agg #[.string x.op,.string x.nm,.int .i64 x.vt,.int .i64 x.vn,.string x.vs,.slice p x.args.length c,.int .i64 x.pos]
def AgsIn(w:World)(lo:Nat→Prop)(b off:Nat)(l:List Ag):Prop:=∀j (h:j<l.length),∃ap ac,w.cell? ⟨b,off+j*9,none⟩=some (.string l[j].what)∧w.cell? ⟨b,off+j*9+1,none⟩=some (.string l[j].arg.op)∧w.cell? ⟨b,off+j*9+2,none⟩=some (.string l[j].arg.nm)∧w.cell? ⟨b,off+j*9+3,none⟩=some (.int .i64 l[j].arg.vt)∧w.cell? ⟨b,off+j*9+4,none⟩=some (.int .i64 l[j].arg.vn)∧w.cell? ⟨b,off+j*9+5,none⟩=some (.string l[j].arg.vs)∧w.cell? ⟨b,off+j*9+6,none⟩=some (.slice ap l[j].arg.args.length ac)∧w.cell? ⟨b,off+j*9+7,none⟩=some (.int .i64 l[j].arg.pos)∧w.cell? ⟨b,off+j*9+8,none⟩=some (.string l[j].name)∧ExIn w lo (exV l[j].arg ap ac) l[j].arg
def AgsIs(w:World)(lo:Nat→Prop)(p:Option Addr)(l:List Ag):Prop:=l.length≤1048576∧(l.length=0∨∃b off,p=some ⟨b,off,none⟩∧b<w.heap.size∧lo b∧AgsIn w lo b off l)
abbrev qyC(q:Qy)(wp:Option Addr)(wc:Nat)(cp:Option Addr)(cc:Nat)(np:Option Addr)(nc:Nat)(gp:Option Addr)(gc:Nat)(ap:Option Addr)(ac:Nat):Array Value :=
 #[.string q.frm,.string q.whr.op,.string q.whr.nm,.int .i64 q.whr.vt,.int .i64 q.whr.vn,.string q.whr.vs,.slice wp q.whr.args.length wc,.int .i64 q.whr.pos,.slice cp q.cols.length cc,.slice np q.names.length nc,.slice gp q.group.length gc,.int .i64 q.size,.int .i64 q.slide,.slice ap q.aggs.length ac]
structure QyBe(w:World)(lo:Nat→Prop)(q:Qy)(wp:Option Addr)(wc:Nat)(cp:Option Addr)(cc:Nat)(np:Option Addr)(nc:Nat)(gp:Option Addr)(gc:Nat)(ap:Option Addr)(ac:Nat):Prop where
 whr:ExIn w lo (exV q.whr wp wc) q.whr
 cols:zaq w lo (.slice cp q.cols.length cc) q.cols
 clen:q.cols.length≤1048576
 names:StsA w (.slice np q.names.length nc) q.names
 group:StsA w (.slice gp q.group.length gc) q.group
 aggs:AgsIs w lo ap q.aggs
def QyIn(w:World)(lo:Nat→Prop)(v:Value)(q:Qy):Prop:=∃wp wc cp cc np nc gp gc ap ac,v=.agg (qyC q wp wc cp cc np nc gp gc ap ac)∧QyBe w lo q wp wc cp cc np nc gp gc ap ac
theorem AgsIn.on{w w':World}{lo:Nat→Prop}{b off:Nat}{l:List Ag}(h:AgsIn w lo b off l)(hlt:b<w.heap.size)(hb:Below w.heap.size w w'):AgsIn w' lo b off l:=fun j hj=>by
 obtain⟨ap,ac,c0,c1,c2,c3,c4,c5,c6,c7,c8,hx⟩:=h j hj
 have k:∀o,w'.cell? ⟨b,o,none⟩=w.cell? ⟨b,o,none⟩:=fun o=>hb.cell (p:=⟨b,o,none⟩) hlt
 exact⟨ap,ac,by rw[k];exact c0,by rw[k];exact c1,by rw[k];exact c2,by rw[k];exact c3,by rw[k];exact c4,by rw[k];exact c5,by rw[k];exact c6,by rw[k];exact c7,by rw[k];exact c8,hx.on hb⟩
theorem AgsIs.on{w w':World}{lo:Nat→Prop}{p:Option Addr}{l:List Ag}(h:AgsIs w lo p l)(hb:Below w.heap.size w w'):AgsIs w' lo p l:=by
 obtain⟨h1,h2⟩:=h
 refine⟨h1,?_⟩
 rcases h2 with h2|⟨b,off,e,hl,hlo,h3⟩
 ·exact .inl h2
 ·exact .inr ⟨b,off,e,by have:=hb.size;omega,hlo,h3.on hl hb⟩
theorem zaq.onB{w w':World}{lo:Nat→Prop}{v:Value}{l:List Ex}(h:zaq w lo v l)(hb:Below w.heap.size w w'):zaq w' lo v l:=h.keep hb.size (fun b o _ hl=>hb.cell (p:=⟨b,o,none⟩) hl)
theorem QyBe.on{w w':World}{lo:Nat→Prop}{q:Qy}{wp:Option Addr}{wc:Nat}{cp:Option Addr}{cc:Nat}{np:Option Addr}{nc:Nat}{gp:Option Addr}{gc:Nat}{ap:Option Addr}{ac:Nat}(h:QyBe w lo q wp wc cp cc np nc gp gc ap ac)(hb:Below w.heap.size w w'):QyBe w' lo q wp wc cp cc np nc gp gc ap ac :=
 ⟨h.whr.on hb,h.cols.onB hb,h.clen,h.names.on hb,h.group.on hb,h.aggs.on hb⟩
theorem QyIn.on{w w':World}{lo:Nat→Prop}{v:Value}{q:Qy}(h:QyIn w lo v q)(hb:Below w.heap.size w w'):QyIn w' lo v q:=by
 obtain⟨wp,wc,cp,cc,np,nc,gp,gc,ap,ac,e,h⟩:=h
 exact⟨wp,wc,cp,cc,np,nc,gp,gc,ap,ac,e,h.on hb⟩
theorem zrK{W:World}{b o:Nat}{v0 v1 v2 v3 v4 v5 v6:Value}(h0:W.cell? ⟨b,o,none⟩=some v0)(h1:W.cell? ⟨b,o+1,none⟩=some v1)(h2:W.cell? ⟨b,o+2,none⟩=some v2)(h3:W.cell? ⟨b,o+3,none⟩=some v3)(h4:W.cell? ⟨b,o+4,none⟩=some v4)(h5:W.cell? ⟨b,o+5,none⟩=some v5)(h6:W.cell? ⟨b,o+6,none⟩=some v6):W.rangeAt b o [v0,v1,v2,v3,v4,v5,v6]:=fun j v hv=>by
 have hj:j<7:=by have:=(List.getElem?_eq_some_iff.1 hv).1;simpa using this
 have:j=0∨j=1∨j=2∨j=3∨j=4∨j=5∨j=6:=by omega
 rcases this with rfl|rfl|rfl|rfl|rfl|rfl|rfl
 all_goals (simp at hv;subst hv;assumption)
theorem zez{w:World}{lo:Nat→Prop}{p:Option Addr}{n c:Nat}{l:List Ex}(h:zaq w lo (.slice p n c) l){j:Nat}(hj:j<l.length):∃ba oa yp yc,p=some ⟨ba,oa,none⟩∧ba<w.heap.size∧lo ba∧w.rangeAt ba (oa+j*7) [.string l[j].op,.string l[j].nm,.int .i64 l[j].vt,.int .i64 l[j].vn,.string l[j].vs,.slice yp l[j].args.length yc,.int .i64 l[j].pos]∧ExIn w lo (exV l[j] yp yc) l[j]:=by
 obtain⟨p',c',e,-,h⟩:=h
 injection e with e1 e2 e3
 subst e1
 rcases h with h0|⟨ba,oa,e,hbl,hlo,hE⟩
 ·exact absurd h0 (by omega)
 ·obtain⟨v0,v1,v2,v3,v4,v5,v6,e0,e1,e2,e3,e4,e5,e6,hy⟩:=zcj w lo ba l oa hE j hj
  obtain⟨yp,yc,hw,-⟩:=hy.whole
  injection hw with hw
  simp only[Array.mk.injEq,List.cons.injEq,and_true] at hw
  obtain⟨rfl,rfl,rfl,rfl,rfl,rfl,rfl⟩:=hw
  exact⟨ba,oa,yp,yc,e,hbl,hlo,zrK e0 e1 e2 e3 e4 e5 e6,hy⟩
section
open Go.BigFrame
theorem zaG(x:Ex)(lo:Nat→Prop)(v:Value)(w:World)(hx:ExIn w lo v x) :
  Calls Tryz.prog 96 #[v] w fun e w'=>e=.returned (.bool (noOp x))∧Below w.heap.size w w':=by
 obtain⟨xp,xc,rfl,-⟩:=hx.whole
 obtain⟨NO,hNO⟩:∃NO,noOp x=NO:=⟨_,rfl⟩
 have hd:decide (x.op.data.toList=[])=NO:=hNO
 rw[hNO]
 clear hNO hx
 obtain⟨op,nm,vt,vn,vs,pos,l⟩:=x
 simp only[Ex.op,Ex.nm,Ex.vt,Ex.vn,Ex.vs,Ex.args,Ex.pos] at hd ⊢
 cases NO
 ·have h:¬op.data.toList=[]:=by simpa using hd
  have hq:(op.toList == [])=false:=by rw[Lib.toList_data];simpa using h
  clear hd h
  go_enter Tryz.func96,Tryz.ntmps96
  go_wp2
  go_ret
  exact⟨rfl,(Below.refl _ _).alloc (Nat.le_refl _) _⟩
 ·have h:op.data.toList=[]:=by simpa using hd
  have hq:(op.toList == [])=true:=by rw[Lib.toList_data];simpa using h
  clear hd h
  go_enter Tryz.func96,Tryz.ntmps96
  go_wp2
  go_ret
  exact⟨rfl,(Below.refl _ _).alloc (Nat.le_refl _) _⟩
theorem zaO{w:World}{v:Value}{zs:List Cl}(h:ColsV w v zs):∃q c,v=.slice q zs.length c:=by
 obtain⟨q,c,e,-⟩:=h
 exact⟨q,c,e⟩
structure TyEnv(L:Ex→Prop)(w:World):Prop where
 tw:TW w
 law:∀x,L x→∀W,Below w.heap.size w W→∀(lo:Nat→Prop) (v vl:Value) (zs:List Cl),ExIn W lo v x→(x.pre 1).length≤1048576→ColsV W vl zs→∀T E:Int,ofT zs x=(T,E)→Calls Tryz.prog 97 #[v,vl] W fun e w'=>e=.returned (.tuple #[.int .i64 T,errV E])∧Below W.heap.size W w'
theorem TyEnv.on{L:Ex→Prop}{w w':World}(h:TyEnv L w)(hb:Below w.heap.size w w'):TyEnv L w':=⟨h.tw.on hb,fun x hx W hW=>h.law x hx W (hb.trans (hW.mono hb.size))⟩
theorem zhc{L:Ex→Prop}(x:Ex)(lo:Nat→Prop)(v vl:Value)(zs:List Cl)(w:World)(henv:TyEnv L w)(hL:L x)(hx:ExIn w lo v x)(hsz:(x.pre 1).length≤1048576)(hcv:ColsV w vl zs)(T E:Int)(hR:ofT zs x=(T,E)) :
  Calls Tryz.prog 97 #[v,vl] w fun e w'=>e=.returned (.tuple #[.int .i64 T,errV E])∧Below w.heap.size w w':=henv.law x hL w (Below.refl _ _) lo v vl zs hx hsz hcv T E hR
def TyL(L:Ex→Prop)(q:Qy):Prop:=(noOp q.whr=true∨L q.whr)∧(∀x∈q.cols,L x)∧∀a∈q.aggs,a.what.data.toList=zcb∨L a.arg
theorem zse{ts:List ByteArray}{x:ByteArray}{k:Nat}(h:k<ts.length)(e:ts[k].data.toList=x.data.toList):(ts.any fun a=>a.data.toList == x.data.toList)=true:=by
 rw[List.any_eq_true]
 exact⟨ts[k],List.getElem_mem h,by simpa using e⟩
theorem zpw{ts:List ByteArray}{x:ByteArray}(h:∀j (hj:j<ts.length),ts[j].data.toList≠x.data.toList):(ts.any fun a=>a.data.toList == x.data.toList)=false:=by
 rw[List.any_eq_false]
 intro g hg
 obtain⟨j,hj,rfl⟩:=List.getElem_of_mem hg
 simpa using h j hj
theorem zlX(x:ByteArray)(p:Option Addr)(n c:Nat)(ts:List ByteArray)(w:World)(hn:ts.length=n)(h:StsA w (.slice p n c) ts)(h100:n≤100) :
  Calls Tryz.prog 115 #[.slice p n c,.string x] w fun e w'=>∃n:Int,e=.returned (.int .i64 n)∧Hid (decide (0≤n)=ts.any fun a=>a.data.toList == x.data.toList)∧w'=w:=by
 have HS:Aside (StsA w (.slice p n c) ts):=h
 have HN:Hid (ts.length=n):=hn
 obtain⟨R,hR⟩:∃R,(ts.any fun a=>a.data.toList == x.data.toList)=R:=⟨_,rfl⟩
 have HR:Hid ((ts.any fun a=>a.data.toList == x.data.toList)=R):=hR
 rw[hR]
 clear h hn hR
 go_enter Tryz.func115,Tryz.ntmps115
 go_wp2
 go_loopg [5,8] n (fun gg _ s8 wr=>∃kk:Nat,kk≤n∧n-kk≤gg∧s8=.int .i64 kk∧wr=w∧Aside (∀j (hj:j<ts.length),j<kk→ts[j].data.toList≠x.data.toList))
 case atStart=>exact⟨0,Nat.zero_le _,by omega,rfl,rfl,(show Aside _ from fun j _ hj=>absurd hj (Nat.not_lt_zero _))⟩
 case round =>
  obtain⟨kk,hkk,hg,rfl,rfl,A⟩:=hrel
  by_cases hlt:kk<n
  ·have hltz:(kk:Int)<(n:Int):=by omega
   have hk2:kk<ts.length:=by rw[HN.out];exact hlt
   obtain⟨b,off,rfl,hbl,hce⟩:=zeM HS.out hk2
   have hcell:=hce kk hk2
   clear hce
   generalize hy:ts[kk]=y at hcell
   have HY:Hid (ts[kk]=y):=hy
   clear hy
   by_cases he:y.data.toList=x.data.toList
   ·have hq:(x.toList == y.toList)=true:=by rw[Lib.toList_data,Lib.toList_data];simpa using he.symm
    have hq2:(y.toList == x.toList)=true:=by rw[Lib.toList_data,Lib.toList_data];simpa using he
    go_wp2
    go_ret
    refine⟨kk,rfl,?_,rfl⟩
    show _=_
    rw[←HR.out,zse hk2 (by rw[HY.out];exact he)]
    simp
   ·have he2:¬x.data.toList=y.data.toList:=fun h=>he h.symm
    have hq:(x.toList == y.toList)=false:=by rw[Lib.toList_data,Lib.toList_data];simpa using he2
    have hq2:(y.toList == x.toList)=false:=by rw[Lib.toList_data,Lib.toList_data];simpa using he
    go_wp2
    go_roundg (n-(kk+1))
    case measure=>omega
    case rel =>
     refine⟨kk+1,by omega,by omega,by go_num,rfl,(show Aside _ from fun j hj hjk=>?_)⟩
     by_cases e:j=kk
     ·subst e
      rw[HY.out];exact he
     ·exact A.out j hj (by omega)
  ·have hltz:¬(kk:Int)<(n:Int):=by omega
   go_wp2
   go_ret
   refine⟨-1,rfl,?_,rfl⟩
   show _=_
   rw[←HR.out,zpw (fun j hj=>A.out j hj (by have:=HN.out;omega))]
   rfl
theorem zgn(x:ByteArray)(p:Option Addr)(n c:Nat)(ts:List ByteArray)(w:World)(hn:ts.length=n)(h:StsA w (.slice p n c) ts)(h100:n≤100) :
  Calls Tryz.prog 84 #[.slice p n c,.string x] w fun e w'=>e=.returned (.bool (ts.any fun a=>a.data.toList == x.data.toList))∧w'=w:=by
 have cI:=zlX x p n c ts w hn h h100
 generalize (ts.any fun a=>a.data.toList == x.data.toList)=R at cI
 clear h hn
 go_enter Tryz.func84,Tryz.ntmps84
 go_wp2_with fail
 refine cI.mono ?_
 rintro e w' ⟨n,rfl,HR,rfl⟩
 go_wp2
 go_ret
 exact⟨zaE HR.out,rfl⟩
theorem zfQ(g:ByteArray)(p:Option Addr)(n c:Nat)(ts:List ByteArray)(vl:Value)(zs:List Cl)(w:World)(hn:ts.length=n)(hst:StsA w (.slice p n c) ts)(h100:n≤100)(hcv:ColsV w vl zs)(hz:zs.length≠0)(h6:zs.length≤6)(T E:Int)(hR:grT zs ts g=(T,E)) :
  Calls Tryz.prog 126 #[.string g,.slice p n c,vl] w fun e w'=>e=.returned (.tuple #[.int .i64 T,errV E])∧Below w.heap.size w w':=by
 obtain⟨q,cc,rfl,hc⟩:=hcv
 rcases hc with h0|⟨b,off,rfl,hcap,hsz,hin⟩
 ·exact absurd h0 hz
 rw[grT] at hR
 have cC:=fun W (hb:Below w.heap.size w W)=>zgn g p n c ts W hn (hst.on hb) h100
 generalize (ts.any fun a=>a.data.toList == g.data.toList)=R at cC hR
 rcases zcl g.data.toList zs with ⟨hf,-⟩|⟨k,hf,hk,-⟩
 ·have cF:=zlO g b off cc zs w (by omega) hin hf
  rw[hf,if_pos (by decide)] at hR
  obtain⟨rfl,rfl⟩:=Prod.mk.inj hR
  rw[errV,if_neg (by decide)]
  clear hin hst
  generalize zs.length=NZ at cF hcap ⊢
  go_enter Tryz.func126,Tryz.ntmps126
  go_wp2_with fail
  refine cF.mono ?_
  rintro e w1 ⟨rfl,b1⟩
  go_wp2
  go_ret2
  exact⟨rfl,b1⟩
 ·have cF:=zgt g b off cc zs w (by omega) hin k hf
  rw[hf,if_neg (by omega)] at hR
  have hcell:=(hin.2 k hk).2
  have hbl:=hin.1
  have hg:(zs[(k:Int).toNat]?.getD (⟨#[]⟩,0)).2=zs[k].2:=by simp[List.getElem?_eq_getElem hk]
  rw[hg] at hR
  generalize zs[k].2=TT at hcell hR
  have hkz:(k:Int)<(zs.length:Int):=by omega
  have h0z:(0:Int)≤(k:Int):=by omega
  clear hin hst hg hsz
  generalize zs.length=NZ at cF hcap hkz ⊢
  cases R
  ·rw[if_neg (by decide)] at hR
   obtain⟨rfl,rfl⟩:=Prod.mk.inj hR
   rw[errV,if_pos rfl]
   go_enter Tryz.func126,Tryz.ntmps126
   go_wp2_with fail
   refine cF.mono ?_
   rintro e w1 ⟨rfl,b1⟩
   go_wp2_with fail
   refine (cC _ b1).mono ?_
   rintro e w2 ⟨rfl,rfl⟩
   rw[←b1.cell (p:=⟨b,off+k*2+1,none⟩) hbl] at hcell
   go_wp2
   go_ret2
   exact⟨rfl,b1⟩
  ·rw[if_pos rfl] at hR
   obtain⟨rfl,rfl⟩:=Prod.mk.inj hR
   rw[errV,if_neg (by decide)]
   go_enter Tryz.func126,Tryz.ntmps126
   go_wp2_with fail
   refine cF.mono ?_
   rintro e w1 ⟨rfl,b1⟩
   go_wp2_with fail
   refine (cC _ b1).mono ?_
   rintro e w2 ⟨rfl,rfl⟩
   go_wp2
   go_ret2
   exact⟨rfl,b1⟩
abbrev agV(a:Ag)(ap:Option Addr)(ac:Nat):Value:=.agg #[.string a.what,.string a.arg.op,.string a.arg.nm,.int .i64 a.arg.vt,.int .i64 a.arg.vn,.string a.arg.vs,.slice ap a.arg.args.length ac,.int .i64 a.arg.pos,.string a.name]
def inI(n:Int):Prop:=-9223372036854775808≤n∧n≤9223372036854775807
end
end Go.Proofs.YtbdnccnfidjiaaaGreatDoor
