/-
  Val1, Cmp, Text.
-/
import Derived.Test.YtopghagjmdbglaaGreatDoorProg
import Derived.WalkKit
import Derived.Below
import Derived.Lib.Strings
import Derived.Lib.Replace
import Derived.Lib.AtoiAll
import Derived.Lib.ItoaNum
namespace Go.Proofs.YtopghagjmdbglaaGreatDoor
open Go.RowKit
set_option linter.unusedVariables false
set_option linter.unusedSimpArgs false
set_option maxHeartbeats 8000000
set_option maxRecDepth 20000
theorem zaJ{a b:Bool}(h:a=b):Ending.returned (.bool a)=.returned (.bool b):=by rw[h]

def zaH(l:List UInt8):Bool:=l.all fun c=>decide (32≤(c.toNat:Int))&&decide ((c.toNat:Int)≤126)
theorem zfN(s:ByteArray)(k:Nat)(h:k<s.size):zaH (s.data.toList.take (k+1))=(zaH (s.data.toList.take k)&&(decide (32≤(s[k].toNat:Int))&&decide ((s[k].toNat:Int)≤126))):=by
 rw[List.take_succ_eq_append_getElem (by simpa using h)]
 simp only[zaH,List.all_append,List.all_cons,List.all_nil,Bool.and_true]
 rfl
theorem znG(s:ByteArray)(k:Nat)(h:k<s.size)(hc:(s[k].toNat:Int)<32∨126<(s[k].toNat:Int)):zaH s.data.toList=false:=by
 have h2:zaH (s.data.toList.take (k+1))=false:=by
  rw[zfN s k h]
  have:(decide (32≤(s[k].toNat:Int))&&decide ((s[k].toNat:Int)≤126))=false:=by
   rw[Bool.and_eq_false_iff,decide_eq_false_iff_not,decide_eq_false_iff_not];omega
  rw[this,Bool.and_false]
 cases hp:zaH s.data.toList with
 | false=>rfl
 | true =>
  exfalso
  have h3:zaH (s.data.toList.take (k+1))=true:=by
   simp only[zaH,List.all_eq_true] at hp ⊢
   exact fun x hx=>hp x (List.mem_of_mem_take hx)
  rw[h2] at h3;exact Bool.noConfusion h3
theorem zpE(s:ByteArray)(k:Nat)(h:s.size≤k)(hp:zaH (s.data.toList.take k)=true):zaH s.data.toList=true:=by
 rwa [List.take_of_length_le (by simpa using h)] at hp

theorem zaD(s:ByteArray)(w:World)(hs:s.size≤maxLen) :
  Calls Tryz.prog 149 #[.string s] w fun e w'=>e=.returned (.bool (zaH s.data.toList))∧w'=w:=by
 unfold maxLen at hs
 go_enter Tryz.func149,Tryz.ntmps149
 go_wp2
 go_loop [3] (fun i=>∃k:Nat,k≤s.size∧i=.int .i64 k∧zaH (s.data.toList.take k)=true) (fun i=>s.size-(intOf i).toNat)
 case atStart=>exact⟨0,Nat.zero_le _,rfl,rfl⟩
 case round =>
  obtain⟨k,hk,rfl,hp⟩:=hrel
  have HP:Hid (zaH (s.data.toList.take k)=true):=hp
  clear hp
  by_cases hlt:k<s.size
  ·have HN:Hid (∀_:(s[k].toNat:Int)<32∨126<(s[k].toNat:Int),zaH s.data.toList=false):=znG s k hlt
   have HT:Hid (zaH (s.data.toList.take (k+1))=(zaH (s.data.toList.take k)&&(decide (32≤(s[k].toNat:Int))&&decide ((s[k].toNat:Int)≤126)))):=zfN s k hlt
   go_wp2
   ·go_ret
    exact⟨zaJ (HN.out (by omega)).symm,rfl⟩
   ·go_round
    case rel =>
     refine⟨k+1,by omega,by go_num,?_⟩
     rw[HT.out,HP.out]
     simp only[Bool.true_and,Bool.and_eq_true,decide_eq_true_eq]
     assumption
    case measure=>simp[intOf];omega
   ·go_ret
    exact⟨zaJ (HN.out (by omega)).symm,rfl⟩
  ·have HO:=zpE s k (by omega) HP.out
   go_wp2
   go_ret
   exact⟨rfl,rfl⟩
def chk(t n:Int)(l:List UInt8):Int :=
 if ¬(t=1∨t=2∨t=3)∨(t=2∧n≠0∧n≠1) then 1
 else if t=3∧40<l.length then 4
 else if t=3∧zaH l=false then 2
 else if (t≠3∧l≠[])∨(t=3∧n≠0) then 3 else 0
def errV(k:Int):Value:=if k=0 then .nilIface else .iface 35 (.int .i64 k)

theorem zcs(t:Int)(w:World)(h:t=1∨t=2∨t=3):Calls Tryz.prog 113 #[.int .i64 t] w fun e w'=>e=.returned (.bool true)∧w'=w:=by
 rcases h with rfl|rfl|rfl
 all_goals
  go_enter Tryz.func113,Tryz.ntmps113
  go_wp2
  go_ret
  exact⟨rfl,rfl⟩
theorem zfw(t:Int)(w:World)(h:¬(t=1∨t=2∨t=3)):Calls Tryz.prog 113 #[.int .i64 t] w fun e w'=>e=.returned (.bool false)∧w'=w:=by
 have h1:(t == 1)=false:=by simp;omega
 have h2:(t == 2)=false:=by simp;omega
 have h3:(t == 3)=false:=by simp;omega
 go_enter Tryz.func113,Tryz.ntmps113
 go_wp2
 go_ret
 exact⟨rfl,rfl⟩

theorem zkY{k j:Int}(h:k=j)(hj:j≠0):Ending.returned (.iface 35 (.int .i64 j))=.returned (errV k):=by
 rw[errV,if_neg (by omega),h]
theorem zkD{k:Int}(h:k=0):Ending.returned .nilIface=.returned (errV k):=by
 rw[errV,if_pos h]

def chkT(n:Int)(l:List UInt8):Int:=if 40<l.length then 4 else if zaH l=false then 2 else if n≠0 then 3 else 0
theorem zmg(n:Int)(l:List UInt8):chk 3 n l=chkT n l:=by
 rw[chk,chkT,if_neg (by simp)]
 simp
theorem zfW(t n:Int)(s:ByteArray)(w:World)(hs:s.size≤maxLen) :
  Calls Tryz.prog 114 #[.agg #[.int .i64 t,.int .i64 n,.string s]] w fun e w'=>e=.returned (errV (chkT n s.data.toList))∧Below w.heap.size w w':=by
 have hs2:=hs
 unfold maxLen at hs2
 generalize hc:chkT n s.data.toList=c
 have HC:Hid (chkT n s.data.toList=c):=hc
 clear hc
 go_enter Tryz.func114,Tryz.ntmps114
 go_wp2_with (first|(go_at_call 149;refine (zaD _ _ hs).mono ?_;rintro e w' ⟨rfl,rfl⟩))
 all_goals
  go_ret
  refine⟨?_,by repeat (first|exact Below.refl _ _|(refine Below.alloc ?_ (by simp) _))⟩
  have hd:s.data.toList.length=s.size:=by simp
  have hc:=HC.out
  clear HC hs
  rw[chkT] at hc
  simp only[bne_iff_ne,bne_eq_false_iff_eq,Bool.not_eq_true',Bool.not_eq_false'] at *
 all_goals
  repeat' split at hc
 all_goals subst hc
 all_goals first|exact zkY rfl (by decide)|exact zkD rfl|(exfalso;omega)|(exfalso;simp_all;done)|(exfalso;simp_all;omega)
theorem zcg(t n:Int)(s:ByteArray)(w:World)(hs:s.size≤maxLen) :
  Calls Tryz.prog 78 #[.agg #[.int .i64 t,.int .i64 n,.string s]] w fun e w'=>e=.returned (errV (chk t n s.data.toList))∧Below w.heap.size w w':=by
 have hs2:=hs
 unfold maxLen at hs2
 by_cases h3:t=3
 ·subst h3
  rw[zmg]
  go_enter Tryz.func78,Tryz.ntmps78
  go_wp2_with (first|(go_at_call 113;refine (zcs _ _ (by omega)).mono ?_;rintro e w' ⟨rfl,rfl⟩)|(go_at_call 114;refine (zfW _ _ _ _ hs).mono ?_;rintro e w' ⟨rfl,hbT⟩))
  go_ret
  exact⟨rfl,(((Below.refl _ _).alloc (Nat.le_refl _) _)).trans (hbT.mono (by simp))⟩
 ·by_cases ht:t=1∨t=2∨t=3
  ·generalize hc:chk t n s.data.toList=c
   have HC:Hid (chk t n s.data.toList=c):=hc
   clear hc
   have e3:(t == 3)=false:=by simpa using h3
   have HT:Hid (t=1∨t=2∨t=3):=ht
   go_enter Tryz.func78,Tryz.ntmps78
   go_wp2_with (first|(go_at_call 113;refine (zcs _ _ HT.out).mono ?_;rintro e w' ⟨rfl,rfl⟩))
   all_goals
    go_ret
    refine⟨?_,by repeat (first|exact Below.refl _ _|(refine Below.alloc ?_ (by simp) _))⟩
    have hd:s.data.toList.length=s.size:=by simp
    have hc:=HC.out
    have htt:=HT.out
    clear HC HT hs
    rw[chk] at hc
    simp only[Lib.toList_data,bne_iff_ne,bne_eq_false_iff_eq,Bool.not_eq_true',Bool.not_eq_false'] at *
   all_goals
    repeat' split at hc
   all_goals subst hc
   all_goals first|exact zkY rfl (by decide)|exact zkD rfl|(exfalso;omega)|(exfalso;simp_all;done)|(exfalso;simp_all;omega)
  ·have hc:chk t n s.data.toList=1:=by rw[chk,if_pos (Or.inl ht)]
   have HC:Hid (chk t n s.data.toList=1):=hc
   clear hc
   have HT:Hid (¬(t=1∨t=2∨t=3)):=ht
   clear ht h3
   go_enter Tryz.func78,Tryz.ntmps78
   go_wp2_with (first|(go_at_call 113;refine (zfw _ _ HT.out).mono ?_;rintro e w' ⟨rfl,rfl⟩))
   go_ret
   exact⟨zkY HC.out (by omega),by repeat (first|exact Below.refl _ _|(refine Below.alloc ?_ (by simp) _))⟩
theorem zbS:∀(x y:List UInt8),Op.bytesLess x y=decide (x<y)
 | [],[]=>by simp[Op.bytesLess]
 | _::_,[]=>by simp[Op.bytesLess]
 | [],_::_=>by simp[Op.bytesLess]
 | a::x,b::y=>by
  rw[Op.bytesLess,zbS x y]
  simp only[List.cons_lt_cons_iff]
  by_cases h1:a<b<;>by_cases h2:a=b<;>by_cases h3:x<y<;>simp[h1,h2,h3]

def cmpI(x y:Int):Int:=if x<y then -1 else if y<x then 1 else 0
def cmpS(x y:List UInt8):Int:=if x<y then -1 else if y<x then 1 else 0

theorem zoR(x y:Int)(w:World):Calls Tryz.prog 174 #[.int .i64 x,.int .i64 y] w fun e w'=>e=.returned (.int .i64 (cmpI x y))∧w'=w:=by
 have hx:(x != x)=false:=by simp
 by_cases h1:x<y
 ·have hc:cmpI x y=-1:=by rw[cmpI,if_pos h1]
  rw[hc]
  go_enter Tryz.func174,Tryz.ntmps174
  go_wp2
  go_ret
  exact⟨rfl,rfl⟩
 ·by_cases h2:y<x
  ·have hc:cmpI x y=1:=by rw[cmpI,if_neg h1,if_pos h2]
   rw[hc]
   go_enter Tryz.func174,Tryz.ntmps174
   go_wp2
   go_ret
   exact⟨rfl,rfl⟩
  ·have hc:cmpI x y=0:=by rw[cmpI,if_neg h1,if_neg h2]
   rw[hc]
   go_enter Tryz.func174,Tryz.ntmps174
   go_wp2
   go_ret
   exact⟨rfl,rfl⟩
theorem zet(x y:ByteArray)(w:World):Sem.run Tryz.prog (binOp .gtr 9 (.string x) (.string y)) w=.ok (.bool !(Op.bytesLess x.toList y.toList||x.toList == y.toList)) w:=by
 simp[binOp,Op.stringOp]
theorem zse(x y:ByteArray)(w:World):Calls Tryz.prog 235 #[.string x,.string y] w fun e w'=>e=.returned (.int .i64 (cmpS x.data.toList y.data.toList))∧w'=w:=by
 by_cases h1:x.data.toList<y.data.toList
 ·have hc:cmpS x.data.toList y.data.toList=-1:=by rw[cmpS,if_pos h1]
  have hl:Op.bytesLess x.toList y.toList=true:=by rw[zbS,Lib.toList_data,Lib.toList_data];simpa using h1
  rw[hc]
  clear h1 hc
  go_enter Tryz.func235,Tryz.ntmps235
  go_wp2
  go_ret
  exact⟨rfl,rfl⟩
 ·have hl:Op.bytesLess x.toList y.toList=false:=by rw[zbS,Lib.toList_data,Lib.toList_data];simpa using h1
  by_cases h2:y.data.toList<x.data.toList
  ·have hc:cmpS x.data.toList y.data.toList=1:=by rw[cmpS,if_neg h1,if_pos h2]
   have hm:¬x.toList=y.toList:=by rw[Lib.toList_data,Lib.toList_data];intro e;rw[e] at h2;exact List.lt_irrefl _ h2
   have hq:(x.toList == y.toList)=false:=by simpa using hm
   have hr:=zet x y w
   rw[hl,hq] at hr
   clear hm hq
   rw[hc]
   clear h1 h2 hc
   go_enter Tryz.func235,Tryz.ntmps235
   go_wp2
   go_ret
   exact⟨rfl,rfl⟩
  ·have hc:cmpS x.data.toList y.data.toList=0:=by rw[cmpS,if_neg h1,if_neg h2]
   have hm:x.data.toList=y.data.toList:=List.le_antisymm (List.not_lt.1 h2) (List.not_lt.1 h1)
   obtain rfl:x=y:=by cases x;cases y;simp_all
   have hr:=zet x x w
   rw[hl,beq_self_eq_true] at hr
   rw[hc]
   clear h1 h2 hc
   go_enter Tryz.func235,Tryz.ntmps235
   go_wp2
   go_ret
   exact⟨rfl,rfl⟩

theorem bcell{W w1:World}(hb:Below W.heap.size W w1):(∀b o,b<W.heap.size→w1.cell? ⟨b,o,none⟩=W.cell? ⟨b,o,none⟩)∧(∀b o,b<W.heap.size→w1.frozen? ⟨b,o,none⟩=W.frozen? ⟨b,o,none⟩) :=
 ⟨fun b o h=>hb.cell (p:=⟨b,o,none⟩) h,fun b o h=>hb.frozen (p:=⟨b,o,none⟩) h⟩
theorem zhs(t n:Int)(s:ByteArray)(w:World)(hs:s.size≤maxLen)(h:chk t n s.data.toList=0) :
  Calls Tryz.prog 78 #[.agg #[.int .i64 t,.int .i64 n,.string s]] w fun e w'=>e=.returned .nilIface∧Below w.heap.size w w' :=
 (zcg t n s w hs).mono fun e w' hh=>⟨by rw[hh.1,h,errV,if_pos rfl],hh.2⟩
theorem zfc(t n:Int)(s:ByteArray)(w:World)(hs:s.size≤maxLen)(h:chk t n s.data.toList≠0) :
  Calls Tryz.prog 78 #[.agg #[.int .i64 t,.int .i64 n,.string s]] w fun e w'=>e=.returned (.iface 35 (.int .i64 (chk t n s.data.toList)))∧Below w.heap.size w w' :=
 (zcg t n s w hs).mono fun e w' hh=>⟨by rw[hh.1,errV,if_neg h],hh.2⟩

def cmpE(t n:Int)(l:List UInt8)(t' n':Int)(l':List UInt8):Int :=
 if chk t n l≠0 then chk t n l else if chk t' n' l'≠0 then chk t' n' l' else if t≠t' then 8 else 0
def cmpN(t n:Int)(l:List UInt8)(t' n':Int)(l':List UInt8):Int :=
 if cmpE t n l t' n' l'≠0 then 0 else if t=3 then cmpS l l' else cmpI n n'
theorem zgE{a b j:Int}{x:Value}(ha:a=b)(hx:x=errV j):Ending.returned (.tuple #[.int .i64 a,x])=.returned (.tuple #[.int .i64 b,errV j]):=by rw[ha,hx]

theorem zes(t n:Int)(s:ByteArray)(t' n':Int)(s':ByteArray)(w:World)(hs:s.size≤maxLen)(hs':s'.size≤maxLen) :
  Calls Tryz.prog 221 #[.agg #[.int .i64 t,.int .i64 n,.string s],.agg #[.int .i64 t',.int .i64 n',.string s']] w fun e w'=>e=.returned (.tuple #[.int .i64 (cmpN t n s.data.toList t' n' s'.data.toList),errV (cmpE t n s.data.toList t' n' s'.data.toList)])∧Below w.heap.size w w':=by
 by_cases h1:chk t n s.data.toList=0
 ·by_cases h2:chk t' n' s'.data.toList=0
  ·have H1:Hid (chk t n s.data.toList=0):=h1
   have H2:Hid (chk t' n' s'.data.toList=0):=h2
   have HE:Hid (cmpE t n s.data.toList t' n' s'.data.toList=if t≠t' then 8 else 0):=by rw[cmpE,if_neg (by simp[h1]),if_neg (by simp[h2])];exact rfl
   clear h1 h2
   go_enter Tryz.func221,Tryz.ntmps221
   go_wp2_with fail
   refine (zhs _ _ _ _ hs H1.out).mono ?_
   rintro e w1 ⟨rfl,b1⟩
   obtain⟨hc,hf⟩:=bcell b1
   have hz:w.heap.size+1<w1.heap.size:=by have:=b1.size;simp at this;omega
   have hy:w.heap.size<w1.heap.size:=by omega
   go_wp2_with fail
   refine (zhs _ _ _ _ hs' H2.out).mono ?_
   rintro e w2 ⟨rfl,b2⟩
   obtain⟨hc2,hf2⟩:=bcell b2
   have hz2:w.heap.size+1<w2.heap.size:=by have:=b2.size;omega
   by_cases ht:t=t'
   ·subst ht
    have hE:cmpE t n s.data.toList t n' s'.data.toList=0:=by rw[HE.out,if_neg (by simp)]
    by_cases h3:t=3
    ·subst h3
     have HN:Hid (cmpN 3 n s.data.toList 3 n' s'.data.toList=cmpS s.data.toList s'.data.toList):=by rw[cmpN,if_neg (by simp[hE]),if_pos rfl];exact rfl
     have HE2:Hid (cmpE 3 n s.data.toList 3 n' s'.data.toList=0):=hE
     clear hE HE
     go_wp2_with fail
     refine (zse s s' _).mono ?_
     rintro e w3 ⟨rfl,rfl⟩
     go_wp2
     go_ret2
     refine⟨zgE HN.out.symm (by rw[HE2.out,errV,if_pos rfl];rfl),?_⟩
     exact (((Below.refl _ _).alloc (Nat.le_refl _) _).alloc (by simp) _).trans ((b1.mono (by simp;omega)).trans (b2.mono (by omega)))
    ·have HN:Hid (cmpN t n s.data.toList t n' s'.data.toList=cmpI n n'):=by rw[cmpN,if_neg (by simp[hE]),if_neg h3];exact rfl
     have HE2:Hid (cmpE t n s.data.toList t n' s'.data.toList=0):=hE
     clear hE HE
     have e3:(t == 3)=false:=by simpa using h3
     go_wp2_with fail
     refine (zoR n n' _).mono ?_
     rintro e w3 ⟨rfl,rfl⟩
     go_wp2
     go_ret2
     refine⟨zgE HN.out.symm (by rw[HE2.out,errV,if_pos rfl];rfl),?_⟩
     exact (((Below.refl _ _).alloc (Nat.le_refl _) _).alloc (by simp) _).trans ((b1.mono (by simp;omega)).trans (b2.mono (by omega)))
   ·have hE:cmpE t n s.data.toList t' n' s'.data.toList=8:=by rw[HE.out,if_pos ht]
    have HN:Hid (cmpN t n s.data.toList t' n' s'.data.toList=0):=by rw[cmpN,if_pos (by rw[hE];decide)];exact rfl
    have HE2:Hid (cmpE t n s.data.toList t' n' s'.data.toList=8):=hE
    clear hE HE
    have et:(t != t')=true:=by simpa using ht
    go_wp2
    go_ret2
    refine⟨zgE HN.out.symm (by rw[HE2.out,errV,if_neg (by decide)];rfl),?_⟩
    exact (((Below.refl _ _).alloc (Nat.le_refl _) _).alloc (by simp) _).trans ((b1.mono (by simp;omega)).trans (b2.mono (by omega)))
  ·have H1:Hid (chk t n s.data.toList=0):=h1
   have H2:Hid (chk t' n' s'.data.toList≠0):=h2
   have HE:Hid (cmpE t n s.data.toList t' n' s'.data.toList=chk t' n' s'.data.toList):=by rw[cmpE,if_neg (by simp[h1]),if_pos h2];exact rfl
   clear h1 h2
   go_enter Tryz.func221,Tryz.ntmps221
   go_wp2_with fail
   refine (zhs _ _ _ _ hs H1.out).mono ?_
   rintro e w1 ⟨rfl,b1⟩
   obtain⟨hc,hf⟩:=bcell b1
   have hz:w.heap.size+1<w1.heap.size:=by have:=b1.size;simp at this;omega
   have hy:w.heap.size<w1.heap.size:=by omega
   go_wp2_with fail
   refine (zfc _ _ _ _ hs' H2.out).mono ?_
   rintro e w2 ⟨rfl,b2⟩
   go_wp2
   go_ret2
   refine⟨?_,?_⟩
   ·have hE:=HE.out
    refine zgE ?_ ?_
    ·rw[cmpN,if_pos (by rw[hE];exact H2.out)]
    ·rw[hE,errV,if_neg H2.out];rfl
   ·exact (((Below.refl _ _).alloc (Nat.le_refl _) _).alloc (by simp) _).trans ((b1.mono (by simp;omega)).trans (b2.mono (by omega)))
 ·have H1:Hid (chk t n s.data.toList≠0):=h1
  have HE:Hid (cmpE t n s.data.toList t' n' s'.data.toList=chk t n s.data.toList):=by rw[cmpE,if_pos h1];exact rfl
  clear h1
  go_enter Tryz.func221,Tryz.ntmps221
  go_wp2_with fail
  refine (zfc _ _ _ _ hs H1.out).mono ?_
  rintro e w1 ⟨rfl,b1⟩
  go_wp2
  go_ret2
  refine⟨?_,?_⟩
  ·have hE:=HE.out
   refine zgE ?_ ?_
   ·rw[cmpN,if_pos (by rw[hE];exact H1.out)]
   ·rw[hE,errV,if_neg H1.out];rfl
  ·exact (((Below.refl _ _).alloc (Nat.le_refl _) _).alloc (by simp) _).trans (b1.mono (by simp;omega))
def esc(l:List UInt8):List UInt8:=l.flatMap fun c=>if c=39 then [39,39] else [c]
theorem zhF(c:UInt8)(l:List UInt8):esc (c::l)=(if c=39 then [39,39] else [c])++esc l:=by simp[esc]
def unq:List UInt8→Option (List UInt8)
 | []=>some []
 | c::l =>
  if c=39 then
   match l with
   | []=>none
   | d::r=>if d=39 then (unq r).map (39::·) else none
  else (unq l).map (c::·)
theorem zqZ(c:UInt8)(l:List UInt8)(h:c≠39):unq (c::l)=(unq l).map (c::·):=by cases l<;>simp[unq,h]
theorem zoD(r:List UInt8):unq (39::39::r)=(unq r).map (39::·):=by simp[unq]
theorem zoI(d:UInt8)(r:List UInt8)(h:d≠39):unq (39::d::r)=none:=by simp[unq,h]
theorem zoV:unq [39]=none:=by simp[unq]
theorem zcv:∀(n:Nat) (m l:List UInt8),m.length≤n→unq m=some l→m=esc l
 | _,[],l,_,h=>by simp[unq] at h;subst h;rfl
 | 0,_::_,_,hn,_=>by simp at hn
 | n+1,c::m,l,hn,h=>by
  by_cases hc:c=39
  ·subst hc
   cases m with
   | nil=>simp[unq] at h
   | cons d r =>
    by_cases hd:d=39
    ·subst hd
     simp only[unq,if_true,Option.map_eq_some_iff] at h
     obtain⟨l',hl,rfl⟩:=h
     rw[zhF,if_pos rfl,←zcv n r l' (by simp at hn;omega) hl]
     rfl
    ·simp[unq,hd] at h
  ·rw[zqZ c m hc,Option.map_eq_some_iff] at h
   obtain⟨l',hl,rfl⟩:=h
   rw[zhF,if_neg hc,←zcv n m l' (by simp at hn;omega) hl]
   rfl
theorem zst(m l:List UInt8)(h:unq m=some l):l.length≤m.length:=by
 rw[zcv m.length m l (Nat.le_refl _) h]
 clear h
 induction l with
 | nil=>simp
 | cons c l ih =>
  rw[zhF]
  split<;>simp<;>omega

theorem zdz:∀(l:List UInt8) (a u:Nat) (d:Nat),Lib.parseUint10 a l=.ok u→d<10→u*10+d<18446744073709551616→Lib.parseUint10 a (l++[UInt8.ofNat (48+d)])=.ok (u*10+d)
 | [],a,u,d,h,hd,hu=>by
  simp only[Lib.parseUint10] at h
  injection h with h
  subst h
  have e:(UInt8.ofNat (48+d)).toNat=48+d:=by simp;omega
  simp only[List.nil_append,Lib.parseUint10,e]
  rw[if_pos (by omega),if_neg (by omega),if_neg (by omega),show 48+d-48=d from by omega]
 | c::r,a,u,d,h,hd,hu=>by
  simp only[List.cons_append,Lib.parseUint10] at h ⊢
  split at h
  ·rename_i h1
   rw[if_pos h1]
   split at h
   ·cases h
   ·rename_i h2
    rw[if_neg h2]
    split at h
    ·cases h
    ·rename_i h3
     rw[if_neg h3]
     exact zdz r _ u d h hd hu
  ·cases h
theorem zbV:∀(k u:Nat),u≤k→u<18446744073709551616→Lib.parseUint10 0 (Lib.decDigits u)=.ok u
 | k,u,hk,hu=>by
  rw[Lib.decDigits]
  by_cases h:u<10
  ·rw[dif_pos h]
   have:=zdz [] 0 0 u rfl h (by omega)
   simpa using this
  ·rw[dif_neg h]
   cases k with
   | zero=>omega
   | succ k =>
    have:=zdz (Lib.decDigits (u / 10)) 0 (u / 10) (u % 10) (zbV k (u / 10) (by omega) (by omega)) (by omega) (by omega)
    rw[this]
    congr 1
    omega
theorem zbc:∀(k u:Nat),u≤k→∃c r,Lib.decDigits u=c::r∧48≤c.toNat∧c.toNat≤57
 | k,u,hk=>by
  rw[Lib.decDigits]
  by_cases h:u<10
  ·rw[dif_pos h]
   exact⟨_,_,rfl,by simp;omega,by simp;omega⟩
  ·rw[dif_neg h]
   cases k with
   | zero=>omega
   | succ k =>
    obtain⟨c,r,hr,h1,h2⟩:=zbc k (u / 10) (by omega)
    rw[hr]
    exact⟨c,_,rfl,h1,h2⟩
theorem znw(n:Int)(h:-9223372036854775808≤n∧n≤9223372036854775807):Lib.atoiAll (Lib.itoa n)=.ok n:=by
 by_cases hn:n<0
 ·rw[Lib.itoa,if_pos hn]
  obtain⟨c,r,hr,h1,h2⟩:=zbc n.natAbs n.natAbs (Nat.le_refl _)
  have hp:=zbV n.natAbs n.natAbs (Nat.le_refl _) (by omega)
  have hm:Lib.parseMag (Lib.decDigits n.natAbs)=.ok n.natAbs:=by rw[Lib.parseMag,if_neg (by rw[hr];simp),hp]
  simp only[Lib.atoiAll]
  rw[if_pos (Or.inr (by decide)),hm]
  simp only[]
  rw[if_neg (by simp),if_neg (by omega),if_pos (by decide)]
  congr 1
  omega
 ·rw[Lib.itoa,if_neg hn]
  obtain⟨c,r,hr,h1,h2⟩:=zbc n.toNat n.toNat (Nat.le_refl _)
  have hp:=zbV n.toNat n.toNat (Nat.le_refl _) (by omega)
  have hm:Lib.parseMag (Lib.decDigits n.toNat)=.ok n.toNat:=by rw[Lib.parseMag,if_neg (by rw[hr];simp),hp]
  rw[hr] at hm ⊢
  simp only[Lib.atoiAll]
  rw[if_neg (by omega),hm]
  simp only[]
  rw[if_neg (by omega),if_neg (by omega),if_neg (by omega)]
  congr 1
  omega
end Go.Proofs.YtopghagjmdbglaaGreatDoor
