/-
  Val1, Cmp, Print, Parse, Back, RdFacts, LexPure, Lex1, TreeP, OwnS.
-/
import Derived.Test.YtbdnccnfidjiaaaGreatDoorProg
import Derived.WalkKit
import Derived.Below
import Derived.Lib.Strings
import Derived.Test.YtbdnccnfidjiaaaGreatDoorGyAa
import Derived.Test.YtbdnccnfidjiaaaGreatDoorYShelf
import Derived.WalkSmall
import Derived.Lib.LaidTab
import Derived.Lib.AppendIntMem
import Derived.Lib.AtoiAllCases
import Derived.Lib.OthersKept
import Derived.Laws.RangeAny
import Derived.Deep.DeepCutAuto
import Derived.Test.YtbdnccnfidjiaaaGreatDoorGyAb
import Derived.OwnWalk
namespace Go.Proofs.YtbdnccnfidjiaaaGreatDoor
open Go.RowKit
set_option linter.unusedVariables false
set_option linter.unusedSimpArgs false
set_option maxHeartbeats 8000000
theorem zaE{a b:Bool}(h:a=b):Ending.returned (.bool a)=.returned (.bool b):=by rw[h]

def zay(l:List UInt8):Bool:=l.all fun c=>decide (32≤(c.toNat:Int))&&decide ((c.toNat:Int)≤126)
theorem zdk(s:ByteArray)(k:Nat)(h:k<s.size):zay (s.data.toList.take (k+1))=(zay (s.data.toList.take k)&&(decide (32≤(s[k].toNat:Int))&&decide ((s[k].toNat:Int)≤126))):=by
 rw[List.take_succ_eq_append_getElem (by simpa using h)]
 simp only[zay,List.all_append,List.all_cons,List.all_nil,Bool.and_true]
 rfl
theorem zhF(s:ByteArray)(k:Nat)(h:k<s.size)(hc:(s[k].toNat:Int)<32∨126<(s[k].toNat:Int)):zay s.data.toList=false:=by
 have h2:zay (s.data.toList.take (k+1))=false:=by
  rw[zdk s k h]
  have:(decide (32≤(s[k].toNat:Int))&&decide ((s[k].toNat:Int)≤126))=false:=by
   rw[Bool.and_eq_false_iff,decide_eq_false_iff_not,decide_eq_false_iff_not];omega
  rw[this,Bool.and_false]
 cases hp:zay s.data.toList with
 | false=>rfl
 | true =>
  exfalso
  have h3:zay (s.data.toList.take (k+1))=true:=by
   simp only[zay,List.all_eq_true] at hp ⊢
   exact fun x hx=>hp x (List.mem_of_mem_take hx)
  rw[h2] at h3;exact Bool.noConfusion h3
theorem zkv(s:ByteArray)(k:Nat)(h:s.size≤k)(hp:zay (s.data.toList.take k)=true):zay s.data.toList=true:=by
 rwa [List.take_of_length_le (by simpa using h)] at hp

theorem zaD(s:ByteArray)(w:World)(hs:s.size≤maxLen) :
  Calls Tryz.prog 144 #[.string s] w fun e w'=>e=.returned (.bool (zay s.data.toList))∧w'=w:=by
 unfold maxLen at hs
 go_enter Tryz.func144,Tryz.ntmps144
 go_wp2
 go_loop [3] (fun i=>∃k:Nat,k≤s.size∧i=.int .i64 k∧zay (s.data.toList.take k)=true) (fun i=>s.size-(intOf i).toNat)
 case atStart=>exact⟨0,Nat.zero_le _,rfl,rfl⟩
 case round =>
  obtain⟨k,hk,rfl,hp⟩:=hrel
  have HP:Hid (zay (s.data.toList.take k)=true):=hp
  clear hp
  by_cases hlt:k<s.size
  ·have HN:Hid (∀_:(s[k].toNat:Int)<32∨126<(s[k].toNat:Int),zay s.data.toList=false):=zhF s k hlt
   have HT:Hid (zay (s.data.toList.take (k+1))=(zay (s.data.toList.take k)&&(decide (32≤(s[k].toNat:Int))&&decide ((s[k].toNat:Int)≤126)))):=zdk s k hlt
   go_wp2
   ·go_ret
    exact⟨zaE (HN.out (by omega)).symm,rfl⟩
   ·go_round
    case rel =>
     refine⟨k+1,by omega,by go_num,?_⟩
     rw[HT.out,HP.out]
     simp only[Bool.true_and,Bool.and_eq_true,decide_eq_true_eq]
     assumption
    case measure=>simp[intOf];omega
   ·go_ret
    exact⟨zaE (HN.out (by omega)).symm,rfl⟩
  ·have HO:=zkv s k (by omega) HP.out
   go_wp2
   go_ret
   exact⟨rfl,rfl⟩
def chk(t n:Int)(l:List UInt8):Int :=
 if ¬(t=1∨t=2∨t=3)∨(t=2∧n≠0∧n≠1) then 1
 else if t=3∧40<l.length then 4
 else if t=3∧zay l=false then 2
 else if (t≠3∧l≠[])∨(t=3∧n≠0) then 3 else 0
def errV(k:Int):Value:=if k=0 then .nilIface else .iface 35 (.int .i64 k)

theorem zda(t:Int)(w:World)(h:t=1∨t=2∨t=3):Calls Tryz.prog 108 #[.int .i64 t] w fun e w'=>e=.returned (.bool true)∧w'=w:=by
 rcases h with rfl|rfl|rfl
 all_goals
  go_enter Tryz.func108,Tryz.ntmps108
  go_wp2
  go_ret
  exact⟨rfl,rfl⟩
theorem zhx(t:Int)(w:World)(h:¬(t=1∨t=2∨t=3)):Calls Tryz.prog 108 #[.int .i64 t] w fun e w'=>e=.returned (.bool false)∧w'=w:=by
 have h1:(t == 1)=false:=by simp;omega
 have h2:(t == 2)=false:=by simp;omega
 have h3:(t == 3)=false:=by simp;omega
 go_enter Tryz.func108,Tryz.ntmps108
 go_wp2
 go_ret
 exact⟨rfl,rfl⟩

theorem zjz{k j:Int}(h:k=j)(hj:j≠0):Ending.returned (.iface 35 (.int .i64 j))=.returned (errV k):=by
 rw[errV,if_neg (by omega),h]
theorem zjA{k:Int}(h:k=0):Ending.returned .nilIface=.returned (errV k):=by
 rw[errV,if_pos h]

def chkT(n:Int)(l:List UInt8):Int:=if 40<l.length then 4 else if zay l=false then 2 else if n≠0 then 3 else 0
theorem zjk(n:Int)(l:List UInt8):chk 3 n l=chkT n l:=by
 rw[chk,chkT,if_neg (by simp)]
 simp
theorem zfe(t n:Int)(s:ByteArray)(w:World)(hs:s.size≤maxLen) :
  Calls Tryz.prog 109 #[.agg #[.int .i64 t,.int .i64 n,.string s]] w fun e w'=>e=.returned (errV (chkT n s.data.toList))∧Below w.heap.size w w':=by
 have hs2:=hs
 unfold maxLen at hs2
 generalize hc:chkT n s.data.toList=c
 have HC:Hid (chkT n s.data.toList=c):=hc
 clear hc
 go_enter Tryz.func109,Tryz.ntmps109
 go_wp2_with (first|(go_at_call 144;refine (zaD _ _ hs).mono ?_;rintro e w' ⟨rfl,rfl⟩))
 all_goals
  go_ret
  refine⟨?_,by repeat (first|exact Below.refl _ _|(refine Below.alloc ?_ (by simp) _))⟩
  have hd:s.data.toList.length=s.size:=by simp
  have hc:=HC.out
  clear HC hs
  rw[chkT] at hc
  simp only[bne_iff_ne,bne_eq_false_iff_eq,Bool.not_eq_true',Bool.not_eq_false'] at *
 all_goals
  repeat' split at hc
 all_goals subst hc
 all_goals first|exact zjz rfl (by decide)|exact zjA rfl|(exfalso;omega)|(exfalso;simp_all;done)|(exfalso;simp_all;omega)
theorem zbH(t n:Int)(s:ByteArray)(w:World)(hs:s.size≤maxLen) :
  Calls Tryz.prog 73 #[.agg #[.int .i64 t,.int .i64 n,.string s]] w fun e w'=>e=.returned (errV (chk t n s.data.toList))∧Below w.heap.size w w':=by
 have hs2:=hs
 unfold maxLen at hs2
 by_cases h3:t=3
 ·subst h3
  rw[zjk]
  go_enter Tryz.func73,Tryz.ntmps73
  go_wp2_with (first|(go_at_call 108;refine (zda _ _ (by omega)).mono ?_;rintro e w' ⟨rfl,rfl⟩)|(go_at_call 109;refine (zfe _ _ _ _ hs).mono ?_;rintro e w' ⟨rfl,hbT⟩))
  go_ret
  exact⟨rfl,(((Below.refl _ _).alloc (Nat.le_refl _) _)).trans (hbT.mono (by simp))⟩
 ·by_cases ht:t=1∨t=2∨t=3
  ·generalize hc:chk t n s.data.toList=c
   have HC:Hid (chk t n s.data.toList=c):=hc
   clear hc
   have e3:(t == 3)=false:=by simpa using h3
   have HT:Hid (t=1∨t=2∨t=3):=ht
   go_enter Tryz.func73,Tryz.ntmps73
   go_wp2_with (first|(go_at_call 108;refine (zda _ _ HT.out).mono ?_;rintro e w' ⟨rfl,rfl⟩))
   all_goals
    go_ret
    refine⟨?_,by repeat (first|exact Below.refl _ _|(refine Below.alloc ?_ (by simp) _))⟩
    have hd:s.data.toList.length=s.size:=by simp
    have hc:=HC.out
    have htt:=HT.out
    clear HC HT hs
    rw[chk] at hc
    simp only[Lib.toList_data,bne_iff_ne,bne_eq_false_iff_eq,Bool.not_eq_true',Bool.not_eq_false'] at *
   all_goals
    repeat' split at hc
   all_goals subst hc
   all_goals first|exact zjz rfl (by decide)|exact zjA rfl|(exfalso;omega)|(exfalso;simp_all;done)|(exfalso;simp_all;omega)
  ·have hc:chk t n s.data.toList=1:=by rw[chk,if_pos (Or.inl ht)]
   have HC:Hid (chk t n s.data.toList=1):=hc
   clear hc
   have HT:Hid (¬(t=1∨t=2∨t=3)):=ht
   clear ht h3
   go_enter Tryz.func73,Tryz.ntmps73
   go_wp2_with (first|(go_at_call 108;refine (zhx _ _ HT.out).mono ?_;rintro e w' ⟨rfl,rfl⟩))
   go_ret
   exact⟨zjz HC.out (by omega),by repeat (first|exact Below.refl _ _|(refine Below.alloc ?_ (by simp) _))⟩
theorem zbv:∀(x y:List UInt8),Op.bytesLess x y=decide (x<y)
 | [],[]=>by simp[Op.bytesLess]
 | _::_,[]=>by simp[Op.bytesLess]
 | [],_::_=>by simp[Op.bytesLess]
 | a::x,b::y=>by
  rw[Op.bytesLess,zbv x y]
  simp only[List.cons_lt_cons_iff]
  by_cases h1:a<b<;>by_cases h2:a=b<;>by_cases h3:x<y<;>simp[h1,h2,h3]

def cmpI(x y:Int):Int:=if x<y then -1 else if y<x then 1 else 0
def cmpS(x y:List UInt8):Int:=if x<y then -1 else if y<x then 1 else 0

theorem zmX(x y:Int)(w:World):Calls Tryz.prog 169 #[.int .i64 x,.int .i64 y] w fun e w'=>e=.returned (.int .i64 (cmpI x y))∧w'=w:=by
 have hx:(x != x)=false:=by simp
 by_cases h1:x<y
 ·have hc:cmpI x y=-1:=by rw[cmpI,if_pos h1]
  rw[hc]
  go_enter Tryz.func169,Tryz.ntmps169
  go_wp2
  go_ret
  exact⟨rfl,rfl⟩
 ·by_cases h2:y<x
  ·have hc:cmpI x y=1:=by rw[cmpI,if_neg h1,if_pos h2]
   rw[hc]
   go_enter Tryz.func169,Tryz.ntmps169
   go_wp2
   go_ret
   exact⟨rfl,rfl⟩
  ·have hc:cmpI x y=0:=by rw[cmpI,if_neg h1,if_neg h2]
   rw[hc]
   go_enter Tryz.func169,Tryz.ntmps169
   go_wp2
   go_ret
   exact⟨rfl,rfl⟩
theorem zdO(x y:ByteArray)(w:World):Sem.run Tryz.prog (binOp .gtr 9 (.string x) (.string y)) w=.ok (.bool !(Op.bytesLess x.toList y.toList||x.toList == y.toList)) w:=by
 simp[binOp,Op.stringOp]
theorem zqo(x y:ByteArray)(w:World):Calls Tryz.prog 230 #[.string x,.string y] w fun e w'=>e=.returned (.int .i64 (cmpS x.data.toList y.data.toList))∧w'=w:=by
 by_cases h1:x.data.toList<y.data.toList
 ·have hc:cmpS x.data.toList y.data.toList=-1:=by rw[cmpS,if_pos h1]
  have hl:Op.bytesLess x.toList y.toList=true:=by rw[zbv,Lib.toList_data,Lib.toList_data];simpa using h1
  rw[hc]
  clear h1 hc
  go_enter Tryz.func230,Tryz.ntmps230
  go_wp2
  go_ret
  exact⟨rfl,rfl⟩
 ·have hl:Op.bytesLess x.toList y.toList=false:=by rw[zbv,Lib.toList_data,Lib.toList_data];simpa using h1
  by_cases h2:y.data.toList<x.data.toList
  ·have hc:cmpS x.data.toList y.data.toList=1:=by rw[cmpS,if_neg h1,if_pos h2]
   have hm:¬x.toList=y.toList:=by rw[Lib.toList_data,Lib.toList_data];intro e;rw[e] at h2;exact List.lt_irrefl _ h2
   have hq:(x.toList == y.toList)=false:=by simpa using hm
   have hr:=zdO x y w
   rw[hl,hq] at hr
   clear hm hq
   rw[hc]
   clear h1 h2 hc
   go_enter Tryz.func230,Tryz.ntmps230
   go_wp2
   go_ret
   exact⟨rfl,rfl⟩
  ·have hc:cmpS x.data.toList y.data.toList=0:=by rw[cmpS,if_neg h1,if_neg h2]
   have hm:x.data.toList=y.data.toList:=List.le_antisymm (List.not_lt.1 h2) (List.not_lt.1 h1)
   obtain rfl:x=y:=by cases x;cases y;simp_all
   have hr:=zdO x x w
   rw[hl,beq_self_eq_true] at hr
   rw[hc]
   clear h1 h2 hc
   go_enter Tryz.func230,Tryz.ntmps230
   go_wp2
   go_ret
   exact⟨rfl,rfl⟩

theorem bcell{W w1:World}(hb:Below W.heap.size W w1):(∀b o,b<W.heap.size→w1.cell? ⟨b,o,none⟩=W.cell? ⟨b,o,none⟩)∧(∀b o,b<W.heap.size→w1.frozen? ⟨b,o,none⟩=W.frozen? ⟨b,o,none⟩) :=
 ⟨fun b o h=>hb.cell (p:=⟨b,o,none⟩) h,fun b o h=>hb.frozen (p:=⟨b,o,none⟩) h⟩
theorem zgg(t n:Int)(s:ByteArray)(w:World)(hs:s.size≤maxLen)(h:chk t n s.data.toList=0) :
  Calls Tryz.prog 73 #[.agg #[.int .i64 t,.int .i64 n,.string s]] w fun e w'=>e=.returned .nilIface∧Below w.heap.size w w' :=
 (zbH t n s w hs).mono fun e w' hh=>⟨by rw[hh.1,h,errV,if_pos rfl],hh.2⟩
theorem zea(t n:Int)(s:ByteArray)(w:World)(hs:s.size≤maxLen)(h:chk t n s.data.toList≠0) :
  Calls Tryz.prog 73 #[.agg #[.int .i64 t,.int .i64 n,.string s]] w fun e w'=>e=.returned (.iface 35 (.int .i64 (chk t n s.data.toList)))∧Below w.heap.size w w' :=
 (zbH t n s w hs).mono fun e w' hh=>⟨by rw[hh.1,errV,if_neg h],hh.2⟩

def cmpE(t n:Int)(l:List UInt8)(t' n':Int)(l':List UInt8):Int :=
 if chk t n l≠0 then chk t n l else if chk t' n' l'≠0 then chk t' n' l' else if t≠t' then 8 else 0
def cmpN(t n:Int)(l:List UInt8)(t' n':Int)(l':List UInt8):Int :=
 if cmpE t n l t' n' l'≠0 then 0 else if t=3 then cmpS l l' else cmpI n n'
theorem zfg{a b j:Int}{x:Value}(ha:a=b)(hx:x=errV j):Ending.returned (.tuple #[.int .i64 a,x])=.returned (.tuple #[.int .i64 b,errV j]):=by rw[ha,hx]

theorem zdH(t n:Int)(s:ByteArray)(t' n':Int)(s':ByteArray)(w:World)(hs:s.size≤maxLen)(hs':s'.size≤maxLen) :
  Calls Tryz.prog 216 #[.agg #[.int .i64 t,.int .i64 n,.string s],.agg #[.int .i64 t',.int .i64 n',.string s']] w fun e w'=>e=.returned (.tuple #[.int .i64 (cmpN t n s.data.toList t' n' s'.data.toList),errV (cmpE t n s.data.toList t' n' s'.data.toList)])∧Below w.heap.size w w':=by
 by_cases h1:chk t n s.data.toList=0
 ·by_cases h2:chk t' n' s'.data.toList=0
  ·have H1:Hid (chk t n s.data.toList=0):=h1
   have H2:Hid (chk t' n' s'.data.toList=0):=h2
   have HE:Hid (cmpE t n s.data.toList t' n' s'.data.toList=if t≠t' then 8 else 0):=by rw[cmpE,if_neg (by simp[h1]),if_neg (by simp[h2])];exact rfl
   clear h1 h2
   go_enter Tryz.func216,Tryz.ntmps216
   go_wp2_with fail
   refine (zgg _ _ _ _ hs H1.out).mono ?_
   rintro e w1 ⟨rfl,b1⟩
   obtain⟨hc,hf⟩:=bcell b1
   have hz:w.heap.size+1<w1.heap.size:=by have:=b1.size;simp at this;omega
   have hy:w.heap.size<w1.heap.size:=by omega
   go_wp2_with fail
   refine (zgg _ _ _ _ hs' H2.out).mono ?_
   rintro e w2 ⟨rfl,b2⟩
   obtain⟨hc2,hf2⟩:=bcell b2
   have hz2:w.heap.size+1<w2.heap.size:=by have:=b2.size;omega
   by_cases ht:t=t'
   ·subst ht
    have hE:cmpE t n s.data.toList t n' s'.data.toList=0:=by rw[HE.out,if_neg (by simp)]
    by_cases h3:t=3
    ·subst h3
     have HN:Hid (cmpN 3 n s.data.toList 3 n' s'.data.toList=cmpS s.data.toList s'.data.toList):=by rw[cmpN,if_neg (by simp[hE]),if_pos rfl];exact rfl
     have HE2:Hid (cmpE 3 n s.data.toList 3 n' s'.data.toList=0):=hE
     clear hE HE
     go_wp2_with fail
     refine (zqo s s' _).mono ?_
     rintro e w3 ⟨rfl,rfl⟩
     go_wp2
     go_ret2
     refine⟨zfg HN.out.symm (by rw[HE2.out,errV,if_pos rfl];rfl),?_⟩
     exact (((Below.refl _ _).alloc (Nat.le_refl _) _).alloc (by simp) _).trans ((b1.mono (by simp;omega)).trans (b2.mono (by omega)))
    ·have HN:Hid (cmpN t n s.data.toList t n' s'.data.toList=cmpI n n'):=by rw[cmpN,if_neg (by simp[hE]),if_neg h3];exact rfl
     have HE2:Hid (cmpE t n s.data.toList t n' s'.data.toList=0):=hE
     clear hE HE
     have e3:(t == 3)=false:=by simpa using h3
     go_wp2_with fail
     refine (zmX n n' _).mono ?_
     rintro e w3 ⟨rfl,rfl⟩
     go_wp2
     go_ret2
     refine⟨zfg HN.out.symm (by rw[HE2.out,errV,if_pos rfl];rfl),?_⟩
     exact (((Below.refl _ _).alloc (Nat.le_refl _) _).alloc (by simp) _).trans ((b1.mono (by simp;omega)).trans (b2.mono (by omega)))
   ·have hE:cmpE t n s.data.toList t' n' s'.data.toList=8:=by rw[HE.out,if_pos ht]
    have HN:Hid (cmpN t n s.data.toList t' n' s'.data.toList=0):=by rw[cmpN,if_pos (by rw[hE];decide)];exact rfl
    have HE2:Hid (cmpE t n s.data.toList t' n' s'.data.toList=8):=hE
    clear hE HE
    have et:(t != t')=true:=by simpa using ht
    go_wp2
    go_ret2
    refine⟨zfg HN.out.symm (by rw[HE2.out,errV,if_neg (by decide)];rfl),?_⟩
    exact (((Below.refl _ _).alloc (Nat.le_refl _) _).alloc (by simp) _).trans ((b1.mono (by simp;omega)).trans (b2.mono (by omega)))
  ·have H1:Hid (chk t n s.data.toList=0):=h1
   have H2:Hid (chk t' n' s'.data.toList≠0):=h2
   have HE:Hid (cmpE t n s.data.toList t' n' s'.data.toList=chk t' n' s'.data.toList):=by rw[cmpE,if_neg (by simp[h1]),if_pos h2];exact rfl
   clear h1 h2
   go_enter Tryz.func216,Tryz.ntmps216
   go_wp2_with fail
   refine (zgg _ _ _ _ hs H1.out).mono ?_
   rintro e w1 ⟨rfl,b1⟩
   obtain⟨hc,hf⟩:=bcell b1
   have hz:w.heap.size+1<w1.heap.size:=by have:=b1.size;simp at this;omega
   have hy:w.heap.size<w1.heap.size:=by omega
   go_wp2_with fail
   refine (zea _ _ _ _ hs' H2.out).mono ?_
   rintro e w2 ⟨rfl,b2⟩
   go_wp2
   go_ret2
   refine⟨?_,?_⟩
   ·have hE:=HE.out
    refine zfg ?_ ?_
    ·rw[cmpN,if_pos (by rw[hE];exact H2.out)]
    ·rw[hE,errV,if_neg H2.out];rfl
   ·exact (((Below.refl _ _).alloc (Nat.le_refl _) _).alloc (by simp) _).trans ((b1.mono (by simp;omega)).trans (b2.mono (by omega)))
 ·have H1:Hid (chk t n s.data.toList≠0):=h1
  have HE:Hid (cmpE t n s.data.toList t' n' s'.data.toList=chk t n s.data.toList):=by rw[cmpE,if_pos h1];exact rfl
  clear h1
  go_enter Tryz.func216,Tryz.ntmps216
  go_wp2_with fail
  refine (zea _ _ _ _ hs H1.out).mono ?_
  rintro e w1 ⟨rfl,b1⟩
  go_wp2
  go_ret2
  refine⟨?_,?_⟩
  ·have hE:=HE.out
   refine zfg ?_ ?_
   ·rw[cmpN,if_pos (by rw[hE];exact H1.out)]
   ·rw[hE,errV,if_neg H1.out];rfl
  ·exact (((Below.refl _ _).alloc (Nat.le_refl _) _).alloc (by simp) _).trans (b1.mono (by simp;omega))
structure Env(w:World):Prop where
 tab : Lib.TabIs Tryz.prog w "internal/strconv.uint64pow10" .u64 Lib.pow10Tab
 syn : ∃ tp p, w.var? Tryz.prog "strconv.ErrSyntax" = some #[.iface tp p]
 ran : ∃ tp p, w.var? Tryz.prog "strconv.ErrRange" = some #[.iface tp p]
 big:9<w.heap.size∧5<w.heap.size∧6<w.heap.size
theorem g_tab : Tryz.prog.globalNamed "internal/strconv.uint64pow10" = some 9 := by kernel_rfl
theorem g_syn : Tryz.prog.globalNamed "strconv.ErrSyntax" = some 5 := by kernel_rfl
theorem g_ran : Tryz.prog.globalNamed "strconv.ErrRange" = some 6 := by kernel_rfl
theorem Env.on{w w':World}(h:Env w)(hb:Below w.heap.size w w'):Env w':=by
 have hbig:=h.big
 refine⟨?_,?_,?_,?_⟩
 ·exact var?_below hb g_tab (by omega) h.tab
 ·obtain⟨tp,p,hv⟩:=h.syn;exact⟨tp,p,var?_below hb g_syn (by omega) hv⟩
 ·obtain⟨tp,p,hv⟩:=h.ran;exact⟨tp,p,var?_below hb g_ran (by omega) hv⟩
 ·have:=hb.size;omega
theorem Env.alloc{w:World}(h:Env w)(o:Obj):Env (w.alloc o):=h.on ((Below.refl _ _).alloc (Nat.le_refl _) o)

def shown(t n:Int)(l:List UInt8):List UInt8 :=
 if t=1 then Lib.itoa n
 else if t=2 then (if n=1 then [116,114,117,101] else [102,97,108,115,101])
 else 39::(esc l++[39])
theorem zfq{w w':World}(h:∃k os,w'=Sort.grow (w.drewN k) os):Below w.heap.size w w':=by
 obtain⟨k,os,rfl⟩:=h
 exact Lib.below_grow _ w (Nat.le_refl _) k os
theorem zcO(s:ByteArray)(n:Int)(w:World)(hs:s.size≤140737488355328)(h:Lib.atoiAll s.data.toList=.ok n) :
  Calls Tryz.prog 92 #[.string s] w fun e w'=>e=.returned (.tuple #[.int .i64 n,.nilIface])∧Below w.heap.size w w' :=
 (Tryz.strconv_Atoi_ok s (by omega) n h w).mono fun e w' hh=>⟨hh.1,(by
  rcases hh.2 with rfl|⟨t,rfl⟩
  ·exact Below.refl _ _
  ·exact Lib.bytesWorld_below _ _ _)⟩
theorem zcd(s:ByteArray)(w:World)(hs:s.size≤140737488355328)(h:∀n,Lib.atoiAll s.data.toList≠.ok n)(henv:Env w) :
  Calls Tryz.prog 92 #[.string s] w fun e w'=>∃n t v,e=.returned (.tuple #[.int .i64 n,.iface t v])∧Below w.heap.size w w':=by
 cases hh:Lib.atoiAll s.data.toList
 ·exact absurd hh (h _)
 ·obtain⟨tp,p,hv⟩:=henv.syn
  exact (Any.strconv_Atoi_syntax_var Tryz.laysC172 s (by omega) hh tp p w hv).mono fun e w' ⟨N,he,_,_,hb⟩=>⟨_,_,_,he,hb⟩
 ·obtain⟨tp,p,hv⟩:=henv.ran
  exact (Any.strconv_Atoi_range_var Tryz.laysC172 s (by omega) hh tp p w hv).mono fun e w' ⟨N,he,_,_,hb⟩=>⟨_,_,_,he,hb⟩

theorem zhR{w w1 w2:World}{o:Obj}(b1:Below (w.alloc o).heap.size (w.alloc o) w1)(b2:Below w1.heap.size w1 w2):Below w.heap.size w w2:=by
 have:=b1.size
 simp at this
 exact ((Below.refl _ _).alloc (Nat.le_refl _) _).trans ((b1.mono (by simp)).trans (b2.mono (by omega)))
theorem zaV{w w1:World}{o:Obj}(b1:Below (w.alloc o).heap.size (w.alloc o) w1):Below w.heap.size w w1 :=
 ((Below.refl _ _).alloc (Nat.le_refl _) _).trans (b1.mono (by simp))

theorem zir(s:ByteArray)(n:Int)(w:World)(hs:s.size≤140737488355328)(hn:-9223372036854775808≤n∧n≤9223372036854775807)(h:Lib.atoiAll s.data.toList=.ok n)(hi:Lib.itoa n=s.data.toList)(henv:Env w) :
  Calls Tryz.prog 147 #[.string s] w fun e w'=>e=.returned (.tuple #[.agg #[.int .i64 1,.int .i64 n,.string ⟨#[]⟩],.nilIface])∧Below w.heap.size w w':=by
 have H:Hid (Lib.atoiAll s.data.toList=.ok n):=h
 have he:(⟨(Lib.itoa n).toArray⟩:ByteArray)=s:=by rw[hi]
 have HE:Hid ((⟨(Lib.itoa n).toArray⟩:ByteArray)=s):=he
 clear h he hi
 go_enter Tryz.func147,Tryz.ntmps147
 go_wp2_with fail
 refine (zcO s n _ hs H.out).mono ?_
 rintro e w1 ⟨rfl,b1⟩
 obtain⟨hc,hf⟩:=bcell b1
 have hy:w.heap.size<w1.heap.size:=by have:=b1.size;simp at this;omega
 go_wp2_with fail
 refine (Tryz.strconv_Itoa n hn.1 hn.2 _ ((henv.alloc _).on b1).tab).mono ?_
 rintro e w2 ⟨rfl,h2⟩
 have b2:=zfq h2
 clear h2
 rw[HE.out]
 obtain⟨hc2,hf2⟩:=bcell b2
 go_wp2
 refine bodyPost_ret (v:=.tuple #[.agg #[.int .i64 1,.int .i64 n,.string ⟨#[]⟩],.nilIface]) (by simp[results,Tryz.results147,go_sem,hc,hc2,hy]) rfl ⟨rfl,?_⟩
 exact ((((zhR b1 b2).setCell (Nat.le_refl _) _).setCell (Nat.le_refl _) _).setCell (Nat.le_refl _) _)

theorem zev(s:ByteArray)(n:Int)(w:World)(hs:s.size≤140737488355328)(hn:-9223372036854775808≤n∧n≤9223372036854775807)(h:Lib.atoiAll s.data.toList=.ok n)(hi:Lib.itoa n≠s.data.toList)(henv:Env w) :
  Calls Tryz.prog 147 #[.string s] w fun e w'=>e=.returned (.tuple #[.agg #[.int .i64 0,.int .i64 0,.string ⟨#[]⟩],.iface 35 (.int .i64 2)])∧Below w.heap.size w w':=by
 have H:Hid (Lib.atoiAll s.data.toList=.ok n):=h
 obtain⟨I,hI⟩:∃I:ByteArray,I=⟨(Lib.itoa n).toArray⟩:=⟨_,rfl⟩
 have hq:(I.toList == s.toList)=false:=by
  rw[hI,Lib.toList_data,Lib.toList_data]
  simpa using hi
 have HI:Hid (I=⟨(Lib.itoa n).toArray⟩):=hI
 clear h hI hi
 go_enter Tryz.func147,Tryz.ntmps147
 go_wp2_with fail
 refine (zcO s n _ hs H.out).mono ?_
 rintro e w1 ⟨rfl,b1⟩
 obtain⟨hc,hf⟩:=bcell b1
 have hy:w.heap.size<w1.heap.size:=by have:=b1.size;simp at this;omega
 go_wp2_with fail
 refine (Tryz.strconv_Itoa n hn.1 hn.2 _ ((henv.alloc _).on b1).tab).mono ?_
 rintro e w2 ⟨rfl,h2⟩
 have b2:=zfq h2
 clear h2
 rw[←HI.out]
 obtain⟨hc2,hf2⟩:=bcell b2
 go_wp2
 refine bodyPost_ret (v:=.tuple #[.agg #[.int .i64 0,.int .i64 0,.string ⟨#[]⟩],.iface 35 (.int .i64 2)]) (by simp[results,Tryz.results147,go_sem,hc,hc2,hy]) rfl ⟨rfl,?_⟩
 exact ((((zhR b1 b2).setCell (Nat.le_refl _) _).setCell (Nat.le_refl _) _).setCell (Nat.le_refl _) _)
theorem zcu(s:ByteArray)(w:World)(hs:s.size≤140737488355328)(h:∀n,Lib.atoiAll s.data.toList≠.ok n)(henv:Env w) :
  Calls Tryz.prog 147 #[.string s] w fun e w'=>e=.returned (.tuple #[.agg #[.int .i64 0,.int .i64 0,.string ⟨#[]⟩],.iface 35 (.int .i64 2)])∧Below w.heap.size w w':=by
 have H:Hid (∀n,Lib.atoiAll s.data.toList≠.ok n):=h
 clear h
 go_enter Tryz.func147,Tryz.ntmps147
 go_wp2_with fail
 refine (zcd s _ hs H.out (henv.alloc _)).mono ?_
 rintro e w1 ⟨n,t,v,rfl,b1⟩
 obtain⟨hc,hf⟩:=bcell b1
 have hy:w.heap.size<w1.heap.size:=by have:=b1.size;simp at this;omega
 go_wp2
 refine bodyPost_ret (v:=.tuple #[.agg #[.int .i64 0,.int .i64 0,.string ⟨#[]⟩],.iface 35 (.int .i64 2)]) (by simp[results,Tryz.results147,go_sem,hc]) rfl ⟨rfl,?_⟩
 exact ((((zaV b1).setCell (Nat.le_refl _) _).setCell (Nat.le_refl _) _).setCell (Nat.le_refl _) _)

theorem zew(s:ByteArray)(w:World)(hs:s.size≤140737488355328)(h:unqT s=none) :
  Calls Tryz.prog 146 #[.string s] w fun e w'=>e=.returned (.tuple #[.agg #[.int .i64 0,.int .i64 0,.string ⟨#[]⟩],.iface 35 (.int .i64 2)])∧Below w.heap.size w w':=by
 have H:Hid (unqT s=none):=h
 clear h
 go_enter Tryz.func146,Tryz.ntmps146
 go_wp2_with fail
 refine (zhd s _ hs H.out).mono ?_
 rintro e w1 ⟨rfl,b1⟩
 obtain⟨hc,hf⟩:=bcell b1
 have hy:w.heap.size<w1.heap.size:=by have:=b1.size;simp at this;omega
 go_wp2
 refine bodyPost_ret (v:=.tuple #[.agg #[.int .i64 0,.int .i64 0,.string ⟨#[]⟩],.iface 35 (.int .i64 2)]) (by simp[results,Tryz.results146,go_sem,hc]) rfl ⟨rfl,?_⟩
 exact ((((zaV b1).setCell (Nat.le_refl _) _).setCell (Nat.le_refl _) _).setCell (Nat.le_refl _) _)

theorem zex(s:ByteArray)(l:List UInt8)(w:World)(hs:s.size≤140737488355328)(h:unqT s=some l)(hl:l.length≤140737488355328) :
  Calls Tryz.prog 146 #[.string s] w fun e w'=>e=.returned (.tuple (if zay l=false then #[.agg #[.int .i64 0,.int .i64 0,.string ⟨#[]⟩],.iface 35 (.int .i64 2)]
   else if 40<l.length then #[.agg #[.int .i64 0,.int .i64 0,.string ⟨#[]⟩],.iface 35 (.int .i64 4)] else #[.agg #[.int .i64 3,.int .i64 0,.string ⟨l.toArray⟩],.nilIface]))∧Below w.heap.size w w':=by
 have H:Hid (unqT s=some l):=h
 clear h
 have hll:(⟨l.toArray⟩:ByteArray).size=l.length:=rfl
 by_cases hp:zay l=false
 ·rw[if_pos hp]
  have HP:Hid (zay (⟨l.toArray⟩:ByteArray).data.toList=false):=hp
  clear hp
  go_enter Tryz.func146,Tryz.ntmps146
  go_wp2_with fail
  refine (zbB s l _ hs H.out).mono ?_
  rintro e w1 ⟨rfl,b1⟩
  obtain⟨hc,hf⟩:=bcell b1
  have hy:w.heap.size<w1.heap.size:=by have:=b1.size;simp at this;omega
  go_wp2_with fail
  refine (zaD _ _ (by rw[hll];unfold maxLen;omega)).mono ?_
  rintro e w2 ⟨rfl,rfl⟩
  rw[HP.out]
  go_wp2
  refine bodyPost_ret (v:=.tuple #[.agg #[.int .i64 0,.int .i64 0,.string ⟨#[]⟩],.iface 35 (.int .i64 2)]) (by simp[results,Tryz.results146,go_sem,hc]) rfl ⟨rfl,?_⟩
  exact ((((zaV b1).setCell (Nat.le_refl _) _).setCell (Nat.le_refl _) _).setCell (Nat.le_refl _) _)
 ·rw[if_neg hp]
  have hp2:zay l=true:=by simpa using hp
  have HP:Hid (zay (⟨l.toArray⟩:ByteArray).data.toList=true):=hp2
  clear hp2
  clear hp
  by_cases h4:40<l.length
  ·rw[if_pos h4]
   go_enter Tryz.func146,Tryz.ntmps146
   go_wp2_with fail
   refine (zbB s l _ hs H.out).mono ?_
   rintro e w1 ⟨rfl,b1⟩
   obtain⟨hc,hf⟩:=bcell b1
   have hy:w.heap.size<w1.heap.size:=by have:=b1.size;simp at this;omega
   go_wp2_with fail
   refine (zaD _ _ (by rw[hll];unfold maxLen;omega)).mono ?_
   rintro e w2 ⟨rfl,rfl⟩
   rw[HP.out]
   go_wp2
   refine bodyPost_ret (v:=.tuple #[.agg #[.int .i64 0,.int .i64 0,.string ⟨#[]⟩],.iface 35 (.int .i64 4)]) (by simp[results,Tryz.results146,go_sem,hc]) rfl ⟨rfl,?_⟩
   exact ((((zaV b1).setCell (Nat.le_refl _) _).setCell (Nat.le_refl _) _).setCell (Nat.le_refl _) _)
  ·rw[if_neg h4]
   go_enter Tryz.func146,Tryz.ntmps146
   go_wp2_with fail
   refine (zbB s l _ hs H.out).mono ?_
   rintro e w1 ⟨rfl,b1⟩
   obtain⟨hc,hf⟩:=bcell b1
   have hy:w.heap.size<w1.heap.size:=by have:=b1.size;simp at this;omega
   go_wp2_with fail
   refine (zaD _ _ (by rw[hll];unfold maxLen;omega)).mono ?_
   rintro e w2 ⟨rfl,rfl⟩
   rw[HP.out]
   go_wp2
   refine bodyPost_ret (v:=.tuple #[.agg #[.int .i64 3,.int .i64 0,.string ⟨l.toArray⟩],.nilIface]) (by simp[results,Tryz.results146,go_sem,hc]) rfl ⟨rfl,?_⟩
   exact ((((zaV b1).setCell (Nat.le_refl _) _).setCell (Nat.le_refl _) _).setCell (Nat.le_refl _) _)

def readV(s:ByteArray):Int×Int×List UInt8×Int :=
 if s.data.toList=[116,114,117,101] then (2,1,[],0)
 else if s.data.toList=[102,97,108,115,101] then (2,0,[],0)
 else if Lib.hasPrefix s.data.toList [39]=true then
  (match unqT s with
  | none=>(0,0,[],2)
  | some l=>if zay l=false then (0,0,[],2) else if 40<l.length then (0,0,[],4) else (3,0,l,0))
 else (match Lib.atoiAll s.data.toList with
  | .ok n=>if Lib.itoa n=s.data.toList then (1,n,[],0) else (0,0,[],2)
  | _=>(0,0,[],2))
def readR(r:Int×Int×List UInt8×Int):Value:=.tuple #[.agg #[.int .i64 r.1,.int .i64 r.2.1,.string ⟨r.2.2.1.toArray⟩],errV r.2.2.2]

theorem zpI{s:ByteArray}{l:List UInt8}(h:unqT s=some l):l.length≤s.size:=by
 rw[unqT] at h
 split at h
 ·split at h
  ·have h1:=zsx _ _ h
   rw[rest] at h1
   simp at h1
   omega
  ·cases h
 ·cases h
theorem zdC{s:ByteArray}{n:Int}(h:Lib.atoiAll s.data.toList=.ok n):-9223372036854775808≤n∧n≤9223372036854775807:=by
 have:=Lib.atoiAll_bounds h
 omega

theorem zbI{s:ByteArray}{l:List UInt8}(h:s.data.toList=l):s=⟨l.toArray⟩:=by subst h;simp
theorem zkq(s:ByteArray)(w:World)(h:s.data.toList=[116,114,117,101]) :
  Calls Tryz.prog 113 #[.string s] w fun e w'=>e=.returned (.tuple #[.agg #[.int .i64 2,.int .i64 1,.string ⟨#[]⟩],.nilIface])∧Below w.heap.size w w':=by
 obtain rfl:s=⟨#[116,114,117,101]⟩:=zbI h
 clear h
 go_enter Tryz.func113,Tryz.ntmps113
 go_wp2
 exact bodyPost_ret (v:=.tuple #[.agg #[.int .i64 2,.int .i64 1,.string ⟨#[]⟩],.nilIface]) (by simp[results,Tryz.results113,go_sem]) rfl ⟨rfl,(Below.refl _ _).alloc (Nat.le_refl _) _⟩
theorem zis(s:ByteArray)(w:World)(h:s.data.toList=[102,97,108,115,101]) :
  Calls Tryz.prog 113 #[.string s] w fun e w'=>e=.returned (.tuple #[.agg #[.int .i64 2,.int .i64 0,.string ⟨#[]⟩],.nilIface])∧Below w.heap.size w w':=by
 obtain rfl:s=⟨#[102,97,108,115,101]⟩:=zbI h
 clear h
 go_enter Tryz.func113,Tryz.ntmps113
 go_wp2
 exact bodyPost_ret (v:=.tuple #[.agg #[.int .i64 2,.int .i64 0,.string ⟨#[]⟩],.nilIface]) (by simp[results,Tryz.results113,go_sem]) rfl ⟨rfl,(Below.refl _ _).alloc (Nat.le_refl _) _⟩
theorem zbP(s x:ByteArray)(t n:Int)(er:Value)(w:World)(h1:s.data.toList≠[116,114,117,101])(h2:s.data.toList≠[102,97,108,115,101])(h3:Lib.hasPrefix s.data.toList [39]=true) 
  (hc0:∀W:World,Calls Tryz.prog 146 #[.string s] W fun e w'=>e=.returned (.tuple #[.agg #[.int .i64 t,.int .i64 n,.string x],er])∧Below W.heap.size W w') :
  Calls Tryz.prog 113 #[.string s] w fun e w'=>e=.returned (.tuple #[.agg #[.int .i64 t,.int .i64 n,.string x],er])∧Below w.heap.size w w':=by
 have q1:(s.toList == [116,114,117,101])=false:=by rw[Lib.toList_data];simpa using h1
 have q2:(s.toList == [102,97,108,115,101])=false:=by rw[Lib.toList_data];simpa using h2
 have H3:Hid (Lib.hasPrefix s.data.toList [39]=true):=h3
 have HC:=hc0
 clear hc0 h1 h2 h3
 go_enter Tryz.func113,Tryz.ntmps113
 go_wp2_with fail
 refine (Tryz.strings_HasPrefix s ⟨#[39]⟩ _).mono ?_
 rintro e w0 ⟨rfl,rfl⟩
 rw[show Lib.hasPrefix s.data.toList (⟨#[39]⟩:ByteArray).data.toList=true from H3.out]
 go_wp2_with fail
 refine (HC _).mono ?_
 rintro e w1 ⟨rfl,b1⟩
 obtain⟨hc,hf⟩:=bcell b1
 have hy:w.heap.size<w1.heap.size:=by have:=b1.size;simp at this;omega
 go_wp2
 refine bodyPost_ret (v:=.tuple #[.agg #[.int .i64 t,.int .i64 n,.string x],er]) (by simp[results,Tryz.results113,go_sem,hc]) rfl ⟨rfl,?_⟩
 exact ((((zaV b1).setCell (Nat.le_refl _) _).setCell (Nat.le_refl _) _).setCell (Nat.le_refl _) _)
theorem zcI(s x:ByteArray)(t n:Int)(er:Value)(w:World)(h1:s.data.toList≠[116,114,117,101])(h2:s.data.toList≠[102,97,108,115,101])(h3:Lib.hasPrefix s.data.toList [39]=false)(henv:Env w)
  (hc0:∀W:World,Env W→Calls Tryz.prog 147 #[.string s] W fun e w'=>e=.returned (.tuple #[.agg #[.int .i64 t,.int .i64 n,.string x],er])∧Below W.heap.size W w') :
  Calls Tryz.prog 113 #[.string s] w fun e w'=>e=.returned (.tuple #[.agg #[.int .i64 t,.int .i64 n,.string x],er])∧Below w.heap.size w w':=by
 have q1:(s.toList == [116,114,117,101])=false:=by rw[Lib.toList_data];simpa using h1
 have q2:(s.toList == [102,97,108,115,101])=false:=by rw[Lib.toList_data];simpa using h2
 have H3:Hid (Lib.hasPrefix s.data.toList [39]=false):=h3
 have HC:=hc0
 clear hc0 h1 h2 h3
 go_enter Tryz.func113,Tryz.ntmps113
 go_wp2_with fail
 refine (Tryz.strings_HasPrefix s ⟨#[39]⟩ _).mono ?_
 rintro e w0 ⟨rfl,rfl⟩
 rw[show Lib.hasPrefix s.data.toList (⟨#[39]⟩:ByteArray).data.toList=false from H3.out]
 go_wp2_with fail
 refine (HC _ (henv.alloc _)).mono ?_
 rintro e w1 ⟨rfl,b1⟩
 obtain⟨hc,hf⟩:=bcell b1
 have hy:w.heap.size<w1.heap.size:=by have:=b1.size;simp at this;omega
 go_wp2
 refine bodyPost_ret (v:=.tuple #[.agg #[.int .i64 t,.int .i64 n,.string x],er]) (by simp[results,Tryz.results113,go_sem,hc]) rfl ⟨rfl,?_⟩
 exact ((((zaV b1).setCell (Nat.le_refl _) _).setCell (Nat.le_refl _) _).setCell (Nat.le_refl _) _)

theorem zey(s:ByteArray)(w:World)(hs:s.size≤140737488355328)(henv:Env w) :
  Calls Tryz.prog 113 #[.string s] w fun e w'=>e=.returned (readR (readV s))∧Below w.heap.size w w':=by
 by_cases h1:s.data.toList=[116,114,117,101]
 ·rw[readV,if_pos h1];exact zkq s w h1
 ·by_cases h2:s.data.toList=[102,97,108,115,101]
  ·rw[readV,if_neg h1,if_pos h2];exact zis s w h2
  ·by_cases h3:Lib.hasPrefix s.data.toList [39]=true
   ·rw[readV,if_neg h1,if_neg h2,if_pos h3]
    cases hu:unqT s with
    | none=>exact zbP s ⟨#[]⟩ 0 0 _ w h1 h2 h3 fun W=>zew s W hs hu
    | some l =>
     have hl:=zpI hu
     have hp:=fun W=>zex s l W hs hu (by omega)
     by_cases p1:zay l=false
     ·simp only[if_pos p1] at hp ⊢
      exact zbP s ⟨#[]⟩ 0 0 _ w h1 h2 h3 hp
     ·simp only[if_neg p1] at hp ⊢
      by_cases p2:40<l.length
      ·simp only[if_pos p2] at hp ⊢
       exact zbP s ⟨#[]⟩ 0 0 _ w h1 h2 h3 hp
      ·simp only[if_neg p2] at hp ⊢
       exact zbP s ⟨l.toArray⟩ 3 0 _ w h1 h2 h3 hp
   ·have h3':Lib.hasPrefix s.data.toList [39]=false:=by simpa using h3
    rw[readV,if_neg h1,if_neg h2,if_neg h3]
    cases ha:Lib.atoiAll s.data.toList
    ·rename_i n
     have hn:=zdC ha
     by_cases hi:Lib.itoa n=s.data.toList
     ·simp only[if_pos hi]
      exact zcI s ⟨#[]⟩ 1 n _ w h1 h2 h3' henv fun W he=>zir s n W hs hn ha hi he
     ·simp only[if_neg hi]
      exact zcI s ⟨#[]⟩ 0 0 _ w h1 h2 h3' henv fun W he=>zev s n W hs hn ha hi he
    ·exact zcI s ⟨#[]⟩ 0 0 _ w h1 h2 h3' henv fun W he=>zcu s W hs (fun n e=>by rw[ha] at e;cases e) he
    ·exact zcI s ⟨#[]⟩ 0 0 _ w h1 h2 h3' henv fun W he=>zcu s W hs (fun n e=>by rw[ha] at e;cases e) he
theorem ziw(l:List UInt8)(s:ByteArray)(h:unqT s=some l):s.data.toList=39::(esc l++[39]):=by
 rw[unqT] at h
 split at h
 ·rename_i h2
  split at h
  ·rename_i h3
   have he:=zbJ _ _ l (Nat.le_refl _) h
   have a0:s[0]=39:=UInt8.toNat_inj.1 (by rw[show (39:UInt8).toNat=39 from rfl];omega)
   have az:s[s.size-1]=39:=UInt8.toNat_inj.1 (by rw[show (39:UInt8).toNat=39 from rfl];omega)
   rw[←he,rest]
   have hl:s.data.toList.length=s.size:=by simp
   apply List.ext_getElem
   ·simp;omega
   ·intro i h1 h4
    rcases Nat.eq_zero_or_pos i with rfl|hi
    ·exact a0
    ·obtain⟨k,rfl⟩:∃k,i=k+1:=⟨i-1,by omega⟩
     by_cases hk:k+2<s.size
     ·rw[List.getElem_cons_succ,List.getElem_append_left (by simp;omega)]
      simp
     ·have hk2:k+1=s.size-1:=by omega
      rw[List.getElem_cons_succ,List.getElem_append_right (by simp;omega)]
      simp only[List.getElem_singleton]
      have:s.data.toList[k+1]=s[s.size-1]:=by
       simp only[hk2]
       rfl
      rw[this,az]
  ·cases h
 ·cases h

theorem zkN(t n:Int)(l:List UInt8)(s:ByteArray)(h:readV s=(t,n,l,0)):chk t n l=0∧shown t n l=s.data.toList∧l.length≤40∧-9223372036854775808≤n∧n≤9223372036854775807:=by
 rw[readV] at h
 split at h
 ·rename_i h1
  injection h with e1 h;injection h with e2 h;injection h with e3 _
  subst e1 e2 e3
  exact⟨by decide,by rw[h1];rfl,by simp,by decide,by decide⟩
 ·split at h
  ·rename_i h1
   injection h with e1 h;injection h with e2 h;injection h with e3 _
   subst e1 e2 e3
   exact⟨by decide,by rw[h1];rfl,by simp,by decide,by decide⟩
  ·split at h
   ·split at h
    ·injection h with e1 h;injection h with e2 h;injection h with e3 e4
     exact absurd e4 (by decide)
    ·rename_i l' hu
     split at h
     ·injection h with e1 h;injection h with e2 h;injection h with e3 e4
      exact absurd e4 (by decide)
     ·rename_i hp
      split at h
      ·injection h with e1 h;injection h with e2 h;injection h with e3 e4
       exact absurd e4 (by decide)
      ·rename_i hl
       injection h with e1 h;injection h with e2 h;injection h with e3 _
       subst e1 e2 e3
       refine⟨?_,?_,by omega,by decide,by decide⟩
       ·rw[chk,if_neg (by omega),if_neg (fun e=>hl e.2),if_neg (fun e=>hp e.2),if_neg (by omega)]
       ·rw[shown,if_neg (by decide),if_neg (by decide),ziw _ s hu]
   ·split at h
    ·rename_i m ha
     split at h
     ·rename_i hi
      injection h with e1 h;injection h with e2 h;injection h with e3 _
      subst e1 e2 e3
      have hb:=zdC ha
      refine⟨?_,?_,by simp,hb.1,hb.2⟩
      ·rw[chk,if_neg (by omega),if_neg (by simp),if_neg (by decide),if_neg (by simp)]
      ·rw[shown,if_pos rfl,hi]
     ·injection h with e1 h;injection h with e2 h;injection h with e3 e4
      exact absurd e4 (by decide)
    ·injection h with e1 h;injection h with e2 h;injection h with e3 e4
     exact absurd e4 (by decide)

def rd:List UInt8→Option (List UInt8)
 | []=>none
 | c::l =>
  if c=39 then
   match l with
   | []=>some []
   | d::r=>if d=39 then (rd r).map (39::·) else none
  else (rd l).map (c::·)
theorem zmr:rd []=none:=by simp[rd]
theorem rd_ne(c:UInt8)(l:List UInt8)(h:c≠39):rd (c::l)=(rd l).map (c::·):=by cases l<;>simp[rd,h]
theorem zms(r:List UInt8):rd (39::39::r)=(rd r).map (39::·):=by simp[rd]
theorem zpl(d:UInt8)(r:List UInt8)(h:d≠39):rd (39::d::r)=none:=by simp[rd,h]
theorem zrM:rd [39]=some []:=by simp[rd]
theorem ztw(k:Nat):∀m:List UInt8,m.length≤k→rd (m++[39])=unq m∧∀c,c≠39→rd (m++[c])=none:=by
 induction k with
 | zero =>
  intro m hm
  obtain rfl:m=[]:=List.length_eq_zero_iff.1 (by omega)
  exact⟨by simp[zrM,unq],fun c hc=>by rw[List.nil_append,rd_ne c [] hc,zmr];rfl⟩
 | succ k ih =>
  intro m hm
  cases m with
  | nil=>exact⟨by simp[zrM,unq],fun c hc=>by rw[List.nil_append,rd_ne c [] hc,zmr];rfl⟩
  | cons a m =>
   by_cases ha:a=39
   ·subst ha
    cases m with
    | nil=>exact⟨by rw[znC];exact (zms []).trans (by rw[zmr];rfl),fun c hc=>zpl c [] hc⟩
    | cons d r =>
     by_cases hd:d=39
     ·subst hd
      obtain⟨i1,i2⟩:=ih r (by simp at hm;omega)
      exact⟨by rw[znD,←i1];exact zms _,fun c hc=>(zms (r++[c])).trans (by rw[i2 c hc];rfl)⟩
     ·exact⟨by rw[znB d r hd];exact zpl d _ hd,fun c hc=>zpl d _ hd⟩
   ·obtain⟨i1,i2⟩:=ih m (by simp at hm;omega)
    exact⟨by rw[zpJ a m ha,←i1];exact rd_ne a _ ha,fun c hc=>(rd_ne a (m++[c]) ha).trans (by rw[i2 c hc];rfl)⟩
theorem zlK(s:ByteArray)(h:2≤s.size):s.data.toList.drop 1=rest s 1++[s[s.size-1]]:=by
 have hl:s.data.toList.length=s.size:=by simp
 rw[rest]
 apply List.ext_getElem
 ·simp;omega
 ·intro i h1 h2
  by_cases hk:i+2<s.size
  ·rw[List.getElem_append_left (by simp;omega)]
   simp
  ·rw[List.getElem_append_right (by simp;omega)]
   simp only[List.getElem_singleton,List.getElem_drop]
   have hi:1+i=s.size-1:=by simp at h1;omega
   simp only[hi]
   rfl
theorem znA(s:ByteArray)(h1:0<s.size)(h0:(s[0].toNat:Int)=39):unqT s=rd (s.data.toList.drop 1):=by
 have hl:s.data.toList.length=s.size:=by simp
 by_cases h2:2≤s.size
 ·rw[zlK s h2,unqT,dif_pos h2]
  obtain⟨i1,i2⟩:=ztw _ (rest s 1) (Nat.le_refl _)
  by_cases hz:(s[s.size-1].toNat:Int)=39
  ·rw[if_pos ⟨h0,hz⟩]
   have:s[s.size-1]=39:=UInt8.toNat_inj.1 (by rw[show (39:UInt8).toNat=39 from rfl];omega)
   rw[this,i1]
  ·rw[if_neg (fun e=>hz e.2),i2 _ (fun e=>hz (by rw[e];rfl))]
 ·rw[unqT,dif_neg h2]
  have:s.data.toList.drop 1=[]:=List.drop_eq_nil_of_le (by omega)
  rw[this,zmr]
theorem zaC(s:ByteArray)(j:Nat)(h:j<s.size):s.data.toList.drop j=s[j]::s.data.toList.drop (j+1):=by
 rw[List.drop_eq_getElem_cons (by simpa using h)];rfl
theorem znp(s:ByteArray)(h:0<s.size):Lib.hasPrefix s.data.toList [39]=true↔(s[0].toNat:Int)=39:=by
 have e:s.data.toList=s[0]::s.data.toList.drop 1:=by have:=zaC s 0 h;simpa using this
 rw[e]
 constructor
 ·intro hh
  have:(39:UInt8)=s[0]:=by simpa [Lib.hasPrefix,List.isPrefixOf] using hh
  rw[←this];rfl
 ·intro hh
  have:s[0]=39:=UInt8.toNat_inj.1 (by rw[show (39:UInt8).toNat=39 from rfl];omega)
  rw[this];simp[Lib.hasPrefix,List.isPrefixOf]
theorem zgJ{s:ByteArray}(h1:s.data.toList≠[116,114,117,101])(h2:s.data.toList≠[102,97,108,115,101])(hp:0<s.size)(h0:(s[0].toNat:Int)=39)(h:rd (s.data.toList.drop 1)=none):readV s=(0,0,[],2):=by
 rw[readV,if_neg h1,if_neg h2,if_pos ((znp s hp).2 h0),znA s hp h0,h]
theorem zgK{s:ByteArray}{l:List UInt8}(h1:s.data.toList≠[116,114,117,101])(h2:s.data.toList≠[102,97,108,115,101])(hp:0<s.size)(h0:(s[0].toNat:Int)=39)(h:rd (s.data.toList.drop 1)=some l):readV s=if zay l=false then (0,0,[],2) else if 40<l.length then (0,0,[],4) else (3,0,l,0):=by
 rw[readV,if_neg h1,if_neg h2,if_pos ((znp s hp).2 h0),znA s hp h0,h]
--BEGIN
def blB(c:UInt8):Bool:=decide ((c.toNat:Int)=32)||decide ((c.toNat:Int)=10)
def letB(c:UInt8):Bool:=decide (97≤(c.toNat:Int))&&decide ((c.toNat:Int)≤122)
def ldB(c:UInt8):Bool:=letB c||digB c
def goN(p:UInt8→Bool):List UInt8→Nat
 | []=>0
 | c::l=>if p c=true then goN p l+1 else 0
theorem zdI{p:UInt8→Bool}{c:UInt8}(l:List UInt8)(h:p c=true):goN p (c::l)=goN p l+1:=by rw[goN,if_pos h]
theorem zoB{p:UInt8→Bool}{c:UInt8}(l:List UInt8)(h:p c=false):goN p (c::l)=0:=by rw[goN,if_neg (by rw[h];decide)]
theorem zcW(p:UInt8→Bool):∀l:List UInt8,goN p l≤l.length
 | []=>Nat.le_refl _
 | c::l=>by
  rw[goN]
  split
  ·have:=zcW p l;simp;omega
  ·simp
theorem zcV(p:UInt8→Bool):∀l:List UInt8,(l.take (goN p l)).all p=true
 | []=>rfl
 | c::l=>by
  by_cases h:p c=true
  ·rw[zdI l h,List.take_succ_cons,List.all_cons,h,zcV p l];rfl
  ·rw[zoB l (by simpa using h)];rfl
def hdB(p:UInt8→Bool):List UInt8→Bool
 | []=>false
 | c::_=>p c
theorem zjL(p:UInt8→Bool):∀(t r:List UInt8),t.all p=true→hdB p r=false→goN p (t++r)=t.length
 | [],[],_,_=>rfl
 | [],c::r,_,h=>zoB r h
 | c::t,r,ht,h=>by
  rw[List.all_cons,Bool.and_eq_true] at ht
  rw[List.cons_append,zdI _ ht.1,zjL p t r ht.2 h];rfl
def zaF:List (List UInt8):=[[60,62],[60,61],[62,61],[60],[62],[61],[40],[41],[44],[43],[45],[42],[47],[37]]
def sgN:List (List UInt8)→List UInt8→Nat
 | [],_=>0
 | g::gs,l=>if Lib.hasPrefix l g=true then g.length else sgN gs l
def qscan:List UInt8→Option Nat
 | []=>none
 | c::l =>
  if c=39 then
   match l with
   | []=>some 1
   | d::r=>if d=39 then (qscan r).map (·+2) else some 1
  else (qscan l).map (·+1)
theorem zdm(c:UInt8)(l:List UInt8)(h:c≠39):qscan (c::l)=(qscan l).map (·+1):=by cases l<;>simp[qscan,h]
theorem zbS(r:List UInt8):qscan (39::39::r)=(qscan r).map (·+2):=by simp[qscan]
theorem zbR(l:List UInt8)(h:l.head?≠some 39):qscan (39::l)=some 1:=by
 cases l with
 | nil=>simp[qscan]
 | cons d r=>simp at h;simp[qscan,h]
def qE(l:List UInt8):Int:=match rd l with
 | none=>2
 | some x=>if zay x=false then 2 else if 40<x.length then 4 else 0
def zaU(l:List UInt8):Nat×Int :=
 if hdB letB (l.drop (goN digB l))=true∨(1<goN digB l∧l.head?=some 48) then (0,2)
 else if 9223372036854775807<val10 (l.take (goN digB l)) then (0,1) else (goN digB l,0)
def zbT(l:List UInt8):Nat×Int:=match qscan l with
 | none=>(0,2)
 | some k=>if qE (l.take k)=0 then (k+1,0) else (0,qE (l.take k))
def tokAt:List UInt8→Int×Nat×Int
 | []=>(4,0,2)
 | c::l =>
  if letB c=true then (1,goN ldB (c::l),0)
  else if digB c=true then (2,zaU (c::l))
  else if c=39 then (3,zbT l)
  else (4,sgN zaF (c::l),if sgN zaF (c::l)=0 then 2 else 0)
abbrev Tok:=Int×ByteArray×Nat
def lexN:Nat→Nat→List UInt8→List Tok×Int×Nat
 | 0,_,_=>([],0,0)
 | f+1,a,l =>
  if l=[] then ([],0,0)
  else if (tokAt l).2.2≠0 then ([],(tokAt l).2.2,a)
  else
   if (lexN f (a+(tokAt l).2.1+goN blB (l.drop (tokAt l).2.1)) ((l.drop (tokAt l).2.1).drop (goN blB (l.drop (tokAt l).2.1)))).2.1=0 then
    (((tokAt l).1,⟨(l.take (tokAt l).2.1).toArray⟩,a)::(lexN f (a+(tokAt l).2.1+goN blB (l.drop (tokAt l).2.1)) ((l.drop (tokAt l).2.1).drop (goN blB (l.drop (tokAt l).2.1)))).1,0,0)
   else ([],(lexN f (a+(tokAt l).2.1+goN blB (l.drop (tokAt l).2.1)) ((l.drop (tokAt l).2.1).drop (goN blB (l.drop (tokAt l).2.1)))).2)
def lexA(f a:Nat)(l:List UInt8)(acc:List Tok):List Tok×Int×Nat:=if (lexN f a l).2.1=0 then (acc++(lexN f a l).1,0,0) else ([],(lexN f a l).2)
def lexS(f a:Nat)(l:List UInt8)(acc:List Tok):List Tok×Int×Nat:=lexA f (a+goN blB l) (l.drop (goN blB l)) acc
def zaY(l:List UInt8):List Tok×Int×Nat:=if 400<l.length then ([],4,0) else lexS (l.length+1) 0 l []
theorem zoP(f a:Nat)(acc:List Tok):lexA (f+1) a [] acc=(acc,0,0):=by simp[lexA,lexN]
theorem zoO(f a:Nat)(l:List UInt8)(acc:List Tok)(hl:l≠[]){k:Int}{n:Nat}{e:Int}(h:tokAt l=(k,n,e))(he:e≠0):lexA (f+1) a l acc=([],e,a):=by
 have:lexN (f+1) a l=([],e,a):=by
  rw[lexN,if_neg hl,h,if_pos he]
 rw[lexA,this,if_neg he]
theorem zoQ(f a:Nat)(l:List UInt8)(acc:List Tok)(hl:l≠[]){k:Int}{n:Nat}(h:tokAt l=(k,n,0)):lexA (f+1) a l acc=lexS f (a+n) (l.drop n) (acc++[(k,⟨(l.take n).toArray⟩,a)]):=by
 have hN:lexN (f+1) a l=if (lexN f (a+n+goN blB (l.drop n)) ((l.drop n).drop (goN blB (l.drop n)))).2.1=0 then ((k,⟨(l.take n).toArray⟩,a)::(lexN f (a+n+goN blB (l.drop n)) ((l.drop n).drop (goN blB (l.drop n)))).1,0,0) else ([],(lexN f (a+n+goN blB (l.drop n)) ((l.drop n).drop (goN blB (l.drop n)))).2):=by
  rw[lexN,if_neg hl,h,if_neg (by simp)]
 rw[lexS,lexA,lexA,hN]
 generalize lexN f (a+n+goN blB (l.drop n)) ((l.drop n).drop (goN blB (l.drop n)))=R
 by_cases h0:R.2.1=0
 ·simp only[if_pos h0,if_true,List.append_assoc,List.singleton_append]
 ·simp only[if_neg h0]
theorem zkL:∀(gs:List (List UInt8)) (l:List UInt8),sgN gs l≠0→∃g∈gs,Lib.hasPrefix l g=true∧sgN gs l=g.length
 | [],_,h=>absurd rfl h
 | g::gs,l,h=>by
  rw[sgN] at h ⊢
  by_cases hp:Lib.hasPrefix l g=true
  ·rw[if_pos hp];exact⟨g,List.mem_cons_self,hp,rfl⟩
  ·rw[if_neg hp] at h ⊢
   obtain⟨g',hm,h1,h2⟩:=zkL gs l h
   exact⟨g',List.mem_cons_of_mem _ hm,h1,h2⟩
theorem zeC:∀(n:Nat) (l:List UInt8) (k:Nat),l.length≤n→qscan l=some k→1≤k∧k≤l.length
 | _,[],k,_,h=>by simp[qscan] at h
 | 0,_::_,_,hn,_=>by simp at hn
 | n+1,c::l,k,hn,h=>by
  by_cases hc:c=39
  ·subst hc
   cases l with
   | nil=>simp[qscan] at h;subst h;simp
   | cons d r =>
    by_cases hd:d=39
    ·subst hd
     rw[zbS,Option.map_eq_some_iff] at h
     obtain⟨j,hj,rfl⟩:=h
     have:=zeC n r j (by simp at hn;omega) hj
     simp;omega
    ·rw[zbR _ (by simpa using hd)] at h
     cases h;simp
  ·rw[zdm c l hc,Option.map_eq_some_iff] at h
   obtain⟨j,hj,rfl⟩:=h
   have:=zeC n l j (by simp at hn;omega) hj
   simp;omega
theorem zfr{l g:List UInt8}(h:Lib.hasPrefix l g=true):g.length≤l.length∧l.take g.length=g:=by
 have:g <+: l:=List.isPrefixOf_iff_prefix.1 h
 exact⟨this.length_le,(List.prefix_iff_eq_take.1 this).symm⟩
theorem zbY{l:List UInt8}{k:Int}{n:Nat}(h:tokAt l=(k,n,0)):1≤n∧n≤l.length:=by
 cases l with
 | nil=>simp[tokAt] at h
 | cons c l =>
  rw[tokAt] at h
  split at h
  ·rename_i hc
   cases h
   have:ldB c=true:=by simp[ldB,hc]
   rw[zdI l this]
   have:=zcW ldB l
   simp;omega
  ·split at h
   ·rename_i hd
    injection h with _ h
    rw[zaU] at h
    split at h
    ·cases h
    ·split at h
     ·cases h
     ·cases h
      rw[zdI l hd]
      have:=zcW digB l
      simp;omega
   ·split at h
    ·injection h with _ h
     rw[zbT] at h
     split at h
     ·cases h
     ·rename_i j hj
      split at h
      ·cases h
       have:=zeC _ l j (Nat.le_refl _) hj
       simp;omega
      ·rename_i h0
       exact absurd (Prod.mk.inj h).2 h0
    ·injection h with _ h
     injection h with h1 h2
     subst h1
     have hne:sgN zaF (c::l)≠0:=fun e=>by rw[if_pos e] at h2;cases h2
     obtain⟨g,hm,hp,hl⟩:=zkL _ _ hne
     rw[hl]
     have:=(zfr hp).1
     exact⟨by omega,this⟩
theorem ziB{l:List UInt8}:(tokAt l).2.2=0∨(tokAt l).2.2=1∨(tokAt l).2.2=2∨(tokAt l).2.2=4:=by
 have hq:∀x,qE x=0∨qE x=2∨qE x=4:=fun x=>by
  rw[qE]
  split
  ·simp
  ·split
   ·simp
   ·split<;>simp
 cases l with
 | nil=>simp[tokAt]
 | cons c l =>
  rw[tokAt]
  split
  ·simp
  ·split
   ·rw[zaU]
    split
    ·simp
    ·split<;>simp
   ·split
    ·rw[zbT]
     split
     ·simp
     ·rename_i j _
      have:=hq (l.take j)
      split
      ·simp
      ·simp only;omega
    ·simp only
     split<;>simp
--END
theorem zil(c:UInt8)(w:World):Calls Tryz.prog 42 #[.int .u8 (c.toNat:Int)] w fun e w'=>e=.returned (.bool (blB c))∧w'=w:=by
 obtain⟨B,hB⟩:∃B,blB c=B:=⟨_,rfl⟩
 rw[hB]
 rw[blB] at hB
 obtain⟨n,hn⟩:∃n:Int,(c.toNat:Int)=n:=⟨_,rfl⟩
 rw[hn] at hB ⊢
 clear hn
 by_cases h1:n=32
 ·subst h1
  obtain rfl:true=B:=hB
  go_enter Tryz.func42,Tryz.ntmps42
  go_wp2
  go_ret
  exact⟨rfl,rfl⟩
 ·have q1:(n == 32)=false:=by simpa using h1
  by_cases h2:n=10
  ·subst h2
   obtain rfl:true=B:=hB
   go_enter Tryz.func42,Tryz.ntmps42
   go_wp2
   go_ret
   exact⟨rfl,rfl⟩
  ·have q2:(n == 10)=false:=by simpa using h2
   have hB2:false=B:=by rw[←hB];simp[h1,h2]
   subst hB2
   clear hB h1 h2
   go_enter Tryz.func42,Tryz.ntmps42
   go_wp2
   go_ret
   exact⟨rfl,rfl⟩
theorem zas(c:UInt8)(w:World):Calls Tryz.prog 76 #[.int .u8 (c.toNat:Int)] w fun e w'=>e=.returned (.bool (letB c))∧w'=w:=by
 obtain⟨B,hB⟩:∃B,letB c=B:=⟨_,rfl⟩
 have HB:Hid (letB c=B):=hB
 rw[hB]
 clear hB
 go_enter Tryz.func76,Tryz.ntmps76
 go_wp2
 all_goals
  go_ret
  refine⟨zaE ?_,rfl⟩
  rw[←HB.out,letB]
  simp
  try omega
theorem zcm(c:UInt8)(w:World):Calls Tryz.prog 78 #[.int .u8 (c.toNat:Int)] w fun e w'=>e=.returned (.bool (digB c))∧w'=w:=by
 obtain⟨B,hB⟩:∃B,digB c=B:=⟨_,rfl⟩
 have HB:Hid (digB c=B):=hB
 rw[hB]
 clear hB
 go_enter Tryz.func78,Tryz.ntmps78
 go_wp2
 all_goals
  go_ret
  refine⟨zaE ?_,rfl⟩
  rw[←HB.out,digB]
  simp
  try omega
theorem zmd(c:UInt8)(w:World):Calls Tryz.prog 77 #[.int .u8 (c.toNat:Int)] w fun e w'=>e=.returned (.bool (ldB c))∧w'=w:=by
 have cL:=zas c
 have cD:=zcm c
 have HB:Hid (ldB c=(letB c||digB c)):=rfl
 cases h1:letB c
 ·rw[h1] at cL
  cases h2:digB c
  ·rw[h2] at cD
   have HC:ldB c=false:=by rw[ldB,h1,h2];rfl
   rw[HC]
   clear HC HB h1 h2
   go_enter Tryz.func77,Tryz.ntmps77
   go_wp2_with (first|(go_at_call 76;refine (cL _).mono ?_;rintro e w' ⟨rfl,rfl⟩)|(go_at_call 78;refine (cD _).mono ?_;rintro e w' ⟨rfl,rfl⟩))
   go_ret
   exact⟨rfl,rfl⟩
  ·rw[h2] at cD
   have HC:ldB c=true:=by rw[ldB,h1,h2];rfl
   rw[HC]
   clear HC HB h1 h2
   go_enter Tryz.func77,Tryz.ntmps77
   go_wp2_with (first|(go_at_call 76;refine (cL _).mono ?_;rintro e w' ⟨rfl,rfl⟩)|(go_at_call 78;refine (cD _).mono ?_;rintro e w' ⟨rfl,rfl⟩))
   go_ret
   exact⟨rfl,rfl⟩
 ·rw[h1] at cL
  have HC:ldB c=true:=by rw[ldB,h1];rfl
  rw[HC]
  clear HC HB h1
  go_enter Tryz.func77,Tryz.ntmps77
  go_wp2_with (first|(go_at_call 76;refine (cL _).mono ?_;rintro e w' ⟨rfl,rfl⟩))
  go_ret
  exact⟨rfl,rfl⟩
theorem zoC{p:UInt8→Bool}{s:ByteArray}{k:Nat}(h:k<s.size)(hp:p s[k]=true){E:Nat}(hE:E=k+goN p (s.data.toList.drop k)):E=k+1+goN p (s.data.toList.drop (k+1)):=by
 rw[hE,zaC s k h,zdI _ hp];omega
theorem zoA{p:UInt8→Bool}{s:ByteArray}{k:Nat}(h:k<s.size)(hp:p s[k]=false){E:Nat}(hE:E=k+goN p (s.data.toList.drop k)):E=k:=by
 rw[hE,zaC s k h,zoB _ hp];rfl
theorem zqP{p:UInt8→Bool}{s:ByteArray}{k:Nat}(h:s.size≤k)(hk:k≤s.size){E:Nat}(hE:E=k+goN p (s.data.toList.drop k)):E=s.size:=by
 rw[hE,List.drop_eq_nil_of_le (by simp;omega)];show k+0=_;omega
theorem zcY(f:FuncId)(p:UInt8→Bool)(hent:∀(args:Array Value) (W:World),Sem.run Tryz.prog (callFunc f args) W=.ok (.enter f args) W)(hf:∀(c:UInt8) (W:World),Calls Tryz.prog f #[.int .u8 (c.toNat:Int)] W fun e w'=>e=.returned (.bool (p c))∧w'=W)(s:ByteArray)(w:World)(hs:s.size≤maxLen) :
  Calls Tryz.prog 41 #[.string s,.func (.func f) #[] #[]] w fun e w'=>e=.returned (.int .i64 (goN p s.data.toList:Nat))∧w'=w:=by
 unfold maxLen at hs
 obtain⟨E,hE⟩:∃E,goN p s.data.toList=E:=⟨_,rfl⟩
 rw[hE]
 go_enter Tryz.func41,Tryz.ntmps41
 go_wp2
 go_loopg [5,8] s.size (fun gg _ s8 wr=>∃kk:Nat,kk≤s.size∧s.size-kk≤gg∧s8=.int .i64 kk∧wr=w∧Hid (E=kk+goN p (s.data.toList.drop kk)))
 case atStart=>exact⟨0,Nat.zero_le _,by omega,rfl,rfl,(show Hid _ by simp[Hid,hE])⟩
 case round =>
  obtain⟨kk,hkk,hg,rfl,rfl,HE⟩:=hrel
  by_cases hlt:kk<s.size
  ·have hltz:(kk:Int)<(s.size:Int):=by omega
   have hcall:=hf s[kk]
   cases hp:p s[kk]
   ·rw[hp] at hcall
    obtain rfl:kk=E:=(zoA hlt hp HE.out).symm
    clear hp HE
    go_wp2_with fail
    refine (hcall _).mono ?_
    rintro e w' ⟨rfl,rfl⟩
    go_wp2
    go_ret
    exact⟨rfl,rfl⟩
   ·rw[hp] at hcall
    have HE2:Hid (E=kk+1+goN p (s.data.toList.drop (kk+1))):=zoC hlt hp HE.out
    clear hp HE
    go_wp2_with fail
    refine (hcall _).mono ?_
    rintro e w' ⟨rfl,rfl⟩
    go_wp2
    go_roundg (s.size-(kk+1))
    case measure=>omega
    case rel=>exact⟨kk+1,by omega,by omega,by go_num,rfl,HE2⟩
  ·have hltz:¬(kk:Int)<(s.size:Int):=by omega
   obtain rfl:s.size=E:=(zqP (by omega) hkk HE.out).symm
   go_wp2
   go_ret
   exact⟨rfl,rfl⟩
theorem zcX(s:ByteArray)(w:World)(hs:s.size≤maxLen) :
  Calls Tryz.prog 41 #[.string s,.func (.func 42) #[] #[]] w fun e w'=>e=.returned (.int .i64 (goN blB s.data.toList:Nat))∧w'=w :=
 zcY _ blB (fun args W=>by kernel_rfl) zil s w hs
theorem zak(s:ByteArray)(w:World)(hs:s.size≤maxLen) :
  Calls Tryz.prog 41 #[.string s,.func (.func 78) #[] #[]] w fun e w'=>e=.returned (.int .i64 (goN digB s.data.toList:Nat))∧w'=w :=
 zcY _ digB (fun args W=>by kernel_rfl) zcm s w hs
theorem zjM(s:ByteArray)(w:World)(hs:s.size≤maxLen) :
  Calls Tryz.prog 41 #[.string s,.func (.func 77) #[] #[]] w fun e w'=>e=.returned (.int .i64 (goN ldB s.data.toList:Nat))∧w'=w :=
 zcY _ ldB (fun args W=>by kernel_rfl) zmd s w hs
--BEGIN
def zcr:List (List UInt8):=[[111,114],[97,110,100],[110,111,116],[116,114,117,101],[102,97,108,115,101],[108,101,110],[105,102],[115,101,108,101,99,116],[97,115],[102,114,111,109],[119,104,101,114,101],[103,114,111,117,112],[98,121],[119,105,110,100,111,119],[115,108,105,100,101],[99,111,117,110,116],[115,117,109],[108,101,97,115,116],[109,111,115,116]]
def zgC(l:List UInt8):Bool:=decide (l≠[])&&decide (l.length≤8)&&l.all letB
def nameT(l:List UInt8):Bool:=zgC l&&!(zcr.any (· == l))
def ex0:Ex:=.node ⟨#[]⟩ ⟨#[]⟩ 0 0 ⟨#[]⟩ 0 []
def op1(op:List UInt8)(pos:Int)(l:List Ex):Ex:=.node ⟨op.toArray⟩ ⟨#[]⟩ 0 0 ⟨#[]⟩ pos l
theorem zaa{W:World}{base:Nat}{e:TypeId}{size:Nat}{v:Value}{n:Nat}{xs:List Value}(h:W.ownsRow base e size v n xs):∃p c,v=.slice p n c:=by
 rcases h.2 with ⟨rfl,rfl⟩|⟨g,cap,cur,rfl,_⟩
 ·exact⟨_,_,rfl⟩
 ·exact⟨_,_,rfl⟩
theorem zac{W W':World}{base:Nat}{e:TypeId}{size:Nat}{v:Value}{n:Nat}{xs:List Value}(h:W.ownsRow base e size v n xs)(hb:Below W.heap.size W W'):W'.ownsRow base e size v n xs:=by
 refine⟨h.1,?_⟩
 rcases h.2 with hn|⟨g,cap,cur,rfl,h1,hgg,rest⟩
 ·exact .inl hn
 ·exact .inr ⟨g,cap,cur,rfl,h1,by rw[hb.block g (Array.getElem?_eq_some_iff.1 hgg).1];exact hgg,rest⟩
end Go.Proofs.YtbdnccnfidjiaaaGreatDoor
