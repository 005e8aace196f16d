/-
  ApM, Told, Ref1.
-/
import Derived.Test.YtbdnccnfidjiaaaGreatDoorGyAc
import Derived.Laws.AppendOwn
import Derived.Deep.RegionLaw
import Derived.Test.YtbdnccnfidjiaaaGreatDoorYAs
import Derived.Test.YtbdnccnfidjiaaaGreatDoorGyAa
import Derived.Lib.ItoaLen
namespace Go.Proofs.YtbdnccnfidjiaaaGreatDoor
open Go.RowKit
set_option linter.unusedVariables false
set_option linter.unusedSimpArgs false
set_option maxHeartbeats 8000000
theorem zat{P:Program}{ops:Array Oper}{o:Oper}{a:Act}{w:World}{K:Act→World→Prop}{Q:Exit→Act→World→Prop}{E:Prop}
  (hg:o.guard=none)(s x:Operand)(t:TypeId)(hop:o.op=Op.call { callee:=Callee.builtin Builtin.append,args:=#[s,x],argTypes:=#[t,t] })
  (base:Nat)(e:TypeId)(i:TypeInfo)(z:Value)(size bytes:Nat)(h1:P.underlying t=some (.slice e))(h2:P.info? e=some i)(h3:i.zero=some z)(h4:i.size=size)(h5:i.bytes=bytes)(h6:z.cells.size=size)(h7:0<size)
  (v:Value)(n:Nat)(xs:List Value)(hs:a.eval s=v)(hown:w.ownsRow base e size v n xs)
  (ad:Addr)(m c:Nat)(news:List Value)(hx:a.eval x=.slice (some ad) m c)(hn:news.length=m*size)(hc:∀j u,news[j]?=some u→w.cell? (ad.add j)=some u)(h1c:∀u∈news,u.oneCell'=true)
  (b1:n+m≤maxLen)(b2:(n+m)*bytes≤140737488355328)(hb:base≤w.heap.size)
  (hK:∀q' c' w',w'.ownsRow base e size (.slice q' (n+m) c') (n+m) (xs++news)→w.grownBy w' v.ownBlock→K (a.put o.dst (.slice q' (n+m) c')) w') :
  if Region.wanted o (yielded ops a.tmps)=true then Oper.wp P o a w K Q else E:=by
 have hw:Region.wanted o (yielded ops a.tmps)=true:=by simp[Region.wanted,hg]
 rw[if_pos hw]
 obtain⟨v',w',hrun,r1,r2,_⟩:=run_append_own (P:=P) w base t o.type e i z size bytes h1 h2 h3 h4 h5 h6 h7 v n xs hown ad m c news hn hc h1c b1 b2 hb
 obtain⟨q',c',rfl⟩:=zaa r1
 unfold Oper.wp
 simp[execOp,hop,resolve,invoke,builtin,hs,hx,hrun,Result.andThen]
 exact hK q' c' w' r1 r2
def EtAt(w:World):Prop:=w.cell? ⟨4,0,none⟩=some (.iface 119 (.agg #[.pointer (some ⟨12,45,none⟩)]))
theorem EtAt.on{w w':World}(h:EtAt w)(hb:Below w.heap.size w w'):EtAt w':=by
 have hl:4<w.heap.size:=by
  rcases Nat.lt_or_ge 4 w.heap.size with h'|h'
  ·exact h'
  ·rw[EtAt] at h;simp[World.cell?,Array.getElem?_eq_none h'] at h
 rw[EtAt,hb.cell (p:=⟨4,0,none⟩) hl]
 exact h
theorem zgL(s:ByteArray)(w:World)(hs:s.size≤maxLen) :
  Calls Tryz.prog 16 #[.string s] w fun e w'=>e=.returned (.bool (zay s.data.toList))∧w'=w:=by
 unfold maxLen at hs
 go_enter Tryz.func16,Tryz.ntmps16
 go_wp2
 go_loop [3] (fun i=>∃k:Nat,k≤s.size∧i=.int .i64 k∧zay (s.data.toList.take k)=true) (fun i=>s.size-(intOf i).toNat)
 case atStart=>exact⟨0,Nat.zero_le _,rfl,rfl⟩
 case round =>
  obtain⟨k,hk,rfl,hp⟩:=hrel
  have HP:Hid (zay (s.data.toList.take k)=true):=hp
  clear hp
  by_cases hlt:k<s.size
  ·have HN:Hid (∀_:(s[k].toNat:Int)<32∨126<(s[k].toNat:Int),zay s.data.toList=false):=zhF s k hlt
   have HT:Hid (zay (s.data.toList.take (k+1))=(zay (s.data.toList.take k)&&(decide (32≤(s[k].toNat:Int))&&decide ((s[k].toNat:Int)≤126)))):=zdk s k hlt
   go_wp2
   ·go_ret
    exact⟨zaE (HN.out (by omega)).symm,rfl⟩
   ·go_round
    case rel =>
     refine⟨k+1,by omega,by go_num,?_⟩
     rw[HT.out,HP.out]
     simp only[Bool.true_and,Bool.and_eq_true,decide_eq_true_eq]
     assumption
    case measure=>simp[intOf];omega
   ·go_ret
    exact⟨zaE (HN.out (by omega)).symm,rfl⟩
  ·have HO:=zkv s k (by omega) HP.out
   go_wp2
   go_ret
   exact⟨rfl,rfl⟩

theorem zkB(t n:Int)(s:ByteArray)(w:World)(hs:s.size≤maxLen) :
  Calls Tryz.prog 5 #[.agg #[.int .i64 t,.int .i64 n,.string s]] w fun e w'=>e=.returned (.int .i64 (chk t n s.data.toList))∧Below w.heap.size w w':=by
 have hs2:=hs
 unfold maxLen at hs2
 generalize hc:chk t n s.data.toList=c
 have HC:Hid (chk t n s.data.toList=c):=hc
 clear hc
 go_enter Tryz.func5,Tryz.ntmps5
 go_wp2_with (first|(go_at_call 16;refine (zgL _ _ hs).mono ?_;rintro e w' ⟨rfl,rfl⟩))
 all_goals
  go_ret
  refine⟨?_,by repeat (first|exact Below.refl _ _|(refine Below.alloc ?_ (by simp) _))⟩
  have hd:s.data.toList.length=s.size:=by simp
  have hc:=HC.out
  clear HC hs
  rw[chk] at hc
  simp only[Lib.toList_data,bne_iff_ne,bne_eq_false_iff_eq,Bool.not_eq_true',Bool.not_eq_false'] at *
 all_goals
  repeat' split at hc
 all_goals subst hc
 all_goals first|rfl|(exfalso;omega)|(exfalso;simp_all;done)|(exfalso;simp_all;omega)

end Go.Proofs.YtbdnccnfidjiaaaGreatDoor
