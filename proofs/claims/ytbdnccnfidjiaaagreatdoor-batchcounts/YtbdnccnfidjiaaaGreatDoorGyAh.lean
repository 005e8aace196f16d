/-
  WdP, Clone, Reckon.
-/
import Derived.Test.YtbdnccnfidjiaaaGreatDoorProg
import Derived.RowKit
import Derived.Test.YtbdnccnfidjiaaaGreatDoorYShelf
import Derived.WalkKit
import Derived.Below
import Derived.Lib.Strings
namespace Go.Proofs.YtbdnccnfidjiaaaGreatDoor
open Go.RowKit
set_option linter.unusedVariables false
set_option linter.unusedSimpArgs false
set_option maxHeartbeats 8000000
def prg(s d:Int)(n:Nat):List Int:=(List.range n).map fun (i:Nat)=>s+(i:Int)*d
theorem zhG(s d:Int)(n:Nat):(prg s d n).length=n:=by simp[prg]
def wdB(size slide:Int):Prop:=1≤size∧size≤1000∧1≤slide∧slide≤size∧size≤10*slide
instance (size slide:Int):Decidable (wdB size slide):=by unfold wdB;infer_instance
def wdE(size slide:Int):Int:=if wdB size slide then 0 else 1
def stN(at_ size slide:Int):Nat:=min (at_ / slide+1).toNat ((size-1-at_ % slide) / slide+1).toNat
def stS(at_ size slide:Int):Int:=(at_ / slide+1-(stN at_ size slide:Int))*slide
def stP(at_ size slide:Int):List Int:=prg (stS at_ size slide) slide (stN at_ size slide)
def stE(at_ size slide:Int):Int:=if wdB size slide∧0≤at_∧at_≤1000000 then 0 else 1
def dnK(a size slide:Int):Int:=if a<size then 0 else (a-size) / slide+1
theorem zaB{a d:Int}(hd:0<d):a / d*d≤a∧a<a / d*d+d:=by
 have h1:=Int.emod_add_mul_ediv a d
 have h2:=Int.emod_nonneg a (by omega:d≠0)
 have h3:=Int.emod_lt_of_pos a hd
 rw[Int.mul_comm] at h1
 omega
theorem zmy{at_ size slide:Int}(hw:wdB size slide)(h0:0≤at_)(k:Int) :
  (at_ / slide+1-(stN at_ size slide:Int)≤k∧k≤at_ / slide)↔(0≤k∧k*slide≤at_∧at_<k*slide+size):=by
 obtain⟨s1,s2,s3,s4,s5⟩:=hw
 have hd:0<slide:=by omega
 obtain⟨d1,d2⟩:=zaB (a:=at_) hd
 have q0:0≤at_ / slide:=Int.ediv_nonneg h0 (by omega)
 have hr:at_ % slide=at_-at_ / slide*slide:=by
  have:=Int.emod_add_mul_ediv at_ slide
  rw[Int.mul_comm] at this
  omega
 obtain⟨r1,r2⟩:=zaB (a:=size-1-at_ % slide) hd
 have rq:0≤(size-1-at_ % slide) / slide:=Int.ediv_nonneg (by omega) (by omega)
 have hN:(stN at_ size slide:Int)=min (at_ / slide+1) ((size-1-at_ % slide) / slide+1):=by
  rw[stN];omega
 generalize hQ:at_ / slide=Q at *
 generalize hV:(size-1-at_ % slide) / slide=V at *
 rw[hN]
 have up:k≤Q↔k*slide≤at_:=by
  constructor
  ·intro h
   have:=Int.mul_le_mul_of_nonneg_right h (by omega:0≤slide)
   omega
  ·intro h
   by_cases hk:k≤Q
   ·exact hk
   ·have:=Int.mul_le_mul_of_nonneg_right (show Q+1≤k by omega) (by omega:0≤slide)
    rw[Int.add_mul] at this
    omega
 have dn:Q-V≤k↔at_<k*slide+size:=by
  have key:(Q-V)*slide=Q*slide-V*slide:=Int.sub_mul ..
  constructor
  ·intro h
   have:=Int.mul_le_mul_of_nonneg_right h (by omega:0≤slide)
   rw[key] at this
   omega
  ·intro h
   by_cases hk:Q-V≤k
   ·exact hk
   ·have:=Int.mul_le_mul_of_nonneg_right (show k≤Q-V-1 by omega) (by omega:0≤slide)
    rw[Int.sub_mul,key] at this
    omega
 constructor
 ·rintro ⟨h1,h2⟩
  exact⟨by omega,up.1 h2,dn.1 (by omega)⟩
 ·rintro ⟨h1,h2,h3⟩
  have hu:=up.2 h2
  have hd':=dn.2 h3
  exact⟨by omega,hu⟩
theorem zsc{at_ size slide:Int}(hw:wdB size slide)(h0:0≤at_):1≤stN at_ size slide:=by
 have hd:0<slide:=by have:=hw.2.2.1;omega
 obtain⟨d1,d2⟩:=zaB (a:=at_) hd
 have q0:0≤at_ / slide:=Int.ediv_nonneg h0 (by omega)
 have:=(zmy hw h0 (at_ / slide)).2 ⟨q0,d1,by have:=hw.2.2.2.1;omega⟩
 omega
theorem zqu{a size slide:Int}(hw:wdB size slide)(k:Int):dnK a size slide≤k↔(0≤k∧a<k*slide+size):=by
 obtain⟨s1,s2,s3,s4,s5⟩:=hw
 have hd:0<slide:=by omega
 constructor
 ·intro h
  rw[dnK] at h
  split at h
  ·have:=Int.mul_le_mul_of_nonneg_right h (by omega:0≤slide)
   omega
  ·obtain⟨e1,e2⟩:=zaB (a:=a-size) hd
   have:0≤(a-size) / slide:=Int.ediv_nonneg (by omega) (by omega)
   have:=Int.mul_le_mul_of_nonneg_right h (by omega:0≤slide)
   rw[Int.add_mul] at this
   omega
 ·rintro ⟨h1,h2⟩
  rw[dnK]
  split
  ·exact h1
  ·obtain⟨e1,e2⟩:=zaB (a:=a-size) hd
   by_cases hc:(a-size) / slide+1≤k
   ·exact hc
   ·have:=Int.mul_le_mul_of_nonneg_right (show k≤(a-size) / slide by omega) (by omega:0≤slide)
    omega
theorem zrX{at_ size slide:Int}(hw:wdB size slide)(h0:0≤at_):dnK at_ size slide=at_ / slide+1-(stN at_ size slide:Int):=by
 have hp:=zsc hw h0
 have h1:=(zmy hw h0 (at_ / slide+1-(stN at_ size slide:Int))).1 ⟨by omega,by omega⟩
 have h2:=(zqu (a:=at_) hw _).2 ⟨h1.1,h1.2.2⟩
 have h3:=(zqu (a:=at_) hw _).1 (Int.le_refl _)
 have hm:dnK at_ size slide*slide≤at_:=by
  have:=Int.mul_le_mul_of_nonneg_right h2 (show 0≤slide by have:=hw.2.2.1;omega)
  omega
 have h4:=(zmy hw h0 _).2 ⟨h3.1,hm,h3.2⟩
 omega
theorem zpu{at_ size slide:Int}(hw:wdB size slide)(h0:0≤at_):stN at_ size slide≤10:=by
 obtain⟨s1,s2,s3,s4,s5⟩:=hw
 have hd:0<slide:=by omega
 have hr:=Int.emod_nonneg at_ (by omega:slide≠0)
 have hq:(size-1-at_ % slide) / slide<10:=Int.ediv_lt_of_lt_mul hd (by omega)
 rw[stN]
 omega
theorem zsb{at_ size slide:Int}(hw:wdB size slide)(h0:0≤at_){i:Nat}(h:i<stN at_ size slide):0≤stS at_ size slide+(i:Int)*slide∧stS at_ size slide+(i:Int)*slide≤at_∧at_<stS at_ size slide+(i:Int)*slide+size:=by
 have:=(zmy hw h0 (at_ / slide+1-(stN at_ size slide:Int)+(i:Int))).1 ⟨by omega,by omega⟩
 rw[Int.add_mul] at this
 have hnn:=Int.mul_nonneg this.1 (show 0≤slide by have:=hw.2.2.1;omega)
 rw[Int.add_mul] at hnn
 rw[stS]
 exact⟨hnn,this.2.1,this.2.2⟩
theorem znv{at_ slide many:Int}(hs:1≤slide)(h0:0≤at_)(hm:1≤many):(stN at_ (slide*many) slide:Int)=min (at_ / slide+1) many:=by
 have hd:0<slide:=by omega
 have hr0:=Int.emod_nonneg at_ (by omega:slide≠0)
 have hr1:=Int.emod_lt_of_pos at_ hd
 have q0:0≤at_ / slide:=Int.ediv_nonneg h0 (by omega)
 have e:(slide*many-1-at_ % slide) / slide=many-1:=by
  obtain⟨e1,e2⟩:=zaB (a:=slide*many-1-at_ % slide) hd
  generalize (slide*many-1-at_ % slide) / slide=V at *
  have hc:slide*many=many*slide:=Int.mul_comm ..
  rw[hc] at e1 e2
  have u1:V<many:=by
   by_cases hh:V<many
   ·exact hh
   ·have:=Int.mul_le_mul_of_nonneg_right (show many≤V by omega) (by omega:0≤slide)
    omega
  have u2:many-2<V:=by
   by_cases hh:many-2<V
   ·exact hh
   ·have:=Int.mul_le_mul_of_nonneg_right (show V≤many-2 by omega) (by omega:0≤slide)
    rw[Int.sub_mul] at this
    omega
  omega
 rw[stN,e]
 omega
theorem zbj(s:ByteArray)(w:World)(hs:s.size≤281474976710656) :
  Calls Tryz.prog 44 #[.string s] w fun e w'=>e=.returned (.string s)∧Below w.heap.size w w':=by
 go_enter Tryz.func44,Tryz.ntmps44
 go_wp2_with fail
 refine (Tryz.stringslite_Clone s _ hs).mono ?_
 rintro e w1 ⟨rfl,b1⟩
 go_wp2
 go_ret
 exact⟨rfl,b1⟩
theorem zsI(a b:Int)(w:World)(ha:-9223372036854775808≤a∧a≤9223372036854775807)(hb:-9223372036854775808≤b∧b≤9223372036854775807)
  (hn:-9223372036854775808≤a+b∧a+b≤9223372036854775807) :
  Calls Tryz.prog 246 #[.int .i64 a,.int .i64 b] w fun e w'=>e=.returned (.tuple #[.int .i64 (a+b),.nilIface])∧w'=w:=by
 go_enter Tryz.func246,Tryz.ntmps246
 go_wp2
 all_goals first|(exfalso;omega)|(go_ret2;exact⟨rfl,rfl⟩)
theorem ztx(a b:Int)(w:World)(ha:-9223372036854775808≤a∧a≤9223372036854775807)(hb:-9223372036854775808≤b∧b≤9223372036854775807)
  (hn:-9223372036854775808≤a+b∧a+b≤9223372036854775807) :
  Calls Tryz.prog 233 #[.string { data:=#[43] },.int .i64 a,.int .i64 b] w fun e w'=>e=.returned (.tuple #[.int .i64 (a+b),.nilIface])∧w'=w:=by
 go_enter Tryz.func233,Tryz.ntmps233
 go_wp2_with (first|(go_at_call 246;refine (zsI a b _ ha hb hn).mono ?_;rintro e w' ⟨rfl,rfl⟩))
 go_ret2;exact⟨rfl,rfl⟩
end Go.Proofs.YtbdnccnfidjiaaaGreatDoor
