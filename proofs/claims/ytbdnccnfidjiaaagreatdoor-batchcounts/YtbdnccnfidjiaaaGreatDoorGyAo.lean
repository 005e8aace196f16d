/-
  WdX, StF.
-/
import Derived.Test.YtbdnccnfidjiaaaGreatDoorGyAl
import Derived.Deep.OwnRows
import Derived.Laws.OwnMore
namespace Go.Proofs.YtbdnccnfidjiaaaGreatDoor
open Go.RowKit
set_option linter.unusedVariables false
set_option linter.unusedSimpArgs false
set_option maxHeartbeats 8000000
def fsP(above slide:Int):Int:=if above<0 then 0 else (above / slide+1)*slide
def cnP(begin_ last slide:Int):Int:=if last<begin_ then 0 else (last-begin_) / slide+1
theorem zqt{a size slide:Int}(hw:wdB size slide):0≤dnK a size slide:=by
 unfold dnK
 split
 ·exact Int.le_refl _
 ·have:=Int.ediv_nonneg (show 0≤a-size by omega) (show 0≤slide by have:=hw.2.2.1;omega)
  omega
theorem fs_dn{a size slide:Int}:fsP (a-size) slide=dnK a size slide*slide:=by
 unfold fsP dnK
 by_cases h:a<size
 ·rw[if_pos (by omega),if_pos h,Int.zero_mul]
 ·rw[if_neg (by omega),if_neg h]
theorem zsg{x k d:Int}(hd:0<d):(x-k*d) / d=x / d-k:=by
 rw[Int.sub_eq_add_neg,←Int.neg_mul,Int.add_mul_ediv_right _ _ (by omega)];omega
theorem zsY{x k d:Int}(hd:0<d):k*d≤x↔k≤x / d:=(Int.le_ediv_iff_mul_le hd).symm
theorem cn_st{at_ size slide:Int}(hw:wdB size slide)(h0:0≤at_):cnP (dnK at_ size slide*slide) at_ slide=(stN at_ size slide:Int):=by
 have hd:0<slide:=by have:=hw.2.2.1;omega
 have hk:=zrX hw h0
 have hp:=zsc hw h0
 have:=(zsY (x:=at_) (k:=dnK at_ size slide) hd).2 (by omega)
 unfold cnP
 rw[if_neg (by omega),zsg hd]
 omega
theorem zrZ{at_ size slide:Int}(hw:wdB size slide)(h0:0≤at_):stP at_ size slide=prg (dnK at_ size slide*slide) slide (stN at_ size slide):=by
 unfold stP stS
 rw[zrX hw h0]
theorem zqv{a size slide:Int}(hw:wdB size slide)(ha:a≤1000000):dnK a size slide*slide≤1001000:=by
 have hd:0<slide:=by have:=hw.2.2.1;omega
 unfold dnK
 obtain⟨s1,s2,s3,s4,s5⟩:=hw
 split
 ·rw[Int.zero_mul];omega
 ·obtain⟨h1,h2⟩:=zaB (a:=a-size) hd
  rw[Int.add_mul,Int.one_mul];omega
def fillC(s d:Int)(n k:Nat):List Value:=(List.range n).map fun (i:Nat)=>if i<k then .int .i64 (s+(i:Int)*d) else .int .i64 0
theorem zhq(s d:Int)(n:Nat):fillC s d n 0=(madeCells #[.int .i64 0] n).toList:=by
 simp[fillC,madeCells]
 intro a _
 have:a % 1=0:=Nat.mod_one a
 simp[this]
theorem zjG(s d:Int)(n:Nat):fillC s d n n=intC (prg s d n):=by
 unfold fillC intC prg
 rw[List.map_map]
 apply List.map_congr_left
 intro i hi
 rw[List.mem_range] at hi
 simp[hi]
theorem zjH(s d:Int)(n k:Nat)(hk:k<n):(fillC s d n k).set k (.int .i64 (s+(k:Int)*d))=fillC s d n (k+1):=by
 apply List.ext_getElem
 ·simp[fillC]
 ·intro i h1 h2
  simp only[fillC,List.length_map,List.length_range] at h2
  rw[List.getElem_set]
  simp only[fillC,List.getElem_map,List.getElem_range]
  by_cases h:k=i
  ·subst h;simp
  ·rw[if_neg h]
   by_cases h3:i<k
   ·rw[if_pos h3,if_pos (by omega)]
   ·rw[if_neg h3,if_neg (by omega)]
theorem zbi(n l m:Int)(w:World):Calls Tryz.prog 123 #[.int .i64 n,.int .i64 l,.int .i64 m] w fun e w'=>e=.returned (.bool (decide (l≤n∧n≤m)))∧w'=w:=by
 by_cases h1:l≤n
 ·by_cases h2:n≤m
  ·have hd:decide (l≤n∧n≤m)=true:=decide_eq_true ⟨h1,h2⟩
   rw[hd]
   clear hd
   go_enter Tryz.func123,Tryz.ntmps123
   go_wp2
   go_ret
   exact⟨rfl,rfl⟩
  ·have hd:decide (l≤n∧n≤m)=false:=decide_eq_false (fun h=>h2 h.2)
   rw[hd]
   clear hd
   go_enter Tryz.func123,Tryz.ntmps123
   go_wp2
   go_ret
   exact⟨rfl,rfl⟩
 ·have hd:decide (l≤n∧n≤m)=false:=decide_eq_false (fun h=>h1 h.1)
  rw[hd]
  clear hd
  go_enter Tryz.func123,Tryz.ntmps123
  go_wp2
  go_ret
  exact⟨rfl,rfl⟩
theorem zhs(x d:Int)(w:World)(h1:1≤d)(h2:d≤1000)(h3:x≤1000000):Calls Tryz.prog 137 #[.int .i64 x,.int .i64 d] w fun e w'=>e=.returned (.int .i64 (fsP x d))∧w'=w:=by
 by_cases h:x<0
 ·rw[fsP,if_pos h]
  go_enter Tryz.func137,Tryz.ntmps137
  go_wp2
  go_ret
  exact⟨rfl,rfl⟩
 ·rw[fsP,if_neg h]
  have htd:x.tdiv d=x / d:=Int.tdiv_eq_ediv_of_nonneg (by omega)
  have hq:=Int.ediv_nonneg (show 0≤x by omega) (show 0≤d by omega)
  have hdd:0<d:=by omega
  obtain⟨m1,m2⟩:=zaB (a:=x) hdd
  have hl:x / d≤1000000:=by
   have:=Int.mul_le_mul_of_nonneg_left h1 hq
   omega
  generalize x / d=q at htd hq m1 m2 hl ⊢
  have hm:(q+1)*d≤1001000:=by rw[Int.add_mul,Int.one_mul];omega
  have hm0:0≤(q+1)*d:=Int.mul_nonneg (by omega) (by omega)
  have hwr:IntKind.i64.wrap ((q+1)*d)=(q+1)*d:=by rw[IntKind.wrap_i64];omega
  have hd0:¬d=0:=by omega
  go_enter Tryz.func137,Tryz.ntmps137
  go_wp2
  go_ret
  exact⟨rfl,rfl⟩
theorem zfX(s l d:Int)(w:World)(h1:1≤d)(h2:d≤1000)(h3:0≤s)(h4:s≤1001000)(h5:l≤1001000)(h6:-2000≤l):Calls Tryz.prog 166 #[.int .i64 s,.int .i64 l,.int .i64 d] w fun e w'=>e=.returned (.int .i64 (cnP s l d))∧w'=w:=by
 by_cases h:l<s
 ·rw[cnP,if_pos h]
  go_enter Tryz.func166,Tryz.ntmps166
  go_wp2
  go_ret
  exact⟨rfl,rfl⟩
 ·rw[cnP,if_neg h]
  have htd:(l-s).tdiv d=(l-s) / d:=Int.tdiv_eq_ediv_of_nonneg (by omega)
  have hq:=Int.ediv_nonneg (show 0≤l-s by omega) (show 0≤d by omega)
  have hdd:0<d:=by omega
  obtain⟨m1,m2⟩:=zaB (a:=l-s) hdd
  have hl:(l-s) / d≤1001000:=by
   have:=Int.mul_le_mul_of_nonneg_left h1 hq
   omega
  generalize (l-s) / d=q at htd hq m1 m2 hl ⊢
  have hd0:¬d=0:=by omega
  go_enter Tryz.func166,Tryz.ntmps166
  go_wp2
  go_ret
  exact⟨rfl,rfl⟩
theorem zoR(s l d:Int)(n:Nat)(w:World)(h1:1≤d)(h2:d≤1000)(h3:0≤s)(h4:s≤1001000)(h5:l≤1001000)(h6:-2000≤l)(hn:cnP s l d=(n:Int))(hn2:n≤300) :
  Calls Tryz.prog 136 #[.int .i64 s,.int .i64 l,.int .i64 d] w fun e w'=>(∃u,e=.returned u∧IntA w' u (prg s d n))∧Below w.heap.size w w':=by
 have c:=zfX s l d w h1 h2 h3 h4 h5 h6
 rw[hn] at c
 have hmk:=run_make_row' (P:=Tryz.prog) 22 3 (.int .i64 0) 8 Tryz.underlying22 zht rfl .i64 .i64 n (by omega) (by omega)
 clear hn
 go_enter Tryz.func136,Tryz.ntmps136
 go_wp2_with fail
 refine c.mono ?_
 rintro e w1 ⟨rfl,rfl⟩
 clear c
 go_wp2
 go_loopg [16] n (fun gg s16 wr=>∃kk:Nat,kk≤n∧n-kk≤gg∧s16=.int .i64 kk∧Aside (wr.ownsRow w1.heap.size 3 1 (.slice (some ⟨w1.heap.size,0,none⟩) n n) n (fillC s d n kk))∧Aside (Below w1.heap.size w1 wr))
 case atStart =>
  refine⟨0,Nat.zero_le _,by omega,rfl,?_,?_⟩
  ·show World.ownsRow _ _ _ _ _ _ _
   rw[zhq]
   have o1:=World.ownsRow_lit (base:=w1.heap.size) (e:=3) (size:=1) w1 (madeCells #[.int .i64 0] n) n (Nat.le_refl _) (by unfold maxLen;omega) (by rw[size_madeCells,Nat.mul_one])
   exact o1
  ·exact (Below.refl _ w1).alloc (Nat.le_refl _) _
 case round =>
  obtain⟨kk,hkk,hg,rfl,OW,BW⟩:=hrel
  by_cases hlt:kk<n
  ·have hltz:(kk:Int)<(n:Int):=by omega
   have h0z:(0:Int)≤(kk:Int):=by omega
   have hmb:(kk:Int)*d≤300000:=by
    have:=Int.mul_le_mul_of_nonneg_left h2 h0z
    omega
   have hm0:0≤(kk:Int)*d:=Int.mul_nonneg h0z (by omega)
   have hw1:IntKind.i64.wrap ((kk:Int)*d)=(kk:Int)*d:=by rw[IntKind.wrap_i64];omega
   have hw2:IntKind.i64.wrap (s+(kk:Int)*d)=s+(kk:Int)*d:=by rw[IntKind.wrap_i64];omega
   have hfz:wr.frozen? ⟨w1.heap.size,kk,none⟩=false:=OW.out.frozenAt kk
   have hce:wr.cell? ⟨w1.heap.size,kk,none⟩=some (.int .i64 0):=by
    rw[OW.out.cellAt kk (by omega)]
    simp[fillC,hlt]
   have hst:=(OW.out.stored kk (.int .i64 (s+(kk:Int)*d)))
   rw[zjH s d n kk hlt] at hst
   have OW2:Aside ((wr.setCell ⟨w1.heap.size,kk,none⟩ (.int .i64 (s+(kk:Int)*d))).ownsRow w1.heap.size 3 1 (.slice (some ⟨w1.heap.size,0,none⟩) n n) n (fillC s d n (kk+1))):=hst.1
   have BW2:Aside (Below w1.heap.size w1 (wr.setCell ⟨w1.heap.size,kk,none⟩ (.int .i64 (s+(kk:Int)*d)))):=BW.out.setCell (Nat.le_refl _) _
   clear hst OW BW
   go_wp2
   go_roundg (n-(kk+1))
   case measure=>omega
   case rel=>exact⟨kk+1,by omega,by omega,by go_num,OW2,BW2⟩
  ·have hltz:¬(kk:Int)<(n:Int):=by omega
   obtain rfl:kk=n:=by omega
   have I2:Aside (IntA wr (.slice (some ⟨w1.heap.size,0,none⟩) kk kk) (prg s d kk)):=by
    refine zjY (B:=w1.heap.size) (zhG _ _ _) (by omega) ?_
    rw[←zjG]
    exact OW.out
   clear OW
   go_wp2
   go_ret
   exact⟨⟨_,rfl,I2.out⟩,BW.out⟩
theorem chkX:ChkC:=fun size slide w m1 m2=>by
 have c1:=zbi size 1 1000
 have c2:=zbi slide 1 size
 by_cases h1:1≤size∧size≤1000
 ·rw[decide_eq_true h1] at c1
  by_cases h2:1≤slide∧slide≤size
  ·rw[decide_eq_true h2] at c2
   obtain⟨a1,a2⟩:=h1
   obtain⟨b1,b2⟩:=h2
   have hw:IntKind.i64.wrap (10*slide)=10*slide:=by rw[IntKind.wrap_i64];omega
   by_cases h3:size≤10*slide
   ·rw[zhT ⟨a1,a2,b1,b2,h3⟩,show errV 0=.nilIface from rfl]
    go_enter Tryz.func95,Tryz.ntmps95
    go_wp2_with fail
    refine (c1 _).mono ?_
    rintro e w1 ⟨rfl,rfl⟩
    clear c1
    go_wp2_with fail
    refine (c2 _).mono ?_
    rintro e w1 ⟨rfl,rfl⟩
    clear c2
    go_wp2
    go_ret
    exact⟨rfl,Below.refl _ _⟩
   ·rw[zlr (fun h=>h3 h.2.2.2.2),show errV 1=.iface 35 (.int .i64 1) from rfl]
    go_enter Tryz.func95,Tryz.ntmps95
    go_wp2_with fail
    refine (c1 _).mono ?_
    rintro e w1 ⟨rfl,rfl⟩
    clear c1
    go_wp2_with fail
    refine (c2 _).mono ?_
    rintro e w1 ⟨rfl,rfl⟩
    clear c2
    go_wp2
    go_ret
    exact⟨rfl,Below.refl _ _⟩
  ·rw[decide_eq_false h2] at c2
   rw[zlr (fun h=>h2 ⟨h.2.2.1,h.2.2.2.1⟩),show errV 1=.iface 35 (.int .i64 1) from rfl]
   clear h1 h2
   go_enter Tryz.func95,Tryz.ntmps95
   go_wp2_with fail
   refine (c1 _).mono ?_
   rintro e w1 ⟨rfl,rfl⟩
   clear c1
   go_wp2_with fail
   refine (c2 _).mono ?_
   rintro e w1 ⟨rfl,rfl⟩
   clear c2
   go_wp2
   go_ret
   exact⟨rfl,Below.refl _ _⟩
 ·rw[decide_eq_false h1] at c1
  rw[zlr (fun h=>h1 ⟨h.1,h.2.1⟩),show errV 1=.iface 35 (.int .i64 1) from rfl]
  clear h1 c2
  go_enter Tryz.func95,Tryz.ntmps95
  go_wp2_with fail
  refine (c1 _).mono ?_
  rintro e w1 ⟨rfl,rfl⟩
  clear c1
  go_wp2
  go_ret
  exact⟨rfl,Below.refl _ _⟩
theorem stX:StC:=fun at_ size slide w m1 m2 m3=>by
 have c1:=chkX size slide w m2 m3
 by_cases h1:wdB size slide
 ·rw[zhT h1,show errV 0=.nilIface from rfl] at c1
  by_cases h2:0≤at_∧at_≤1000000
  ·rw[zsd h1 h2,if_pos rfl,show errV 0=.nilIface from rfl,zrZ h1 h2.1]
   have f1:=zqt (a:=at_) h1
   have f2:=zqv (a:=at_) h1 h2.2
   have f3:=zpu h1 h2.1
   have f4:=cn_st h1 h2.1
   have c2:=zbi at_ 0 1000000
   rw[decide_eq_true h2] at c2
   obtain⟨s1,s2,s3,s4,s5⟩:=h1
   obtain⟨a1,a2⟩:=h2
   have f5:=Int.mul_nonneg f1 (show 0≤slide by omega)
   have c3:=fun W=>zhs (at_-size) slide W s3 (by omega) (by omega)
   rw[fs_dn] at c3
   have c4:=fun W=>zoR (dnK at_ size slide*slide) at_ slide (stN at_ size slide) W s3 (by omega) f5 f2 (by omega) (by omega) f4 (by omega)
   generalize dnK at_ size slide*slide=K at *
   generalize stN at_ size slide=Z at *
   clear f1 f2 f3 f4 f5
   go_enter Tryz.func105,Tryz.ntmps105
   go_wp2_with fail
   refine c1.mono ?_
   rintro e w1 ⟨rfl,B1⟩
   clear c1
   have BB:Aside (Below w.heap.size w w1):=B1
   clear B1
   go_wp2_with fail
   refine (c2 _).mono ?_
   rintro e w2 ⟨rfl,rfl⟩
   clear c2
   go_wp2_with fail
   refine (c3 _).mono ?_
   rintro e w3 ⟨rfl,rfl⟩
   clear c3
   go_wp2_with fail
   refine (c4 _).mono ?_
   rintro e w4 ⟨⟨u,rfl,I4⟩,B4⟩
   clear c4
   have I5:Aside (IntA w4 u (prg K slide Z)):=I4
   have B5:Aside (Below w.heap.size w w4):=BB.out.trans (B4.mono BB.out.size)
   clear I4 B4 BB
   go_wp2
   go_ret2
   exact⟨⟨_,rfl,I5.out⟩,B5.out⟩
  ·rw[zpv (fun h=>h2 h.2),if_neg zpa,show errV 1=.iface 35 (.int .i64 1) from rfl]
   have c2:=zbi at_ 0 1000000
   rw[decide_eq_false h2] at c2
   clear h1 h2
   go_enter Tryz.func105,Tryz.ntmps105
   go_wp2_with fail
   refine c1.mono ?_
   rintro e w1 ⟨rfl,B1⟩
   clear c1
   have BB:Aside (Below w.heap.size w w1):=B1
   clear B1
   go_wp2_with fail
   refine (c2 _).mono ?_
   rintro e w2 ⟨rfl,rfl⟩
   clear c2
   go_wp2
   go_ret2
   exact⟨⟨_,rfl,IntA.nil _⟩,BB.out⟩
 ·rw[zlr h1,show errV 1=.iface 35 (.int .i64 1) from rfl] at c1
  rw[zpv (fun h=>h1 h.1),if_neg zpa,show errV 1=.iface 35 (.int .i64 1) from rfl]
  clear h1
  go_enter Tryz.func105,Tryz.ntmps105
  go_wp2_with fail
  refine c1.mono ?_
  rintro e w1 ⟨rfl,B1⟩
  clear c1
  have BB:Aside (Below w.heap.size w w1):=B1
  clear B1
  go_wp2
  go_ret2
  exact⟨⟨_,rfl,IntA.nil _⟩,BB.out⟩
section
open Go.BigFrame
set_option maxRecDepth 20000 in
theorem zoS(s l d:Int)(n:Nat)(w:World)(h1:1≤d)(h2:d≤1000)(h3:0≤s)(h4:s≤1001000)(h5:l≤1001000)(h6:-2000≤l)(hn:cnP s l d=(n:Int))(hn2:n≤300) :
  Calls Tryz.prog 136 #[.int .i64 s,.int .i64 l,.int .i64 d] w fun e w'=>(∃u,e=.returned u∧IntA w' u (prg s d n)∧(∀k,u.ownBlock=some k→w.heap.size≤k))∧Below w.heap.size w w':=by
 have c:=zfX s l d w h1 h2 h3 h4 h5 h6
 rw[hn] at c
 have hmk:=run_make_row' (P:=Tryz.prog) 22 3 (.int .i64 0) 8 Tryz.underlying22 zht rfl .i64 .i64 n (by omega) (by omega)
 clear hn
 go_enter Tryz.func136,Tryz.ntmps136
 go_wp2_with fail
 refine c.mono ?_
 rintro e w1 ⟨rfl,rfl⟩
 clear c
 go_wp2
 go_loopg [16] n (fun gg s16 wr=>∃kk:Nat,kk≤n∧n-kk≤gg∧s16=.int .i64 kk∧Aside (wr.ownsRow w1.heap.size 3 1 (.slice (some ⟨w1.heap.size,0,none⟩) n n) n (fillC s d n kk))∧Aside (Below w1.heap.size w1 wr))
 case atStart =>
  refine⟨0,Nat.zero_le _,by omega,rfl,?_,?_⟩
  ·show World.ownsRow _ _ _ _ _ _ _
   rw[zhq]
   have o1:=World.ownsRow_lit (base:=w1.heap.size) (e:=3) (size:=1) w1 (madeCells #[.int .i64 0] n) n (Nat.le_refl _) (by unfold maxLen;omega) (by rw[size_madeCells,Nat.mul_one])
   exact o1
  ·exact (Below.refl _ w1).alloc (Nat.le_refl _) _
 case round =>
  obtain⟨kk,hkk,hg,rfl,OW,BW⟩:=hrel
  by_cases hlt:kk<n
  ·have hltz:(kk:Int)<(n:Int):=by omega
   have h0z:(0:Int)≤(kk:Int):=by omega
   have hmb:(kk:Int)*d≤300000:=by
    have:=Int.mul_le_mul_of_nonneg_left h2 h0z
    omega
   have hm0:0≤(kk:Int)*d:=Int.mul_nonneg h0z (by omega)
   have hw1:IntKind.i64.wrap ((kk:Int)*d)=(kk:Int)*d:=by rw[IntKind.wrap_i64];omega
   have hw2:IntKind.i64.wrap (s+(kk:Int)*d)=s+(kk:Int)*d:=by rw[IntKind.wrap_i64];omega
   have hfz:wr.frozen? ⟨w1.heap.size,kk,none⟩=false:=OW.out.frozenAt kk
   have hce:wr.cell? ⟨w1.heap.size,kk,none⟩=some (.int .i64 0):=by
    rw[OW.out.cellAt kk (by omega)]
    simp[fillC,hlt]
   have hst:=(OW.out.stored kk (.int .i64 (s+(kk:Int)*d)))
   rw[zjH s d n kk hlt] at hst
   have OW2:Aside ((wr.setCell ⟨w1.heap.size,kk,none⟩ (.int .i64 (s+(kk:Int)*d))).ownsRow w1.heap.size 3 1 (.slice (some ⟨w1.heap.size,0,none⟩) n n) n (fillC s d n (kk+1))):=hst.1
   have BW2:Aside (Below w1.heap.size w1 (wr.setCell ⟨w1.heap.size,kk,none⟩ (.int .i64 (s+(kk:Int)*d)))):=BW.out.setCell (Nat.le_refl _) _
   clear hst OW BW
   go_wp2
   go_roundg (n-(kk+1))
   case measure=>omega
   case rel=>exact⟨kk+1,by omega,by omega,by go_num,OW2,BW2⟩
  ·have hltz:¬(kk:Int)<(n:Int):=by omega
   obtain rfl:kk=n:=by omega
   have I2:Aside (IntA wr (.slice (some ⟨w1.heap.size,0,none⟩) kk kk) (prg s d kk)):=by
    refine zjY (B:=w1.heap.size) (zhG _ _ _) (by omega) ?_
    rw[←zjG]
    exact OW.out
   clear OW
   go_wp2
   go_ret
   exact⟨⟨_,rfl,I2.out,fun k hk=>Nat.le_of_eq (by simpa [Value.ownBlock] using hk)⟩,BW.out⟩
set_option maxRecDepth 20000 in
theorem stF(at_ size slide:Int)(w:World)(m1:inM at_)(m2:inM size)(m3:inM slide)(h1:wdB size slide)(h2:0≤at_∧at_≤1000000) :
  Calls Tryz.prog 105 #[.int .i64 at_,.int .i64 size,.int .i64 slide] w fun e w'=>(∃u,e=.returned (.tuple #[u,.nilIface])∧IntA w' u (stP at_ size slide)∧(∀k,u.ownBlock=some k→w.heap.size≤k))∧Below w.heap.size w w':=by
 have c1:=chkX size slide w m2 m3
 rw[zhT h1,show errV 0=.nilIface from rfl] at c1
 rw[zrZ h1 h2.1]
 have f1:=zqt (a:=at_) h1
 have f2:=zqv (a:=at_) h1 h2.2
 have f3:=zpu h1 h2.1
 have f4:=cn_st h1 h2.1
 have c2:=zbi at_ 0 1000000
 rw[decide_eq_true h2] at c2
 obtain⟨s1,s2,s3,s4,s5⟩:=h1
 obtain⟨a1,a2⟩:=h2
 have f5:=Int.mul_nonneg f1 (show 0≤slide by omega)
 have c3:=fun W=>zhs (at_-size) slide W s3 (by omega) (by omega)
 rw[fs_dn] at c3
 have c4:=fun W=>zoS (dnK at_ size slide*slide) at_ slide (stN at_ size slide) W s3 (by omega) f5 f2 (by omega) (by omega) f4 (by omega)
 generalize dnK at_ size slide*slide=K at *
 generalize stN at_ size slide=Z at *
 clear f1 f2 f3 f4 f5
 go_enter Tryz.func105,Tryz.ntmps105
 go_wp2_with fail
 refine c1.mono ?_
 rintro e w1 ⟨rfl,B1⟩
 clear c1
 have BB:Aside (Below w.heap.size w w1):=B1
 clear B1
 go_wp2_with fail
 refine (c2 _).mono ?_
 rintro e w2 ⟨rfl,rfl⟩
 clear c2
 go_wp2_with fail
 refine (c3 _).mono ?_
 rintro e w3 ⟨rfl,rfl⟩
 clear c3
 go_wp2_with fail
 refine (c4 _).mono ?_
 rintro e w4 ⟨⟨u,rfl,I4,N4⟩,B4⟩
 clear c4
 have I5:Aside (IntA w4 u (prg K slide Z)):=I4
 have N5:Aside (∀k,u.ownBlock=some k→w.heap.size≤k):=fun k hk=>by have:=N4 k hk;have:=BB.out.size;omega
 have B5:Aside (Below w.heap.size w w4):=BB.out.trans (B4.mono BB.out.size)
 clear I4 B4 BB N4
 go_wp2
 go_ret2
 exact⟨⟨_,rfl,I5.out,N5.out⟩,B5.out⟩
end
end Go.Proofs.YtbdnccnfidjiaaaGreatDoor
