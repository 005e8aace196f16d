/-
  QuC6, QuC7.
-/
import Derived.Test.YtopghagjmdbglaaGreatDoorGyBd
import Derived.Test.YtopghagjmdbglaaGreatDoorGyAn
import Derived.Test.YtopghagjmdbglaaGreatDoorGyAd
namespace Go.Proofs.YtopghagjmdbglaaGreatDoor
open Go.RowKit
set_option linter.unusedVariables false
set_option linter.unusedSimpArgs false
set_option maxHeartbeats 8000000
section
open Go.BigFrame
structure QyA(q:Qy):Prop where
 wn:(q.whr.pre 1).length≤1048576
 cn:∀x∈q.cols,(x.pre 1).length≤1048576
 an:∀a∈q.aggs,(a.arg.pre 1).length≤1048576
 ns:∀s∈zaZ q,s.size≤1048576
 z1:inM q.size
 z2:inM q.slide
def OkF(q:Qy):Prop:=(q.aggs.length=0∧q.group.length=0∧q.names.length=q.cols.length∧q.cols.length≤6)∨(q.cols.length=0∧q.names.length=0∧q.group.length+q.aggs.length≤6)
theorem zqc{q:Qy}(h:formQ q=0):OkF q:=by
 rw[formQ] at h
 split at h
 ·exact absurd h (by decide)
 ·rename_i h1
  have h1:togQ q=true:=by simpa using h1
  split at h
  ·exact absurd h (by decide)
  ·split at h
   ·exact absurd h (by decide)
   ·split at h
    ·exact absurd h (by decide)
    ·rename_i h6
     rw[togQ] at h1
     split at h1
     ·simp only[Bool.and_eq_true,decide_eq_true_eq] at h1
      exact .inr ⟨h1.1,h1.2,by omega⟩
     ·simp only[Bool.and_eq_true,decide_eq_true_eq] at h1
      exact .inl ⟨h1.2.1,h1.2.2.1,h1.2.2.2,by omega⟩
theorem zbK{q:Qy}:(zaZ q).length=q.names.length+(q.group.length+q.aggs.length):=by rw[zaZ,List.length_append,List.length_append,List.length_map]
theorem zpb{L:Ex→Prop}(q:Qy)(lo:Nat→Prop)(wp:Option Addr)(wc:Nat)(cp:Option Addr)(cc:Nat)(np:Option Addr)(nc:Nat)(gp:Option Addr)(gc:Nat)(ap:Option Addr)(ac:Nat)(QC:Array Value)(hQ:QV QC q cp cc np nc gp gc ap ac)(vl:Value)(zs:List Cl)(w:World)(henv:TyEnv L w)(haenv:AEnv w)(hB:QyBe w lo q wp wc cp cc np nc gp gc ap ac)(hcv:ColsV w vl zs)(hz:schE zs=0)(hA:QyA q)(hO:OkF q)(hL:TyL L q)(i:Nat)(hi:i<(zaZ q).length)(T E:Int)(hR:tyAt zs q i=(T,E)) :
  Calls Tryz.prog 104 #[.agg QC,.int .i64 (i:Int),vl] w fun e w'=>e=.returned (.tuple #[.int .i64 T,errV E])∧Below w.heap.size w w':=by
 rw[zbK] at hi
 obtain⟨hz1,hz2,-⟩:=zes hz
 rcases hO with ⟨h1,h2,h3,h4⟩|⟨h1,h2,h3⟩
 ·have hic:i<q.cols.length:=by omega
  exact zkI q lo wp wc cp cc np nc gp gc ap ac QC hQ vl zs w henv hB hcv i hic hL.2.1 (hA.cn _ (List.getElem_mem hic)) T E hR
 ·by_cases hg:i<q.group.length
  ·exact zgN q lo wp wc cp cc np nc gp gc ap ac QC hQ vl zs w hB hcv hz1 hz2 i hg h1 (by omega) T E hR
  ·obtain⟨k,rfl⟩:∃k,i=q.group.length+k:=⟨i-q.group.length,by omega⟩
   have hk:k<q.aggs.length:=by omega
   exact zkH q lo wp wc cp cc np nc gp gc ap ac QC hQ vl zs w henv haenv hB hcv k hk h1 (by omega) hL.2.2 (hA.an _ (List.getElem_mem hk)) T E hR
theorem znv{zs:List Cl}{q:Qy}{k:Nat}{out:List Cl}{ns:List ByteArray}(h:k<ns.length):clQ zs q k out (ns.drop k)=if (tyAt zs q k).2≠0 then ([],(tyAt zs q k).2) else clQ zs q (k+1) (out++[(ns[k],(tyAt zs q k).1)]) (ns.drop (k+1)):=by
 rw[List.drop_eq_getElem_cons h,clQ]
set_option maxRecDepth 20000 in
theorem zlg{L:Ex→Prop}(q:Qy)(lo:Nat→Prop)(wp:Option Addr)(wc:Nat)(cp:Option Addr)(cc:Nat)(np:Option Addr)(nc:Nat)(gp:Option Addr)(gc:Nat)(ap:Option Addr)(ac:Nat)(QC:Array Value)(hQ:QV QC q cp cc np nc gp gc ap ac)(vl:Value)(zs:List Cl)(w:World)(henv:TyEnv L w)(haenv:AEnv w)(hB:QyBe w lo q wp wc cp cc np nc gp gc ap ac)(hcv:ColsV w vl zs)(hz:schE zs=0)(hA:QyA q)(hO:OkF q)(hL:TyL L q)(RL:List Cl)(RE:Int)(hR:clQ zs q 0 [] (zaZ q)=(RL,RE)) :
  Calls Tryz.prog 69 #[.agg QC,vl] w fun e w'=>(∃u,e=.returned (.tuple #[u,errV RE])∧Aside (ColsV w' u RL))∧Below w.heap.size w w':=by
 have b1:=(Below.refl w.heap.size w).alloc (Nat.le_refl _) (.cells QC 34)
 have hn6:(zaZ q).length≤6:=by rw[zbK];rcases hO with h|h<;>omega
 obtain⟨z1,z2,rfl⟩:=zaM hcv
 have cN:=zqw q lo wp wc cp cc np nc gp gc ap ac QC hQ _ (hB.on b1) (by rw[zbK] at hn6;omega) (by rw[zbK] at hn6;omega) (by rw[zbK] at hn6;omega)
 have cT:=fun W (hb:Below w.heap.size w W)=>zpb q lo wp wc cp cc np nc gp gc ap ac QC hQ _ zs W (henv.on hb) (haenv.on hb) (hB.on hb) (hcv.on hb) hz hA hO hL
 have hs14:(Tryz.prog.info? 34).map (·.size)=some QC.size:=by rw[hQ.size];exact zgE
 have hns:=hA.ns
 have hld:∀W,Below (w.heap.size+1) (w.alloc (.cells QC 34)) W→∀{ops:Array Oper} {rest:List Oper} {op:Oper} {a:Act} {Q:Exit→Act→World→Prop} (hgd:op.guard=none) (x:Operand) (ho:op.op=.load 34 x) (hx:a.eval x=.pointer (some ⟨w.heap.size,0,none⟩)),wpList Tryz.prog ops Q rest (a.put op.dst (.agg QC)) W→wpList Tryz.prog ops Q (op::rest) a W:=fun W hb=>fun hgd x ho hx=>wpList_load_row hgd 34 x ho w.heap.size hx _ QC _ _ (by rw[hb.block _ (Nat.lt_succ_self _)];exact zbp w QC _) Tryz.underlying34 rfl hs14
 clear hQ hB hcv henv haenv hA hO hs14 hz hL
 have HR:Hid (clQ zs q 0 [] (zaZ q)=(RL,RE)):=hR
 generalize zs.length=NZ at cT ⊢
 obtain⟨ns,hns0⟩:∃ns,zaZ q=ns:=⟨_,rfl⟩
 rw[hns0] at cN cT hns hn6 HR
 clear hR hns0
 obtain⟨N,hN⟩:∃N,ns.length=N:=⟨_,rfl⟩
 have HN:Hid (ns.length=N):=hN
 rw[hN] at hn6 cT
 have HT:=(show Aside _ from cT)
 clear hN cT
 go_enter Tryz.func69,Tryz.ntmps69
 go_wp2_with (refine hld _ (Below.refl _ _) rfl _ rfl rfl ?_)
 go_wp2_with fail
 refine cN.mono ?_
 rintro e w1 ⟨⟨nv,rfl,hST⟩,b2⟩
 obtain⟨np',nc',rfl⟩:=zgH hST.out
 rw[HN.out] at hST
 rw[HN.out]
 have hs1:w.heap.size+1≤w1.heap.size:=by have:=b2.size;simpa using this
 have BQ1:Below (w.heap.size+1) (w.alloc (.cells QC 34)) w1:=b2.mono (by simp)
 have HS1:Aside (StsA w1 (.slice np' N nc') ns):=hST.out
 clear cN hST b2
 have hnz:(N:Int)≤6:=by omega
 go_wp2
 go_loopg [6,7,8,9,10,14] N (fun gg s6 _ _ _ _ s14 wr=>∃(kk:Nat) (out:List Cl) (u:Value),kk≤N∧N-kk≤gg∧s14=.int .i64 (kk:Int)∧s6=u∧Aside (wr.ownsRow w1.heap.size 24 2 u kk (colC out))∧Aside (Below w1.heap.size w1 wr)∧Hid (out.length=kk)∧Hid (∀z∈out,z.1.size≤maxLen)∧Hid (clQ zs q kk out (ns.drop kk)=(RL,RE)))
 case atStart=>exact⟨0,[],.slice none 0 0,Nat.zero_le _,by omega,rfl,rfl,(show Aside _ from World.ownsRow_nil _ _ _ _),(show Aside _ from Below.refl _ _),(show Hid _ from rfl),(show Hid _ from fun z hz=>by cases hz),HR⟩
 case round =>
  obtain⟨kk,out,u,hkk,hgk,rfl,hu,OJ,BJ,HOL,HOS,HC⟩:=hrel
  obtain rfl:u=_:=hu.symm
  clear HR
  have hbs:=BJ.out.size
  by_cases hlt:kk<N
  ·have hltz:(kk:Int)<(N:Int):=by omega
   have h0z:(0:Int)≤(kk:Int):=by omega
   have hk2:kk<ns.length:=by rw[HN.out];exact hlt
   obtain⟨nb,no,rfl,hnl,hnc⟩:=zez HS1.out hk2
   have hcell:=hnc kk hk2
   rw[←BJ.out.cell (p:=⟨nb,no+kk,none⟩) hnl] at hcell
   have hnl2:nb<wr.heap.size:=by omega
   have BQ:Below (w.heap.size+1) (w.alloc (.cells QC 34)) wr:=BQ1.trans (BJ.out.mono hs1)
   have Bw:Below w.heap.size w wr:=b1.trans (BQ.mono (by omega))
   obtain⟨T1,E1,hty⟩:∃T1 E1,tyAt zs q kk=(T1,E1):=⟨_,_,rfl⟩
   have cT:=HT.out wr Bw kk hlt T1 E1 hty
   have HC2:Hid ((if E1≠0 then ([],E1) else clQ zs q (kk+1) (out++[(ns[kk],T1)]) (ns.drop (kk+1)))=(RL,RE)):=by
    show _=_
    rw[←HC.out,znv hk2,hty]
   have hsk:ns[kk].size≤1048576:=hns _ (List.getElem_mem hk2)
   clear hnc HC hty HS1
   generalize ns[kk]=nm at hcell HC2 hsk
   by_cases hE:E1=0
   ·subst hE
    rw[errV,if_pos rfl] at cT
    have HC3:Hid (clQ zs q (kk+1) (out++[(nm,T1)]) (ns.drop (kk+1))=(RL,RE)):=by
     show _=_
     rw[←HC2.out,if_neg (by simp)]
    clear HC2
    obtain⟨uq,uc,rfl⟩:=zaa OJ.out
    go_wp2_with (refine hld _ BQ rfl _ rfl rfl ?_)
    go_wp2_with fail
    refine cT.mono ?_
    rintro e w2 ⟨rfl,b3⟩
    have cC:=zbi nm w2 (by omega)
    clear hld cT
    go_wp2_with fail
    refine cC.mono ?_
    rintro e w3 ⟨rfl,b4⟩
    have hs2:=b3.size
    have hs3:=b4.size
    have b5:Below wr.heap.size wr w3:=b3.trans (b4.mono hs2)
    have O2:=(zac OJ.out b5).alloc (.cells #[.string nm,.int .i64 T1] 24)
    have B5:Below w1.heap.size w1 (w3.alloc (.cells #[.string nm,.int .i64 T1] 24)):=(BJ.out.trans (b5.mono hbs)).alloc (by omega) _
    go_wp2_with (at_builtin;refine zcu rfl _ _ rfl w1.heap.size _ kk out rfl O2 w3.heap.size 1 nm T1 rfl (by rw[World.cell?_alloc_at _ _ _ _ rfl];rfl) (by rw[World.cell?_alloc_at _ _ _ _ rfl];rfl) (colC (out++[(nm,T1)])) rfl (by omega) (by simp;omega) ?_)
    intro v' w4 ho hb
    have O3:Aside (w4.ownsRow w1.heap.size 24 2 v' (kk+1) (colC (out++[(nm,T1)]))):=ho
    have B6:Aside (Below w1.heap.size w1 w4):=B5.trans hb
    have HO2:Hid ((out++[(nm,T1)]).length=kk+1):=by show _=_;rw[List.length_append,HOL.out];rfl
    have HO3:Hid (∀z∈out++[(nm,T1)],z.1.size≤maxLen):=by
     intro z hz
     rcases List.mem_append.1 hz with h|h
     ·exact HOS.out z h
     ·rw[List.mem_singleton.1 h];exact Nat.le_trans hsk (by decide)
    clear ho hb OJ BJ O2 B5 b5 cC HOL HOS
    go_wp2
    go_roundg (N-(kk+1))
    case measure=>omega
    case rel=>exact⟨kk+1,out++[(nm,T1)],v',by omega,by omega,by go_num,rfl,O3,B6,HO2,HO3,HC3⟩
   ·rw[errV,if_neg hE] at cT
    have he:=HC2.out
    rw[if_pos hE] at he
    obtain⟨rfl,rfl⟩:=Prod.mk.inj he
    go_wp2_with (refine hld _ BQ rfl _ rfl rfl ?_)
    go_wp2_with fail
    refine cT.mono ?_
    rintro e w2 ⟨rfl,b3⟩
    clear hld HT cT
    go_wp2
    go_ret2
    refine⟨⟨_,?_,(show Aside _ from ⟨none,0,rfl,.inl rfl⟩)⟩,Bw.trans (b3.mono (by omega))⟩
    rw[errV,if_neg hE]
    rfl
  ·have hltz:¬(kk:Int)<(N:Int):=by omega
   obtain rfl:kk=N:=by omega
   have he:=HC.out
   rw[List.drop_eq_nil_of_le (by rw[HN.out];exact Nat.le_refl _),clQ] at he
   obtain⟨rfl,rfl⟩:=Prod.mk.inj he
   have O2:Aside (ColsV wr u out):=ziS HOL.out HOS.out OJ.out
   have B2:Below w.heap.size w wr:=b1.trans ((BQ1.trans (BJ.out.mono hs1)).mono (by omega))
   clear OJ BJ HT hld HC he
   go_wp2
   go_ret2
   refine⟨⟨u,?_,O2⟩,B2⟩
   rw[errV,if_pos rfl]
   rfl
set_option maxRecDepth 20000 in
theorem zpB{L:Ex→Prop}(q:Qy)(lo:Nat→Prop)(v vl:Value)(zs:List Cl)(w:World)(henv:TyEnv L w)(hL:TyL L q)(haenv:AEnv w)(hq:QyIn w lo v q)(hcv:ColsV w vl zs)(hA:QyA q)(RL:List Cl)(RE:Int)(hR:chQ zs q=(RL,RE)) :
  Calls Tryz.prog 38 #[v,vl] w fun e w'=>(∃u,e=.returned (.tuple #[u,errV RE])∧Aside (ColsV w' u RL))∧Below w.heap.size w w':=by
 obtain⟨wp,wc,cp,cc,np,nc,gp,gc,ap,ac,rfl,hB⟩:=hq
 obtain⟨z1,z2,rfl⟩:=zaM hcv
 have hQ:=qv_of q wp wc cp cc np nc gp gc ap ac
 have hW:∀(j:Nat) (v:Value),([.string q.whr.op,.string q.whr.nm,.int .i64 q.whr.vt,.int .i64 q.whr.vn,.string q.whr.vs,.slice wp q.whr.args.length wc,.int .i64 q.whr.pos]:List Value)[j]?=some v→(qyC q wp wc cp cc np nc gp gc ap ac)[1+j]?=some v:=fun j v hv=>by
  have hj:j<7:=by have:=(List.getElem?_eq_some_iff.1 hv).1;simpa using this
  have:j=0∨j=1∨j=2∨j=3∨j=4∨j=5∨j=6:=by omega
  rcases this with rfl|rfl|rfl|rfl|rfl|rfl|rfl
  all_goals (simp at hv;subst hv;rfl)
 generalize qyC q wp wc cp cc np nc gp gc ap ac=QC at hQ hW ⊢
 have b1:=(Below.refl w.heap.size w).alloc (Nat.le_refl _) (.cells QC 34)
 have hs14:(Tryz.prog.info? 34).map (·.size)=some QC.size:=by rw[hQ.size];exact zgE
 have hblk:∀W,Below (w.heap.size+1) (w.alloc (.cells QC 34)) W→W.heap[w.heap.size]?=some (.cells QC 34 (0,0)):=fun W hb=>by rw[hb.block _ (Nat.lt_succ_self _)];exact zbp w QC _
 have hld:∀W,Below (w.heap.size+1) (w.alloc (.cells QC 34)) W→∀{ops:Array Oper} {rest:List Oper} {op:Oper} {a:Act} {Q:Exit→Act→World→Prop} (hgd:op.guard=none) (x:Operand) (ho:op.op=.load 34 x) (hx:a.eval x=.pointer (some ⟨w.heap.size,0,none⟩)),wpList Tryz.prog ops Q rest (a.put op.dst (.agg QC)) W→wpList Tryz.prog ops Q (op::rest) a W:=fun W hb=>fun hgd x ho hx=>wpList_load_row hgd 34 x ho w.heap.size hx _ QC _ _ (hblk W hb) Tryz.underlying34 rfl hs14
 have hlw:∀W,Below (w.heap.size+1) (w.alloc (.cells QC 34)) W→∀{ops:Array Oper} {rest:List Oper} {op:Oper} {a:Act} {Q:Exit→Act→World→Prop} (hgd:op.guard=none) (x:Operand) (ho:op.op=.load 30 x) (hx:a.eval x=.pointer (some ⟨w.heap.size,1,none⟩)),wpList Tryz.prog ops Q rest (a.put op.dst (exV q.whr wp wc)) W→wpList Tryz.prog ops Q (op::rest) a W:=fun W hb=>fun hgd x ho hx=>wpList_load_mid hgd 30 x ho w.heap.size 1 hx _ _ (fun j v hv=>by
  have:=hW j v hv
  simp only[World.cell?,hblk W hb]
  exact this) Tryz.underlying30 rfl zbe
 have cS:=fun W (hb:Below w.heap.size w W)=>zkk _ zs W (henv.tw.on hb) (hcv.on hb)
 have cF:=fun W=>zhI QC q cp cc np nc gp gc ap ac W hQ hA.z1 hA.z2 hB.clen (by obtain⟨_,_,_,⟨_,h⟩,_⟩:=hB.group;exact h) hB.aggs.1 _ rfl
 have cW:=fun W (hb:Below w.heap.size w W)=>zfS q.whr lo _ _ zs W (henv.on hb) hL.1 (hB.whr.on hb) hA.wn (hcv.on hb) _ rfl
 have cC:=fun W (hb:Below w.heap.size w W) h1 h2=>zlg q lo wp wc cp cc np nc gp gc ap ac QC hQ _ zs W (henv.on hb) (haenv.on hb) (hB.on hb) (hcv.on hb) h1 hA h2 hL
 have cS2:=fun W (hb:Below w.heap.size w W) v zs (h:ColsV W v zs)=>zkk v zs W (henv.tw.on hb) h
 rw[chQ] at hR
 have hform:formQ q=0→OkF q:=zqc
 clear hQ hB hcv henv haenv hA hs14 hblk hW hL
 generalize exV q.whr wp wc=XV at cW hlw
 generalize zs.length=NZ at cS cW cC ⊢
 generalize schE zs=SE at cS cC hR
 generalize whQ zs q.whr=WE at cW hR
 obtain⟨CL,CE,hcl⟩:∃CL CE,clQ zs q 0 [] (zaZ q)=(CL,CE):=⟨_,_,rfl⟩
 rw[hcl] at hR
 have cC2:=fun W hb h1 h2=>cC W hb h1 h2 CL CE hcl
 clear cC hcl
 generalize formQ q=FE at cF hR hform
 simp only at hR
 by_cases h1:SE=0
 ·subst h1
  rw[if_neg (by simp)] at hR
  simp only[errV,if_true] at cS
  by_cases h2:FE=0
  ·subst h2
   rw[if_neg (by simp)] at hR
   simp only[errV,if_true] at cF
   by_cases h3:WE=0
   ·subst h3
    rw[if_neg (by simp)] at hR
    simp only[errV,if_true] at cW
    by_cases h4:CE=0
    ·subst h4
     rw[if_neg (by simp)] at hR
     have cC3:=cC2
     clear cC2
     have cC2:=cC3
     clear cC3
     simp only[errV,if_true] at cC2
     by_cases h5:schE CL=0
     ·rw[if_neg (by rw[h5];simp)] at hR
      obtain⟨rfl,rfl⟩:=Prod.mk.inj hR
      go_enter Tryz.func38,Tryz.ntmps38
      go_wp2_with fail
      refine (cS _ b1).mono ?_
      rintro e w1 ⟨rfl,b2⟩
      have hs1:w.heap.size+1≤w1.heap.size:=by have:=b2.size;simpa using this
      have BQ1:Below (w.heap.size+1) (w.alloc (.cells QC 34)) w1:=b2.mono (by simp)
      go_wp2_with (refine hld _ BQ1 rfl _ rfl rfl ?_)
      go_wp2_with fail
      refine (cF _).mono ?_
      rintro e w2 ⟨rfl,b3⟩
      have hs2:w.heap.size+1≤w2.heap.size:=by have:=b3.size;omega
      have BQ2:Below (w.heap.size+1) (w.alloc (.cells QC 34)) w2:=BQ1.trans (b3.mono hs1)
      go_wp2_with (refine hlw _ BQ2 rfl _ rfl rfl ?_)
      go_wp2_with fail
      refine (cW _ (b1.trans (BQ2.mono (by omega)))).mono ?_
      rintro e w3 ⟨rfl,b4⟩
      have hs3:w.heap.size+1≤w3.heap.size:=by have:=b4.size;omega
      have BQ3:Below (w.heap.size+1) (w.alloc (.cells QC 34)) w3:=BQ2.trans (b4.mono hs2)
      go_wp2_with (refine hld _ BQ3 rfl _ rfl rfl ?_)
      go_wp2_with fail
      refine (cC2 _ (b1.trans (BQ3.mono (by omega))) (by first|rfl|trivial) (hform (by first|rfl|trivial))).mono ?_
      rintro e w4 ⟨⟨u,rfl,HU⟩,b5⟩
      have hs4:w.heap.size+1≤w4.heap.size:=by have:=b5.size;omega
      have BQ4:Below (w.heap.size+1) (w.alloc (.cells QC 34)) w4:=BQ3.trans (b5.mono hs3)
      have H5:Hid (schE CL=0):=h5
      have c5:=cS2 w4 (b1.trans (BQ4.mono (by omega))) u CL HU.out
      rw[H5.out,errV,if_pos rfl] at c5
      go_wp2_with fail
      refine c5.mono ?_
      rintro e w5 ⟨rfl,b6⟩
      have BQ5:Below (w.heap.size+1) (w.alloc (.cells QC 34)) w5:=BQ4.trans (b6.mono hs4)
      clear hld hlw cS cF cW cC2 cS2
      go_wp2
      go_ret2
      refine⟨⟨u,?_,(show Aside _ from HU.out.on b6)⟩,b1.trans (BQ5.mono (by omega))⟩
      rw[errV,if_pos rfl]
      rfl
     ·rw[if_pos h5] at hR
      obtain⟨rfl,rfl⟩:=Prod.mk.inj hR
      go_enter Tryz.func38,Tryz.ntmps38
      go_wp2_with fail
      refine (cS _ b1).mono ?_
      rintro e w1 ⟨rfl,b2⟩
      have hs1:w.heap.size+1≤w1.heap.size:=by have:=b2.size;simpa using this
      have BQ1:Below (w.heap.size+1) (w.alloc (.cells QC 34)) w1:=b2.mono (by simp)
      go_wp2_with (refine hld _ BQ1 rfl _ rfl rfl ?_)
      go_wp2_with fail
      refine (cF _).mono ?_
      rintro e w2 ⟨rfl,b3⟩
      have hs2:w.heap.size+1≤w2.heap.size:=by have:=b3.size;omega
      have BQ2:Below (w.heap.size+1) (w.alloc (.cells QC 34)) w2:=BQ1.trans (b3.mono hs1)
      go_wp2_with (refine hlw _ BQ2 rfl _ rfl rfl ?_)
      go_wp2_with fail
      refine (cW _ (b1.trans (BQ2.mono (by omega)))).mono ?_
      rintro e w3 ⟨rfl,b4⟩
      have hs3:w.heap.size+1≤w3.heap.size:=by have:=b4.size;omega
      have BQ3:Below (w.heap.size+1) (w.alloc (.cells QC 34)) w3:=BQ2.trans (b4.mono hs2)
      go_wp2_with (refine hld _ BQ3 rfl _ rfl rfl ?_)
      go_wp2_with fail
      refine (cC2 _ (b1.trans (BQ3.mono (by omega))) (by first|rfl|trivial) (hform (by first|rfl|trivial))).mono ?_
      rintro e w4 ⟨⟨u,rfl,HU⟩,b5⟩
      have hs4:w.heap.size+1≤w4.heap.size:=by have:=b5.size;omega
      have BQ4:Below (w.heap.size+1) (w.alloc (.cells QC 34)) w4:=BQ3.trans (b5.mono hs3)
      have c5:=cS2 w4 (b1.trans (BQ4.mono (by omega))) u CL HU.out
      rw[errV,if_neg h5] at c5
      go_wp2_with fail
      refine c5.mono ?_
      rintro e w5 ⟨rfl,b6⟩
      have BQ5:Below (w.heap.size+1) (w.alloc (.cells QC 34)) w5:=BQ4.trans (b6.mono hs4)
      clear hld hlw cS cF cW cC2 cS2
      go_wp2
      go_ret2
      refine⟨⟨_,?_,(show Aside _ from ⟨none,0,rfl,.inl rfl⟩)⟩,b1.trans (BQ5.mono (by omega))⟩
      rw[errV,if_neg h5]
      rfl
    ·rw[if_pos h4] at hR
     simp only[errV,if_neg h4] at cC2
     obtain⟨rfl,rfl⟩:=Prod.mk.inj hR
     go_enter Tryz.func38,Tryz.ntmps38
     go_wp2_with fail
     refine (cS _ b1).mono ?_
     rintro e w1 ⟨rfl,b2⟩
     have hs1:w.heap.size+1≤w1.heap.size:=by have:=b2.size;simpa using this
     have BQ1:Below (w.heap.size+1) (w.alloc (.cells QC 34)) w1:=b2.mono (by simp)
     go_wp2_with (refine hld _ BQ1 rfl _ rfl rfl ?_)
     go_wp2_with fail
     refine (cF _).mono ?_
     rintro e w2 ⟨rfl,b3⟩
     have hs2:w.heap.size+1≤w2.heap.size:=by have:=b3.size;omega
     have BQ2:Below (w.heap.size+1) (w.alloc (.cells QC 34)) w2:=BQ1.trans (b3.mono hs1)
     go_wp2_with (refine hlw _ BQ2 rfl _ rfl rfl ?_)
     go_wp2_with fail
     refine (cW _ (b1.trans (BQ2.mono (by omega)))).mono ?_
     rintro e w3 ⟨rfl,b4⟩
     have hs3:w.heap.size+1≤w3.heap.size:=by have:=b4.size;omega
     have BQ3:Below (w.heap.size+1) (w.alloc (.cells QC 34)) w3:=BQ2.trans (b4.mono hs2)
     go_wp2_with (refine hld _ BQ3 rfl _ rfl rfl ?_)
     go_wp2_with fail
     refine (cC2 _ (b1.trans (BQ3.mono (by omega))) (by first|rfl|trivial) (hform (by first|rfl|trivial))).mono ?_
     rintro e w4 ⟨⟨u,rfl,HU⟩,b5⟩
     have hs4:w.heap.size+1≤w4.heap.size:=by have:=b5.size;omega
     have BQ4:Below (w.heap.size+1) (w.alloc (.cells QC 34)) w4:=BQ3.trans (b5.mono hs3)
     clear hld hlw cS cF cW cC2 cS2
     go_wp2
     go_ret2
     refine⟨⟨_,?_,(show Aside _ from ⟨none,0,rfl,.inl rfl⟩)⟩,b1.trans (BQ4.mono (by omega))⟩
     rw[errV,if_neg h4]
     rfl
   ·rw[if_pos h3] at hR
    simp only[errV,if_neg h3] at cW
    obtain⟨rfl,rfl⟩:=Prod.mk.inj hR
    go_enter Tryz.func38,Tryz.ntmps38
    go_wp2_with fail
    refine (cS _ b1).mono ?_
    rintro e w1 ⟨rfl,b2⟩
    have hs1:w.heap.size+1≤w1.heap.size:=by have:=b2.size;simpa using this
    have BQ1:Below (w.heap.size+1) (w.alloc (.cells QC 34)) w1:=b2.mono (by simp)
    go_wp2_with (refine hld _ BQ1 rfl _ rfl rfl ?_)
    go_wp2_with fail
    refine (cF _).mono ?_
    rintro e w2 ⟨rfl,b3⟩
    have hs2:w.heap.size+1≤w2.heap.size:=by have:=b3.size;omega
    have BQ2:Below (w.heap.size+1) (w.alloc (.cells QC 34)) w2:=BQ1.trans (b3.mono hs1)
    go_wp2_with (refine hlw _ BQ2 rfl _ rfl rfl ?_)
    go_wp2_with fail
    refine (cW _ (b1.trans (BQ2.mono (by omega)))).mono ?_
    rintro e w3 ⟨rfl,b4⟩
    have hs3:w.heap.size+1≤w3.heap.size:=by have:=b4.size;omega
    have BQ3:Below (w.heap.size+1) (w.alloc (.cells QC 34)) w3:=BQ2.trans (b4.mono hs2)
    clear hld hlw cS cF cW cC2 cS2
    go_wp2
    go_ret2
    refine⟨⟨_,?_,(show Aside _ from ⟨none,0,rfl,.inl rfl⟩)⟩,b1.trans (BQ3.mono (by omega))⟩
    rw[errV,if_neg h3]
    rfl
  ·rw[if_pos h2] at hR
   simp only[errV,if_neg h2] at cF
   obtain⟨rfl,rfl⟩:=Prod.mk.inj hR
   go_enter Tryz.func38,Tryz.ntmps38
   go_wp2_with fail
   refine (cS _ b1).mono ?_
   rintro e w1 ⟨rfl,b2⟩
   have hs1:w.heap.size+1≤w1.heap.size:=by have:=b2.size;simpa using this
   have BQ1:Below (w.heap.size+1) (w.alloc (.cells QC 34)) w1:=b2.mono (by simp)
   go_wp2_with (refine hld _ BQ1 rfl _ rfl rfl ?_)
   go_wp2_with fail
   refine (cF _).mono ?_
   rintro e w2 ⟨rfl,b3⟩
   have hs2:w.heap.size+1≤w2.heap.size:=by have:=b3.size;omega
   have BQ2:Below (w.heap.size+1) (w.alloc (.cells QC 34)) w2:=BQ1.trans (b3.mono hs1)
   clear hld hlw cS cF cW cC2 cS2
   go_wp2
   go_ret2
   refine⟨⟨_,?_,(show Aside _ from ⟨none,0,rfl,.inl rfl⟩)⟩,b1.trans (BQ2.mono (by omega))⟩
   rw[errV,if_neg h2]
   rfl
 ·rw[if_pos h1] at hR
  simp only[errV,if_neg h1] at cS
  obtain⟨rfl,rfl⟩:=Prod.mk.inj hR
  go_enter Tryz.func38,Tryz.ntmps38
  go_wp2_with fail
  refine (cS _ b1).mono ?_
  rintro e w1 ⟨rfl,b2⟩
  have hs1:w.heap.size+1≤w1.heap.size:=by have:=b2.size;simpa using this
  have BQ1:Below (w.heap.size+1) (w.alloc (.cells QC 34)) w1:=b2.mono (by simp)
  clear hld hlw cS cF cW cC2 cS2
  go_wp2
  go_ret2
  refine⟨⟨_,?_,(show Aside _ from ⟨none,0,rfl,.inl rfl⟩)⟩,b1.trans (BQ1.mono (by omega))⟩
  rw[errV,if_neg h1]
  rfl
end
end Go.Proofs.YtopghagjmdbglaaGreatDoor
