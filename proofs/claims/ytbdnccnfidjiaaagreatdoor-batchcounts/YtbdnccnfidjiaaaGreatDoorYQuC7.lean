/-
  QuC7.
-/
import Derived.Test.YtbdnccnfidjiaaaGreatDoorGyAp
namespace Go.Proofs.YtbdnccnfidjiaaaGreatDoor
open Go.RowKit
set_option linter.unusedVariables false
set_option linter.unusedSimpArgs false
set_option maxHeartbeats 8000000
section
open Go.BigFrame
set_option maxRecDepth 20000 in
theorem zqm{L:Ex→Prop}(q:Qy)(lo:Nat→Prop)(v vl:Value)(zs:List Cl)(w:World)(henv:TyEnv L w)(hL:TyL L q)(haenv:AEnv w)(hq:QyIn w lo v q)(hcv:ColsV w vl zs)(hA:QyA q)(RL:List Cl)(RE:Int)(hR:chQ zs q=(RL,RE)) :
  Calls Tryz.prog 33 #[v,vl] w fun e w'=>(∃u,e=.returned (.tuple #[u,errV RE])∧Aside (ColsV w' u RL))∧Below w.heap.size w w':=by
 obtain⟨wp,wc,cp,cc,np,nc,gp,gc,ap,ac,rfl,hB⟩:=hq
 obtain⟨z1,z2,rfl⟩:=zaO hcv
 have hQ:=qv_of q wp wc cp cc np nc gp gc ap ac
 have hW:∀(j:Nat) (v:Value),([.string q.whr.op,.string q.whr.nm,.int .i64 q.whr.vt,.int .i64 q.whr.vn,.string q.whr.vs,.slice wp q.whr.args.length wc,.int .i64 q.whr.pos]:List Value)[j]?=some v→(qyC q wp wc cp cc np nc gp gc ap ac)[1+j]?=some v:=fun j v hv=>by
  have hj:j<7:=by have:=(List.getElem?_eq_some_iff.1 hv).1;simpa using this
  have:j=0∨j=1∨j=2∨j=3∨j=4∨j=5∨j=6:=by omega
  rcases this with rfl|rfl|rfl|rfl|rfl|rfl|rfl
  all_goals (simp at hv;subst hv;rfl)
 generalize qyC q wp wc cp cc np nc gp gc ap ac=QC at hQ hW ⊢
 have b1:=(Below.refl w.heap.size w).alloc (Nat.le_refl _) (.cells QC 34)
 have hs14:(Tryz.prog.info? 34).map (·.size)=some QC.size:=by rw[hQ.size];exact zgT
 have hblk:∀W,Below (w.heap.size+1) (w.alloc (.cells QC 34)) W→W.heap[w.heap.size]?=some (.cells QC 34 (0,0)):=fun W hb=>by rw[hb.block _ (Nat.lt_succ_self _)];exact zbb w QC _
 have hld:∀W,Below (w.heap.size+1) (w.alloc (.cells QC 34)) W→∀{ops:Array Oper} {rest:List Oper} {op:Oper} {a:Act} {Q:Exit→Act→World→Prop} (hgd:op.guard=none) (x:Operand) (ho:op.op=.load 34 x) (hx:a.eval x=.pointer (some ⟨w.heap.size,0,none⟩)),wpList Tryz.prog ops Q rest (a.put op.dst (.agg QC)) W→wpList Tryz.prog ops Q (op::rest) a W:=fun W hb=>fun hgd x ho hx=>wpList_load_row hgd 34 x ho w.heap.size hx _ QC _ _ (hblk W hb) Tryz.underlying34 rfl hs14
 have hlw:∀W,Below (w.heap.size+1) (w.alloc (.cells QC 34)) W→∀{ops:Array Oper} {rest:List Oper} {op:Oper} {a:Act} {Q:Exit→Act→World→Prop} (hgd:op.guard=none) (x:Operand) (ho:op.op=.load 31 x) (hx:a.eval x=.pointer (some ⟨w.heap.size,1,none⟩)),wpList Tryz.prog ops Q rest (a.put op.dst (exV q.whr wp wc)) W→wpList Tryz.prog ops Q (op::rest) a W:=fun W hb=>fun hgd x ho hx=>wpList_load_mid hgd 31 x ho w.heap.size 1 hx _ _ (fun j v hv=>by
  have:=hW j v hv
  simp only[World.cell?,hblk W hb]
  exact this) Tryz.underlying31 rfl zbf
 have cS:=fun W (hb:Below w.heap.size w W)=>zkH _ zs W (henv.tw.on hb) (hcv.on hb)
 have cF:=fun W=>zhZ QC q cp cc np nc gp gc ap ac W hQ hA.z1 hA.z2 hB.clen (by obtain⟨_,_,_,⟨_,h⟩,_⟩:=hB.group;exact h) hB.aggs.1 _ rfl
 have cW:=fun W (hb:Below w.heap.size w W)=>zgf q.whr lo _ _ zs W (henv.on hb) hL.1 (hB.whr.on hb) hA.wn (hcv.on hb) _ rfl
 have cC:=fun W (hb:Below w.heap.size w W) h1 h2=>zlI q lo wp wc cp cc np nc gp gc ap ac QC hQ _ zs W (henv.on hb) (haenv.on hb) (hB.on hb) (hcv.on hb) h1 hA h2 hL
 have cS2:=fun W (hb:Below w.heap.size w W) v zs (h:ColsV W v zs)=>zkH v zs W (henv.tw.on hb) h
 rw[chQ] at hR
 have hform:formQ q=0→OkF q:=zqN
 clear hQ hB hcv henv haenv hA hs14 hblk hW hL
 generalize exV q.whr wp wc=XV at cW hlw
 generalize zs.length=NZ at cS cW cC ⊢
 generalize schE zs=SE at cS cC hR
 generalize whQ zs q.whr=WE at cW hR
 obtain⟨CL,CE,hcl⟩:∃CL CE,clQ zs q 0 [] (zaT q)=(CL,CE):=⟨_,_,rfl⟩
 rw[hcl] at hR
 have cC2:=fun W hb h1 h2=>cC W hb h1 h2 CL CE hcl
 clear cC hcl
 generalize formQ q=FE at cF hR hform
 simp only at hR
 by_cases h1:SE=0
 ·subst h1
  rw[if_neg (by simp)] at hR
  simp only[errV,if_true] at cS
  by_cases h2:FE=0
  ·subst h2
   rw[if_neg (by simp)] at hR
   simp only[errV,if_true] at cF
   by_cases h3:WE=0
   ·subst h3
    rw[if_neg (by simp)] at hR
    simp only[errV,if_true] at cW
    by_cases h4:CE=0
    ·subst h4
     rw[if_neg (by simp)] at hR
     have cC3:=cC2
     clear cC2
     have cC2:=cC3
     clear cC3
     simp only[errV,if_true] at cC2
     by_cases h5:schE CL=0
     ·rw[if_neg (by rw[h5];simp)] at hR
      obtain⟨rfl,rfl⟩:=Prod.mk.inj hR
      go_enter Tryz.func33,Tryz.ntmps33
      go_wp2_with fail
      refine (cS _ b1).mono ?_
      rintro e w1 ⟨rfl,b2⟩
      have hs1:w.heap.size+1≤w1.heap.size:=by have:=b2.size;simpa using this
      have BQ1:Below (w.heap.size+1) (w.alloc (.cells QC 34)) w1:=b2.mono (by simp)
      go_wp2_with (refine hld _ BQ1 rfl _ rfl rfl ?_)
      go_wp2_with fail
      refine (cF _).mono ?_
      rintro e w2 ⟨rfl,b3⟩
      have hs2:w.heap.size+1≤w2.heap.size:=by have:=b3.size;omega
      have BQ2:Below (w.heap.size+1) (w.alloc (.cells QC 34)) w2:=BQ1.trans (b3.mono hs1)
      go_wp2_with (refine hlw _ BQ2 rfl _ rfl rfl ?_)
      go_wp2_with fail
      refine (cW _ (b1.trans (BQ2.mono (by omega)))).mono ?_
      rintro e w3 ⟨rfl,b4⟩
      have hs3:w.heap.size+1≤w3.heap.size:=by have:=b4.size;omega
      have BQ3:Below (w.heap.size+1) (w.alloc (.cells QC 34)) w3:=BQ2.trans (b4.mono hs2)
      go_wp2_with (refine hld _ BQ3 rfl _ rfl rfl ?_)
      go_wp2_with fail
      refine (cC2 _ (b1.trans (BQ3.mono (by omega))) (by first|rfl|trivial) (hform (by first|rfl|trivial))).mono ?_
      rintro e w4 ⟨⟨u,rfl,HU⟩,b5⟩
      have hs4:w.heap.size+1≤w4.heap.size:=by have:=b5.size;omega
      have BQ4:Below (w.heap.size+1) (w.alloc (.cells QC 34)) w4:=BQ3.trans (b5.mono hs3)
      have H5:Hid (schE CL=0):=h5
      have c5:=cS2 w4 (b1.trans (BQ4.mono (by omega))) u CL HU.out
      rw[H5.out,errV,if_pos rfl] at c5
      go_wp2_with fail
      refine c5.mono ?_
      rintro e w5 ⟨rfl,b6⟩
      have BQ5:Below (w.heap.size+1) (w.alloc (.cells QC 34)) w5:=BQ4.trans (b6.mono hs4)
      clear hld hlw cS cF cW cC2 cS2
      go_wp2
      go_ret2
      refine⟨⟨u,?_,(show Aside _ from HU.out.on b6)⟩,b1.trans (BQ5.mono (by omega))⟩
      rw[errV,if_pos rfl]
      rfl
     ·rw[if_pos h5] at hR
      obtain⟨rfl,rfl⟩:=Prod.mk.inj hR
      go_enter Tryz.func33,Tryz.ntmps33
      go_wp2_with fail
      refine (cS _ b1).mono ?_
      rintro e w1 ⟨rfl,b2⟩
      have hs1:w.heap.size+1≤w1.heap.size:=by have:=b2.size;simpa using this
      have BQ1:Below (w.heap.size+1) (w.alloc (.cells QC 34)) w1:=b2.mono (by simp)
      go_wp2_with (refine hld _ BQ1 rfl _ rfl rfl ?_)
      go_wp2_with fail
      refine (cF _).mono ?_
      rintro e w2 ⟨rfl,b3⟩
      have hs2:w.heap.size+1≤w2.heap.size:=by have:=b3.size;omega
      have BQ2:Below (w.heap.size+1) (w.alloc (.cells QC 34)) w2:=BQ1.trans (b3.mono hs1)
      go_wp2_with (refine hlw _ BQ2 rfl _ rfl rfl ?_)
      go_wp2_with fail
      refine (cW _ (b1.trans (BQ2.mono (by omega)))).mono ?_
      rintro e w3 ⟨rfl,b4⟩
      have hs3:w.heap.size+1≤w3.heap.size:=by have:=b4.size;omega
      have BQ3:Below (w.heap.size+1) (w.alloc (.cells QC 34)) w3:=BQ2.trans (b4.mono hs2)
      go_wp2_with (refine hld _ BQ3 rfl _ rfl rfl ?_)
      go_wp2_with fail
      refine (cC2 _ (b1.trans (BQ3.mono (by omega))) (by first|rfl|trivial) (hform (by first|rfl|trivial))).mono ?_
      rintro e w4 ⟨⟨u,rfl,HU⟩,b5⟩
      have hs4:w.heap.size+1≤w4.heap.size:=by have:=b5.size;omega
      have BQ4:Below (w.heap.size+1) (w.alloc (.cells QC 34)) w4:=BQ3.trans (b5.mono hs3)
      have c5:=cS2 w4 (b1.trans (BQ4.mono (by omega))) u CL HU.out
      rw[errV,if_neg h5] at c5
      go_wp2_with fail
      refine c5.mono ?_
      rintro e w5 ⟨rfl,b6⟩
      have BQ5:Below (w.heap.size+1) (w.alloc (.cells QC 34)) w5:=BQ4.trans (b6.mono hs4)
      clear hld hlw cS cF cW cC2 cS2
      go_wp2
      go_ret2
      refine⟨⟨_,?_,(show Aside _ from ⟨none,0,rfl,.inl rfl⟩)⟩,b1.trans (BQ5.mono (by omega))⟩
      rw[errV,if_neg h5]
      rfl
    ·rw[if_pos h4] at hR
     simp only[errV,if_neg h4] at cC2
     obtain⟨rfl,rfl⟩:=Prod.mk.inj hR
     go_enter Tryz.func33,Tryz.ntmps33
     go_wp2_with fail
     refine (cS _ b1).mono ?_
     rintro e w1 ⟨rfl,b2⟩
     have hs1:w.heap.size+1≤w1.heap.size:=by have:=b2.size;simpa using this
     have BQ1:Below (w.heap.size+1) (w.alloc (.cells QC 34)) w1:=b2.mono (by simp)
     go_wp2_with (refine hld _ BQ1 rfl _ rfl rfl ?_)
     go_wp2_with fail
     refine (cF _).mono ?_
     rintro e w2 ⟨rfl,b3⟩
     have hs2:w.heap.size+1≤w2.heap.size:=by have:=b3.size;omega
     have BQ2:Below (w.heap.size+1) (w.alloc (.cells QC 34)) w2:=BQ1.trans (b3.mono hs1)
     go_wp2_with (refine hlw _ BQ2 rfl _ rfl rfl ?_)
     go_wp2_with fail
     refine (cW _ (b1.trans (BQ2.mono (by omega)))).mono ?_
     rintro e w3 ⟨rfl,b4⟩
     have hs3:w.heap.size+1≤w3.heap.size:=by have:=b4.size;omega
     have BQ3:Below (w.heap.size+1) (w.alloc (.cells QC 34)) w3:=BQ2.trans (b4.mono hs2)
     go_wp2_with (refine hld _ BQ3 rfl _ rfl rfl ?_)
     go_wp2_with fail
     refine (cC2 _ (b1.trans (BQ3.mono (by omega))) (by first|rfl|trivial) (hform (by first|rfl|trivial))).mono ?_
     rintro e w4 ⟨⟨u,rfl,HU⟩,b5⟩
     have hs4:w.heap.size+1≤w4.heap.size:=by have:=b5.size;omega
     have BQ4:Below (w.heap.size+1) (w.alloc (.cells QC 34)) w4:=BQ3.trans (b5.mono hs3)
     clear hld hlw cS cF cW cC2 cS2
     go_wp2
     go_ret2
     refine⟨⟨_,?_,(show Aside _ from ⟨none,0,rfl,.inl rfl⟩)⟩,b1.trans (BQ4.mono (by omega))⟩
     rw[errV,if_neg h4]
     rfl
   ·rw[if_pos h3] at hR
    simp only[errV,if_neg h3] at cW
    obtain⟨rfl,rfl⟩:=Prod.mk.inj hR
    go_enter Tryz.func33,Tryz.ntmps33
    go_wp2_with fail
    refine (cS _ b1).mono ?_
    rintro e w1 ⟨rfl,b2⟩
    have hs1:w.heap.size+1≤w1.heap.size:=by have:=b2.size;simpa using this
    have BQ1:Below (w.heap.size+1) (w.alloc (.cells QC 34)) w1:=b2.mono (by simp)
    go_wp2_with (refine hld _ BQ1 rfl _ rfl rfl ?_)
    go_wp2_with fail
    refine (cF _).mono ?_
    rintro e w2 ⟨rfl,b3⟩
    have hs2:w.heap.size+1≤w2.heap.size:=by have:=b3.size;omega
    have BQ2:Below (w.heap.size+1) (w.alloc (.cells QC 34)) w2:=BQ1.trans (b3.mono hs1)
    go_wp2_with (refine hlw _ BQ2 rfl _ rfl rfl ?_)
    go_wp2_with fail
    refine (cW _ (b1.trans (BQ2.mono (by omega)))).mono ?_
    rintro e w3 ⟨rfl,b4⟩
    have hs3:w.heap.size+1≤w3.heap.size:=by have:=b4.size;omega
    have BQ3:Below (w.heap.size+1) (w.alloc (.cells QC 34)) w3:=BQ2.trans (b4.mono hs2)
    clear hld hlw cS cF cW cC2 cS2
    go_wp2
    go_ret2
    refine⟨⟨_,?_,(show Aside _ from ⟨none,0,rfl,.inl rfl⟩)⟩,b1.trans (BQ3.mono (by omega))⟩
    rw[errV,if_neg h3]
    rfl
  ·rw[if_pos h2] at hR
   simp only[errV,if_neg h2] at cF
   obtain⟨rfl,rfl⟩:=Prod.mk.inj hR
   go_enter Tryz.func33,Tryz.ntmps33
   go_wp2_with fail
   refine (cS _ b1).mono ?_
   rintro e w1 ⟨rfl,b2⟩
   have hs1:w.heap.size+1≤w1.heap.size:=by have:=b2.size;simpa using this
   have BQ1:Below (w.heap.size+1) (w.alloc (.cells QC 34)) w1:=b2.mono (by simp)
   go_wp2_with (refine hld _ BQ1 rfl _ rfl rfl ?_)
   go_wp2_with fail
   refine (cF _).mono ?_
   rintro e w2 ⟨rfl,b3⟩
   have hs2:w.heap.size+1≤w2.heap.size:=by have:=b3.size;omega
   have BQ2:Below (w.heap.size+1) (w.alloc (.cells QC 34)) w2:=BQ1.trans (b3.mono hs1)
   clear hld hlw cS cF cW cC2 cS2
   go_wp2
   go_ret2
   refine⟨⟨_,?_,(show Aside _ from ⟨none,0,rfl,.inl rfl⟩)⟩,b1.trans (BQ2.mono (by omega))⟩
   rw[errV,if_neg h2]
   rfl
 ·rw[if_pos h1] at hR
  simp only[errV,if_neg h1] at cS
  obtain⟨rfl,rfl⟩:=Prod.mk.inj hR
  go_enter Tryz.func33,Tryz.ntmps33
  go_wp2_with fail
  refine (cS _ b1).mono ?_
  rintro e w1 ⟨rfl,b2⟩
  have hs1:w.heap.size+1≤w1.heap.size:=by have:=b2.size;simpa using this
  have BQ1:Below (w.heap.size+1) (w.alloc (.cells QC 34)) w1:=b2.mono (by simp)
  clear hld hlw cS cF cW cC2 cS2
  go_wp2
  go_ret2
  refine⟨⟨_,?_,(show Aside _ from ⟨none,0,rfl,.inl rfl⟩)⟩,b1.trans (BQ1.mono (by omega))⟩
  rw[errV,if_neg h1]
  rfl
end
end Go.Proofs.YtbdnccnfidjiaaaGreatDoor
