/-
  WmO, AdW, TeW.
-/
import Derived.Test.YtopghagjmdbglaaGreatDoorGyAy
import Derived.Test.YtopghagjmdbglaaGreatDoorGyAw
import Derived.Test.YtopghagjmdbglaaGreatDoorGyBe
import Derived.Test.YtopghagjmdbglaaGreatDoorGyAz
import Derived.Test.YtopghagjmdbglaaGreatDoorGyAp
import Derived.Test.YtopghagjmdbglaaGreatDoorYPuW
import Derived.Test.YtopghagjmdbglaaGreatDoorGyBb
import Derived.Lib.SliceRun
namespace Go.Proofs.YtopghagjmdbglaaGreatDoor
open Go.RowKit
set_option linter.unusedVariables false
set_option linter.unusedSimpArgs false
set_option maxHeartbeats 8000000
section
open Go.BigFrame
theorem zqG(sb:Nat)(a:Option Addr)(c:Nat)(w:World)(hs:w.cell? ⟨sb,1,none⟩=some (.slice a 0 c)) :
  Calls Tryz.prog 150 #[.pointer (some ⟨sb,0,none⟩)] w fun e w'=>e=.returned (.slice none 0 0)∧Below w.heap.size w w':=by
 go_enter Tryz.func150,Tryz.ntmps150
 go_wp2
 go_loopg [3,5,6,12] 0 (fun gg s3 _ _ s12 wr=>s12=.int .i64 0∧s3=.slice none 0 0∧Aside (Below w.heap.size w wr))
 case atStart=>exact⟨rfl,rfl,(show Aside _ from Below.refl _ _)⟩
 case round =>
  obtain⟨rfl,rfl,BJ⟩:=hrel
  go_wp2
  go_ret
  exact⟨rfl,BJ.out⟩
theorem zqJ{W:World}{B:Nat}{q:Option Addr}{n c:Nat}{vs:List V3}(h:W.ownsRow B 27 3 (.slice q n c) n (zao vs)):n=0∨∃b off,q=some ⟨b,off,none⟩∧B≤b:=by
 rcases h.2 with ⟨_,h0⟩|⟨g,cap,cur,e,hb,_⟩
 ·exact .inl h0
 ·injection e with e _ _
  exact .inr ⟨g,0,e,hb⟩
theorem zsw{w:World}{base:Nat}{ps0:List Pt}{g:Gm}(h:GmAt w base ps0 g)(het:EtAt w)(hp:ps0.length≤1000)(hk:g.key.length≤1000)(hks:∀v∈g.key,v.2.2.size≤40)(fr:Int) :
  Calls Tryz.prog 180 #[.pointer (some ⟨g.z,0,none⟩)] w fun e w'=>(∃rq rc,e=.returned (.agg #[.slice rq (gOt ps0 fr g.pl).1.length rc,.int .i64 (gOt ps0 fr g.pl).2.1,.int .i64 0])∧Aside (zaf w' rq (gOt ps0 fr g.pl).1∧((gOt ps0 fr g.pl).1.length=0∨∃b off,rq=some ⟨b,off,none⟩∧w.heap.size≤b)))∧Below w.heap.size w w':=by
 obtain⟨⟨kv,h1,h2⟩,⟨ps,a1,a2⟩,-⟩:=h
 have c0:w.cell? ⟨g.z,0,none⟩=some kv:=by rw[h1.cell];rfl
 have c1:w.cell? ⟨g.z,1,none⟩=some (.pointer (some ⟨g.a,0,none⟩)):=by rw[h1.cell];rfl
 obtain⟨t1,t2⟩:=tl_of a2
 have hlen:(reV ps (g.rs.length:Int)).length≤1000000:=by
  have:=a2.al.1
  rw[reV,List.length_map];omega
 by_cases hE:tlE ps0 g.rs=0
 ·have hgo:gOt ps0 fr g.pl=(g.key++tlR ps0 g.rs,0,fr):=by rw[gOt];exact if_pos hE
  rw[hgo]
  obtain⟨kq,kc,rfl⟩:=zaa h2
  have hR:=fun W (hb:Below w.heap.size w W)=>(zlT g.a g.v _ ps W (a1.on hb) a2.ok (by rw[t1];exact hE)).mono (R':=fun e w'=>(∃q c,e=.returned (.tuple #[.slice q (tlR ps0 g.rs).length c,.nilIface])∧(q=none→c=0)∧zaf w' q (tlR ps0 g.rs))∧Below W.heap.size W w') fun e w' hh=>by
   obtain⟨⟨q,c,e1,e2,e3⟩,e4⟩:=hh
   rw[t2] at e1 e2
   exact⟨⟨q,c,e1,e3.out,e2.out⟩,e4.out⟩
  refine (zsJ g.z g.a kq kc g.key (tlR ps0 g.rs) w c0 c1 (zdB rfl h2) (by omega) (fun v hv=>by have:=hks v hv;omega) (by rw[←t2];exact hlen) hR).mono ?_
  rintro e w' ⟨⟨u,rfl,HU⟩,hB⟩
  obtain⟨rq,rc,rfl⟩:=zaa HU.out
  refine⟨⟨rq,rc,rfl,(show Aside _ from ⟨zdB rfl HU.out,?_⟩)⟩,hB⟩
  exact zqJ HU.out
 ·have hgo:gOt ps0 fr g.pl=([],tlE ps0 g.rs,fr):=by rw[gOt];exact if_neg hE
  rw[hgo]
  have hR:=fun W (hb:Below w.heap.size w W)=>(zkh g.a g.v _ ps W (a1.on hb) a2.ok (tlE ps0 g.rs) t1 hE).mono (R':=fun e w'=>e=.returned (.tuple #[.slice none 0 0,.iface 35 (.int .i64 (tlE ps0 g.rs))])∧Below W.heap.size W w') fun e w' hh=>⟨hh.1,hh.2.out⟩
  refine (zqF g.z g.a (tlE ps0 g.rs) kv w het c0 c1 hR).mono ?_
  rintro e w' ⟨rfl,hB⟩
  exact⟨⟨none,0,rfl,(show Aside _ from ⟨.inl rfl,.inl rfl⟩)⟩,hB⟩
theorem zsb{w:World}{base:Nat}{ps0:List Pt}{x:Wm}(h:WmAt w base ps0 x)(het:EtAt w)(hp:ps0.length≤1000)(hn:x.gs.length≤1000)(hk:∀g∈x.gs,g.key.length≤1000∧∀v∈g.key,v.2.2.size≤40) :
  Calls Tryz.prog 150 #[.pointer (some ⟨x.z,0,none⟩)] w fun e w'=>(∃u,e=.returned u∧Aside (OutsF w.heap.size w' u (wOt ps0 x.pl)))∧Below w.heap.size w w':=by
 have hc0:w.cell? ⟨x.z,0,none⟩=some (.int .i64 x.fr):=by rw[h.blk.cell];rfl
 have hc1:w.cell? ⟨x.z,1,none⟩=some x.gv:=by rw[h.blk.cell];rfl
 by_cases h0:x.gs.length=0
 ·obtain⟨q,c,hq⟩:=zaa h.row
  rw[hq,h0] at hc1
  have e0:x.gs=[]:=List.length_eq_zero_iff.1 h0
  refine (zqG x.z q c w hc1).mono ?_
  rintro e w' ⟨rfl,hB⟩
  exact⟨⟨_,rfl,(show Aside _ from by rw[wOt,Wm.pl,e0];exact OutsF.nil _ _)⟩,hB⟩
 ·obtain⟨n,hn'⟩:∃n,x.gs.length=n+1:=⟨x.gs.length-1,by omega⟩
  have hrow:=h.row
  rw[hn'] at hrow
  obtain⟨g,cap,hg⟩:=zdb hrow
  rw[←hn'] at hg hrow
  rw[hg] at hc1 hrow
  have hgl:=(zds hrow g rfl).2
  have:=zsK x.z g x.gs.length cap x.fr (fun j=>(x.gs.getD j dgm).z) (fun j=>(gOt ps0 x.fr (x.gs.getD j dgm).pl).1) (fun j=>(gOt ps0 x.fr (x.gs.getD j dgm).pl).2.1) w hc0 hc1 hn hgl (fun j hj=>by
   have:=World.ownsRow.cells hrow (g:=g) rfl j (x.gs.getD j dgm).p (by rw[List.getElem?_map,List.getElem?_eq_getElem hj,zbc hj];rfl)
   rw[Go.WideShapes.add_plain,Nat.zero_add] at this
   exact this) (fun j hj W hb=>zsw ((h.gp _ (zbd hj)).on hb) (het.on hb) hp (hk _ (zbd hj)).1 (hk _ (zbd hj)).2 x.fr)
  have hl:(List.range x.gs.length).map (fun j=>((gOt ps0 x.fr (x.gs.getD j dgm).pl).1,(gOt ps0 x.fr (x.gs.getD j dgm).pl).2.1,x.fr))=wOt ps0 x.pl:=by
   rw[wOt,Wm.pl]
   refine List.ext_getElem (by simp) fun j h1 h2=>?_
   simp only[List.getElem_map,List.getElem_range]
   have hj:j<x.gs.length:=by simpa using h1
   rw[zbc hj,gOt]
   split<;>rfl
  rw[hl] at this
  exact this
theorem zhL(base:Nat)(q:Option Addr)(n c j:Nat)(xs:List Value)(w:World)(hown:w.ownsRow base 152 1 (.slice q n c) n xs)(hx1:∀x∈xs,x.oneCell'=true)(hj:j≤n)(hn:n≤100000) :
  Calls Tryz.prog 116 #[.slice q n c,.int .i64 0,.int .i64 (j:Int)] w fun r w'=>r=.returned (.slice q (n-j) c)∧Aside (w'.ownsRow base 152 1 (.slice q (n-j) c) (n-j) (xs.drop j))∧Aside (Kp (fun k=>(Value.slice q n c).ownBlock=some k) w w'):=by
 by_cases h0:j=0
 ·subst h0
  have hc:n≤c:=by
   rcases hown.2 with ⟨e1,h0⟩|⟨g,cap,cur,e1,hb,hg,hnc,-⟩
   ·omega
   ·injection e1 with _ _ e3;omega
  refine (zgb q n c w hc).mono ?_
  rintro r w' ⟨rfl,rfl⟩
  have ho:w'.ownsRow base 152 1 (.slice q (n-0) c) (n-0) (xs.drop 0):=by simpa using hown
  exact⟨rfl,(show Aside _ from ho),(show Aside _ from Kp.refl _ _)⟩
 ·rcases hown.2 with ⟨e1,h0⟩|⟨g,cap,cur,e1,hb,hg,hnc,hm,hcs,htk⟩
  ·omega
  injection e1 with e1 _ e3
  subst e1
  subst e3
  simp only[Nat.mul_one] at hcs htk
  refine (zgc g n c j cur w hg hcs (fun x hx=>hx1 x (by rw[←htk];exact hx)) (by omega) hj hn hnc hm).mono ?_
  rintro r w' ⟨rfl,ho,hk⟩
  have hL:cur.toList.length=c:=by rw[Array.length_toList,hcs]
  obtain⟨d1,d2⟩:=znB (r:=List.replicate j (Value.pointer none)) hL htk hnc hj (by simp)
  refine⟨rfl,(show Aside _ from ⟨by have:=hown.1;simp;omega,.inr ⟨g,c,_,rfl,hb,ho.out,by omega,hm,?_,?_⟩⟩),(show Aside _ from hk.mono (fun k _ hs=>by rw[show k=g from hs];rfl))⟩
  ·simp only[List.size_toArray]
   rw[d2];omega
  ·rw[Nat.mul_one]
   exact d1
theorem GrAt.del{w w5:World}{base:Nat}{ps0:List Pt}{gb:Nat}{s:Gs}{last:Int}{ov ov':Value}{xs:List Wm}(h:GrAt w base ps0 gb s last ov xs)(j:Nat)(hj:j≤xs.length)(hk:Kp (fun k=>ov.ownBlock=some k) w w5)(hrow:w5.ownsRow base 152 1 ov' (xs.length-j) ((xs.map Wm.p).drop j))(hb:ov'.ownBlock=ov.ownBlock) :
  GrAt (w5.setCell ⟨gb,16,none⟩ ov') base ps0 gb s last ov' (xs.drop j)∧Kp (GrS gb ov xs) w (w5.setCell ⟨gb,16,none⟩ ov')∧(∀k,GrS gb ov' (xs.drop j) k→GrS gb ov xs k):=by
 obtain⟨C,c1,c2⟩:=h.blk
 have hog:ov.ownBlock≠some gb:=fun e=>by
  rcases h.row.2 with ⟨e1,-⟩|⟨g,cap,cur,e1,-,hg,-⟩
  ·rw[e1] at e;simp[Value.ownBlock] at e
  ·rw[e1] at e
   have e:g=gb:=by simpa [Value.ownBlock] using e
   subst e
   exact zdQ (show Blk w g cur _ from hg) c1 (by decide) rfl
 have K:Kp (fun k=>k=gb∨ov.ownBlock=some k) w (w5.setCell ⟨gb,16,none⟩ ov'):=(hk.mono (fun _ _ h=>.inr h)).set 16 _ (fun _=>.inl rfl)
 have hM:MutS w (fun k=>k=gb∨ov.ownBlock=some k):=(MutS.one c1 (by decide)).or (zda h.row (by decide))
 refine⟨⟨⟨_,(c1.kp hk hog).set 16 _,c2.opens⟩,?_,fun y hy=>?_,?_,h.lt⟩,K.mono fun k _ hk=>?_,fun k hk=>?_⟩
 ·rw[List.length_drop,List.map_drop]
  exact ownsRow_setCell_other hrow (a:=⟨gb,16,none⟩) (by rw[hb];exact hog) ov'
 ·have hy:=List.mem_of_mem_drop hy
  refine (h.wm y hy).kp K hM (fun k k1 k2=>?_)
  rcases k2 with rfl|k2
  ·exact (h.wm y hy).notblk c1 (by decide) k1
  ·exact (h.wm y hy).notown h.row (by decide) k2 k1
 ·exact h.dj.sublist (List.drop_sublist j xs)
 ·rcases hk with hk|hk
  ·exact .inl hk
  ·exact .inr (.inl hk)
 ·rcases hk with hk|hk|⟨x,hx,hk⟩
  ·exact .inl hk
  ·exact .inr (.inl (by rw[←hb];exact hk))
  ·exact .inr (.inr ⟨x,List.mem_of_mem_drop hx,hk⟩)
theorem zoL:(Tryz.prog.info? 97).map (·.size)=some 9:=by kernel_rfl
theorem ld_sv{W:World}{b:Nat}{s:Gs}{last:Int}{ov:Value}{C:Array Value}(hb:Blk W b C 110)(hC:GrC s last ov C) :
  ∀{ops:Array Oper} {rest:List Oper} {op:Oper} {a:Act} {Q:Exit→Act→World→Prop} (hgd:op.guard=none) (x:Operand) (ho:op.op=.load 97 x) (hx:a.eval x=.pointer (some ⟨b,0,none⟩)),wpList Tryz.prog ops Q rest (a.put op.dst (.agg s.SC)) W→wpList Tryz.prog ops Q (op::rest) a W :=
 fun hgd x ho hx h=>zaj hgd 97 x ho b 0 hx C _ hb s.SC.toList (fun j v hv=>by rw[Nat.zero_add];exact hC.sv.2 j v (by simpa using hv)) _ Tryz.underlying97 rfl (by rw[Array.length_toList,hC.sv.1];exact zoL) h
theorem GrAt.kps{w w' w'':World}{base:Nat}{gb:Nat}{ov ov':Value}{xs xs':List Wm}(k1:Kp (GrS gb ov xs) w w')(k2:Kp (GrS gb ov' xs') w' w'')(hf:∀k,GrS gb ov' xs' k→GrS gb ov xs k∨w.heap.size≤k):Kp (GrS gb ov xs) w w'' :=
 ⟨k1.low.trans k2.low,fun k hk hn=>by rw[k2.kept k (by have:=k1.size;omega) (fun h=>(hf k h).elim hn (fun h=>by omega)),k1.kept k hk hn]⟩
def zaQ(w w':World)(base:Nat)(ps0:List Pt)(gb:Nat)(s:Gs)(last:Int)(ov:Value)(xs:List Wm)(l:List PW):Prop:=∃ov' xs',GrAt w' base ps0 gb s last ov' xs'∧xs'.map Wm.pl=l∧Kp (GrS gb ov xs) w w'∧(∀k,GrS gb ov' xs' k→GrS gb ov xs k∨w.heap.size≤k)
theorem zaQ.same{w w':World}{base:Nat}{ps0:List Pt}{gb:Nat}{s:Gs}{last:Int}{ov:Value}{xs:List Wm}(h:GrAt w base ps0 gb s last ov xs)(hb:Below w.heap.size w w'):zaQ w w' base ps0 gb s last ov xs (xs.map Wm.pl) :=
 ⟨ov,xs,h.on hb,rfl,Kp.of_below hb,fun k hk=>.inl hk⟩
theorem zaQ.step{w wr w5:World}{base:Nat}{ps0:List Pt}{gb:Nat}{s:Gs}{last:Int}{ov ov':Value}{xs xs':List Wm}{l:List PW}(hk:Kp (GrS gb ov xs) w wr)(hf:∀k,GrS gb ov' xs' k→GrS gb ov xs k∨w.heap.size≤k)
  (h:∃ov2 xs2,GrAt w5 base ps0 gb s last ov2 xs2∧xs2.map Wm.pl=l∧Kp (GrS gb ov' xs') wr w5∧(∀k,GrS gb ov2 xs2 k→GrS gb ov' xs' k∨wr.heap.size≤k)):zaQ w w5 base ps0 gb s last ov xs l:=by
 obtain⟨ov2,xs2,h1,h2,h3,h4⟩:=h
 refine⟨ov2,xs2,h1,h2,GrAt.kps (base:=base) hk h3 hf,fun k hk2=>?_⟩
 rcases h4 k hk2 with h|h
 ·exact hf k h
 ·exact .inr (by have:=hk.size;omega)
theorem zaQ.behind{w w4 w5:World}{base:Nat}{ps0:List Pt}{gb:Nat}{s:Gs}{last:Int}{ov:Value}{xs:List Wm}{l:List PW}(hb:Below w.heap.size w w4)(h:zaQ w4 w5 base ps0 gb s last ov xs l):zaQ w w5 base ps0 gb s last ov xs l:=by
 obtain⟨ov2,xs2,h1,h2,h3,h4⟩:=h
 have:=hb.size
 refine⟨ov2,xs2,h1,h2,(Kp.of_below hb).trans h3,fun k hk=>(h4 k hk).imp id (fun h=>by omega)⟩
theorem zjL{w w4 wr:World}{gb:Nat}{ov ov':Value}{xs xs':List Wm}{q:Option Addr}{l:List V3}(hS:∀k,GrS gb ov xs k→k<w.heap.size)(hv:zaf w4 q l)(hn:l.length=0∨∃b off,q=some ⟨b,off,none⟩∧w.heap.size≤b)(hk:Kp (GrS gb ov xs) w4 wr)(hf:∀k,GrS gb ov' xs' k→GrS gb ov xs k∨w4.heap.size≤k):zaf wr q l∧(l.length=0∨∀b o,q=some ⟨b,o,none⟩→¬GrS gb ov' xs' b):=by
 have h1:l.length=0∨∀b o,q=some ⟨b,o,none⟩→¬GrS gb ov xs b:=by
  rcases hn with h|⟨b,off,e,hb⟩
  ·exact .inl h
  ·refine .inr fun b' o' e' hs=>?_
   rw[e] at e'
   injection e' with e'
   injection e' with e' _
   subst e'
   have:=hS b hs
   omega
 refine⟨zdL hv hk h1,?_⟩
 rcases h1 with h|h
 ·exact .inl h
 ·rcases hv with h0|⟨b,off,e,hlb,-⟩
  ·exact .inl h0
  ·refine .inr fun b' o' e' hs=>?_
   rw[e] at e'
   injection e' with e'
   injection e' with e' _
   subst e'
   rcases hf b hs with h2|h2
   ·exact h b off e h2
   ·omega
set_option maxRecDepth 20000 in
theorem znQ{w W1:World}{S0:Nat→Prop}{base:Nat}{ps0:List Pt}{gb:Nat}{s:Gs}{last:Int}{ov:Value}{xs:List Wm}(h:GrAt w base ps0 gb s last ov xs)(hb1:Bts S0 gb W1 w)(hbase:base=W1.heap.size){kt:List Int}{c:Nat}(hW:WOk kt c (xs.map Wm.pl))(u:Value)(fs:List Int)(hu:IntA w u fs)(hun:∀k,u.ownBlock=some k→¬GrS gb ov xs k)(hfl:fs.length≤10)(hc:c+11≤10000)(hm:kt.length≤1000)(a b:Int)(hab:b-a+1≤1000)(hxr:∀x∈xs.map Wm.pl,a≤x.1∧x.1≤b)(hfr:∀f∈fs,a≤f∧f≤b)(hfd:fs.Nodup)
  (rq:Option Addr)(rc:Nat)(rs:List V3)(hr:zaf w rq rs)(hrd:rs.length=0∨∀b o,rq=some ⟨b,o,none⟩→¬GrS gb ov xs b)(hrl:rs.length≤1000)(p:Option Addr)(pc:Nat)(ns:List Nat)(hp:s.pv=.slice p ns.length pc)(hnl:ns.length≤1000)(hPl:∀W,Bts S0 gb W1 W→zaR W p ns)(hi:∀i∈ns,i<rs.length)(hkey:OkK kt (keyP rs ns))
  (T:List V3)(P:Bool)(E:Int)(hT:∀W,Bts S0 gb W1 W→zaf W rq rs→Calls Tryz.prog 71 #[.agg s.SC,.slice rq rs.length rc] W fun e w'=>(∃u,e=.returned (.tuple #[u,.bool P,errV E])∧Aside (FrV W.heap.size w' u T))∧Below W.heap.size W w')
  (hTo:E=0→P=true→zbs T∧T.length≤maxLen∧adE ps0 T=0)
  (hN:∀W,Bts S0 gb W1 W→Calls Tryz.prog 200 #[s.av,s.tv] W fun e w'=>∃a v,e=.returned (.tuple #[.pointer (some ⟨a,0,none⟩),.nilIface])∧Aside (AcAt w' a v ps0 []∧(∀k,accS a v k→W.heap.size≤k))∧Below W.heap.size W w') :
  Calls Tryz.prog 112 #[.pointer (some ⟨gb,0,none⟩),u,.slice rq rs.length rc] w fun e w'=>e=.returned (errV (adW fs (T,P,E) (keyP rs ns) (xs.map Wm.pl)).2)∧Aside (zaQ w w' base ps0 gb s last ov xs (adW fs (T,P,E) (keyP rs ns) (xs.map Wm.pl)).1):=by
 have hlt:=h.lt
 have hgl:gb<w.heap.size:=by have:=hb1.size;omega
 have bA:=alB w (.cells #[.pointer (some ⟨gb,0,none⟩)] 102)
 have butOn:∀W,Below w.heap.size w W→Bts S0 gb W1 W:=fun W hb=>hb1.on hb
 have cT:=hT _ (butOn _ bA) (hr.on bA)
 have hGB:∀W,Below (w.heap.size+1) (w.alloc (.cells #[.pointer (some ⟨gb,0,none⟩)] 102)) W→W.cell? ⟨w.heap.size,0,none⟩=some (.pointer (some ⟨gb,0,none⟩))∧Below w.heap.size w W:=fun W hb=>⟨by rw[hb.cell (p:=⟨w.heap.size,0,none⟩) (by show w.heap.size<_;omega)];simp,bA.trans (hb.mono (by omega))⟩
 obtain⟨C,hC1,hC2⟩:=(h.on bA).blk
 have hld:=@ld_sv _ _ _ _ _ _ hC1 hC2
 have HBASE:Hid (base=W1.heap.size):=hbase
 have hbw:base≤w.heap.size:=by have:=hb1.size;omega
 have H:Aside _:=h
 have HB1:Aside _:=hb1
 have HW:Aside (WOk kt c (xs.map Wm.pl)):=hW
 have HU:Aside (IntA w u fs∧∀k,u.ownBlock=some k→¬GrS gb ov xs k):=⟨hu,hun⟩
 have HX:Aside ((∀x∈xs.map Wm.pl,a≤x.1∧x.1≤b)∧(∀f∈fs,a≤f∧f≤b)∧fs.Nodup):=⟨hxr,hfr,hfd⟩
 have HR:Aside (zaf w rq rs∧(rs.length=0∨∀b o,rq=some ⟨b,o,none⟩→¬GrS gb ov xs b)):=⟨hr,hrd⟩
 have HPL:Aside _:=hPl
 have HI:Aside _:=hi
 have HKEY:Aside (OkK kt (keyP rs ns)):=hkey
 have HTO:Aside _:=hTo
 have HN:Aside _:=hN
 have HBO:Aside _:=butOn
 have HPV:Hid (s.pv=.slice p ns.length pc):=hp
 have HNL:Hid (ns.length≤1000∧rs.length≤1000∧kt.length≤1000):=⟨hnl,hrl,hm⟩
 obtain⟨RS,hRS⟩:∃RS,rs.length=RS:=⟨_,rfl⟩
 have HRS:Hid (rs.length=RS):=hRS
 rw[hRS] at cT ⊢
 clear hbase
 clear h hb1 hW hu hun hxr hfr hfd hr hrd hPl hi hkey hTo hN hT butOn hp hRS hC1 hC2 hnl hrl hm
 by_cases hE:E=0
 ·subst hE
  cases P
  ·rw[show adW fs (T,false,0) (keyP rs ns) (xs.map Wm.pl)=(xs.map Wm.pl,0) from by rw[adW,if_neg (by simp),if_pos rfl]]
   rw[show errV 0=.nilIface from rfl] at cT ⊢
   go_enter Tryz.func112,Tryz.ntmps112
   go_wp2_with (refine hld rfl _ rfl rfl ?_)
   go_wp2_with fail
   refine cT.mono ?_
   rintro e w1 ⟨⟨v,rfl,HF⟩,b1⟩
   obtain⟨g1,B1⟩:=hGB w1 (b1.mono (by simp))
   have HB2:Aside (Below w.heap.size w w1):=B1
   clear cT hld b1 B1
   go_wp2
   go_ret
   exact⟨rfl,(show Aside _ from zaQ.same H.out HB2.out)⟩
  ·rw[show errV 0=.nilIface from rfl] at cT
   obtain⟨FUL,hFUL⟩:∃FUL,fs.any (wFull (keyP rs ns) (xs.map Wm.pl))=FUL:=⟨_,rfl⟩
   have HFUL:Hid (fs.any (wFull (keyP rs ns) (xs.map Wm.pl))=FUL):=hFUL
   have had:adW fs (T,true,0) (keyP rs ns) (xs.map Wm.pl)=if FUL=true then (xs.map Wm.pl,4) else (adL (keyP rs ns) T fs (xs.map Wm.pl),0):=by
    rw[adW,if_neg (by simp),if_neg (by simp),hFUL]
   rw[had]
   clear had hFUL
   go_enter Tryz.func112,Tryz.ntmps112
   go_wp2_with (refine hld rfl _ rfl rfl ?_)
   go_wp2_with fail
   refine cT.mono ?_
   rintro e w1 ⟨⟨v,rfl,HF⟩,b1⟩
   obtain⟨g1,B1⟩:=hGB w1 (b1.mono (by simp))
   have hsz1:=B1.size
   have hsz1b:w.heap.size+1≤w1.heap.size:=by have:=b1.size;simpa using this
   obtain⟨tq,tc,hv0,hT1,hT2⟩:=HF.out
   subst hv0
   have HTV:Aside (zaf w1 tq T∧(T.length=0∨∃b off,tq=some ⟨b,off,none⟩∧(w.alloc (.cells #[.pointer (some ⟨gb,0,none⟩)] 102)).heap.size≤b)):=⟨hT1,hT2⟩
   have hc10:w1.cell? ⟨gb,10,none⟩=some (.slice p ns.length pc):=by
    obtain⟨C,hC1,hC2⟩:=(H.out.on B1).blk
    rw[hC1.cell,hC2.c10,HPV.out]
   have cK:=key_s gb p rq pc rc ns rs w1 hc10 (by have:=HNL.out.1;omega) (by have:=HNL.out.2.1;omega) (HPL.out w1 (HBO.out w1 B1)) (HR.out.1.on B1) HI.out
   rw[HRS.out] at cK
   have HB2:Aside (Below w.heap.size w w1):=B1
   clear cT hld b1 B1 hT1 hT2 HF
   obtain⟨TL,hTL⟩:∃TL,T.length=TL:=⟨_,rfl⟩
   have HTL:Hid (T.length=TL):=hTL
   rw[hTL]
   clear hTL
   go_wp2_with fail
   refine cK.mono ?_
   rintro e w2 ⟨⟨kv,rfl,HKV⟩,b2⟩
   obtain⟨kq,kc,rfl⟩:=zaa HKV.out
   have B2:Below w.heap.size w w2:=HB2.out.trans (b2.mono hsz1)
   obtain⟨NL,hNLq⟩:∃NL,ns.length=NL:=⟨_,rfl⟩
   have HNLq:Hid (ns.length=NL):=hNLq
   rw[hNLq]
   have hkl2:(keyP rs ns).length=ns.length:=by rw[keyP,List.length_map]
   have HKL:Hid ((keyP rs ns).length=NL):=by show _=_;rw[hkl2];exact hNLq
   have hsz2:=B2.size
   have hgw2:w2.cell? ⟨w.heap.size,0,none⟩=some (.pointer (some ⟨gb,0,none⟩)):=by rw[b2.cell (p:=⟨w.heap.size,0,none⟩) (show w.heap.size<w1.heap.size by omega)];exact g1
   have hwl2:w.heap.size<w2.heap.size:=by have:=b2.size;omega
   have HKV2:Aside (zaf w2 kq (keyP rs ns)):=zdB hkl2 HKV.out
   have HKF:Aside (ns.length=0∨∃b off,kq=some ⟨b,off,none⟩∧w1.heap.size≤b):=zqJ HKV.out
   clear cK hNLq hkl2 HKV
   obtain⟨up,uc,hu0,hu1,hu2,hu3⟩:=HU.out.1
   subst hu0
   obtain⟨FN,hFN⟩:∃FN,fs.length=FN:=⟨_,rfl⟩
   have HFN:Hid (fs.length=FN):=hFN
   rw[hFN] at hfl hu1 ⊢
   have HUC:Aside _:=hu3
   have HUN:Aside (up=none→uc=0):=hu2
   have hfz:(FN:Int)≤10:=by omega
   have hS0:∀k,GrS gb ov xs k→k<w.heap.size:=fun k hk=>by
    rcases H.out.in_ k hk with h|h
    ·omega
    ·exact h.2
   have hnx:xs.length≤1000:=by
    have:=zer (xs.map Wm.pl) a b HW.out.rise HX.out.1
    rw[List.length_map] at this
    omega
   have b3:=alB w2 (.cells #[.slice kq NL kc] 49)
   have B3:Below w.heap.size w (w2.alloc (.cells #[.slice kq NL kc] 49)):=B2.trans (b3.mono hsz2)
   have hg3:∀W,Below (w2.heap.size+1) (w2.alloc (.cells #[.slice kq NL kc] 49)) W→W.cell? ⟨w.heap.size,0,none⟩=some (.pointer (some ⟨gb,0,none⟩))∧W.cell? ⟨w2.heap.size,0,none⟩=some (.slice kq NL kc):=fun W hb=>by
    refine⟨?_,?_⟩
    ·rw[hb.cell (p:=⟨w.heap.size,0,none⟩) (show w.heap.size<w2.heap.size+1 by omega),b3.cell (p:=⟨w.heap.size,0,none⟩) hwl2];exact hgw2
    ·rw[hb.cell (p:=⟨w2.heap.size,0,none⟩) (show w2.heap.size<w2.heap.size+1 by omega)];simp
   have cC:=zeU 144 (fun args W=>by kernel_rfl) #[.pointer (some ⟨w.heap.size,0,none⟩),.pointer (some ⟨w2.heap.size,0,none⟩)] _ fs (wFull (keyP rs ns) (xs.map Wm.pl)) _ (HU.out.1.on B3) (fun t _ W hb=>by
    have hb':Below (w2.heap.size+1) (w2.alloc (.cells #[.slice kq NL kc] 49)) W:=by simpa using hb
    obtain⟨q1,q2⟩:=hg3 W hb'
    have:=znP ((H.out.on B3).on hb) HW.out hnx HNL.out.2.2 t w.heap.size w2.heap.size kq kc (keyP rs ns) HKEY.out ((HKV2.out.on b3).on hb) q1 (by rw[HKL.out];exact q2)
    exact this)
   rw[HFUL.out,hFN] at cC
   have HB3:Aside (Below w.heap.size w (w2.alloc (.cells #[.slice kq NL kc] 49))):=B3
   have HG3:Aside _:=hg3
   have HS0:Aside _:=hS0
   have HKV3:Aside (zaf (w2.alloc (.cells #[.slice kq NL kc] 49)) kq (keyP rs ns)):=HKV2.out.on b3
   have HTV3:Aside (zaf (w2.alloc (.cells #[.slice kq NL kc] 49)) tq T):=(HTV.out.1.on b2).on b3
   clear hg3 hS0 hu2 hu3 B3 b3 b2 B2 g1 hgw2 hFN
   go_wp2_with fail
   refine cC.mono ?_
   rintro e w4 ⟨rfl,b4⟩
   have b4':Below (w2.heap.size+1) (w2.alloc (.cells #[.slice kq NL kc] 49)) w4:=by simpa using b4
   have HB4:Aside (Below w.heap.size w w4):=HB3.out.trans (b4.mono HB3.out.size)
   obtain⟨q1,q2⟩:=HG3.out w4 b4'
   have hsz4:w2.heap.size+1≤w4.heap.size:=by have:=b4'.size;simpa using this
   have HKV4:Aside (zaf w4 kq (keyP rs ns)):=HKV3.out.on b4
   have HTV4:Aside (zaf w4 tq T):=HTV3.out.on b4
   have HQ:Aside (w4.cell? ⟨w.heap.size,0,none⟩=some (.pointer (some ⟨gb,0,none⟩))∧w4.cell? ⟨w2.heap.size,0,none⟩=some (.slice kq NL kc)):=⟨q1,q2⟩
   clear cC b4 b4' HG3 HB3 HKV3 HTV3 q1 q2
   cases FUL
   ·have hFT:=HFUL.out
    have htk:=fun kk (hkk:kk<fs.length)=>znf HKEY.out T fs c (xs.map Wm.pl) HW.out HX.out.1 HX.out.2.1 HX.out.2.2 hFT kk hkk
    have HTK:Aside _:=htk
    obtain⟨T1,T2,T3⟩:=HTO.out (by first|rfl|trivial) (by first|rfl|trivial)
    have HT3:Aside (zbs T∧T.length≤maxLen∧adE ps0 T=0):=⟨T1,T2,T3⟩
    clear hFT htk T1 T2 T3
    go_wp2
    go_loopg [13,14,42] FN (fun gg _ _ s42 wr=>∃kk:Nat,kk≤FN∧FN-kk≤gg∧s42=.int .i64 (kk:Int)∧Aside (zaQ w4 wr base ps0 gb s last ov xs (adL (keyP rs ns) T (fs.take kk) (xs.map Wm.pl))))
    case atStart=>exact⟨0,Nat.zero_le _,by omega,rfl,(show Aside _ from zaQ.same (H.out.on HB4.out) (Below.refl _ _))⟩
    case round =>
     obtain⟨kk,hkk,hg,rfl,HA⟩:=hrel
     by_cases hlt2:kk<FN
     ·have hltz:(kk:Int)<(FN:Int):=by omega
      have h0z:(0:Int)≤(kk:Int):=by omega
      have hkf:kk<fs.length:=by rw[HFN.out];exact hlt2
      have hcap:uc≠0:=by omega
      cases up with
      | none=>exact absurd (HUN.out rfl) hcap
      | some ad =>
      obtain⟨g,off,rfl,hgl2,hce⟩:=HUC.out ad rfl
      have hck:=hce kk hkf
      have hgn:¬GrS gb ov xs g:=HU.out.2 g rfl
      obtain⟨ov',xs',A1,A2,A3,A4⟩:=HA.out
      have hB4:=HB4.out
      have hszw:=hB4.size
      have hsr:=A3.size
      have hS0:=HS0.out
      have hck':wr.cell? ⟨g,off+kk,none⟩=some (.int .i64 fs[kk]):=by rw[A3.cell _ (by omega) hgn,hB4.cell (p:=⟨g,off+kk,none⟩) hgl2];exact hck
      have hg':wr.cell? ⟨w.heap.size,0,none⟩=some (.pointer (some ⟨gb,0,none⟩)):=by rw[A3.cell _ (by omega) (fun h=>by have:=hS0 _ h;omega)];exact HQ.out.1
      have hk':wr.cell? ⟨w2.heap.size,0,none⟩=some (.slice kq NL kc):=by rw[A3.cell _ (by omega) (fun h=>by have:=hS0 _ h;omega)];exact HQ.out.2
      obtain⟨K1,K2⟩:=zjL (w:=w) hS0 HKV4.out (HKF.out.imp (fun h=>by rw[HKL.out,←HNLq.out];exact h) (fun ⟨b,o,e,h⟩=>⟨b,o,e,by omega⟩)) A3 A4
      obtain⟨V1,V2⟩:=zjL (w:=w) hS0 HTV4.out (HTV.out.2.imp id (fun ⟨b,o,e,h⟩=>⟨b,o,e,by simp at h;omega⟩)) A3 A4
      obtain⟨t1,t2,-⟩:=HTK.out kk hkf
      have hbase:=HBASE.out
      have hbr:Bts S0 gb W1 wr:=GrAt.but (HBO.out w4 hB4) A3 (fun k hk=>by
       rcases H.out.in_ k hk with h|h
       ·exact .inl h
       ·exact .inr (by omega)) (by omega)
      have hn':xs'.length≤1000:=by
       have hri:=t1.rise
       have:=zer (adL (keyP rs ns) T (fs.take kk) (xs.map Wm.pl)) a b hri t2
       rw[←A2,List.length_map] at this
       omega
      have cP:=zqW A1 hbr hbase (c:=c+kk) (by rw[A2];exact t1) (by omega) hn' HNL.out.2.2 fs[kk] kq kc (keyP rs ns) HKEY.out K1 K2 tq tc T V1 V2 HT3.out.1 HT3.out.2.1 HT3.out.2.2 HN.out
      rw[HKL.out,HTL.out] at cP
      have HSN:Hid (adL (keyP rs ns) T (fs.take (kk+1)) (xs.map Wm.pl)=wAdd (keyP rs ns) T fs[kk] (adL (keyP rs ns) T (fs.take kk) (xs.map Wm.pl))):=by
       show _=_
       rw[List.take_succ_eq_append_getElem hkf,zne]
      rw[A2] at cP
      have HA34:Aside (Kp (GrS gb ov xs) w4 wr∧∀k,GrS gb ov' xs' k→GrS gb ov xs k∨w4.heap.size≤k):=⟨A3,A4⟩
      clear hbase hce hck hgn A1 A2 A3 A4 hB4 hszw hsr hS0 K1 K2 V1 V2 t1 t2 hbr hn' HA
      generalize fs[kk]=f at *
      go_wp2_with fail
      refine cP.mono ?_
      rintro e w5 ⟨rfl,HP⟩
      have HA5:Aside (zaQ w4 w5 base ps0 gb s last ov xs (adL (keyP rs ns) T (fs.take (kk+1)) (xs.map Wm.pl))):=by
       rw[HSN.out]
       exact zaQ.step HA34.out.1 HA34.out.2 HP.out
      clear cP HP HA34 HSN hck' hg' hk'
      go_wp2
      go_roundg (FN-(kk+1))
      case measure=>omega
      case rel=>exact⟨kk+1,by omega,by omega,by go_num,HA5⟩
     ·have hltz:¬(kk:Int)<(FN:Int):=by omega
      have HAF:Aside (zaQ w wr base ps0 gb s last ov xs (adL (keyP rs ns) T fs (xs.map Wm.pl))):=by
       have h:=HA.out
       rw[List.take_of_length_le (by rw[HFN.out];omega)] at h
       exact zaQ.behind HB4.out h
      clear HA
      go_wp2
      go_ret
      exact⟨rfl,HAF⟩
   ·have HF4:Aside (zaQ w w4 base ps0 gb s last ov xs (xs.map Wm.pl)):=zaQ.same H.out HB4.out
    go_wp2
    go_ret
    exact⟨rfl,HF4⟩
 ·rw[show adW fs (T,P,E) (keyP rs ns) (xs.map Wm.pl)=(xs.map Wm.pl,E) from by rw[adW,if_pos hE]]
  rw[show errV E=.iface 35 (.int .i64 E) from if_neg hE] at cT ⊢
  go_enter Tryz.func112,Tryz.ntmps112
  go_wp2_with (refine hld rfl _ rfl rfl ?_)
  go_wp2_with fail
  refine cT.mono ?_
  rintro e w1 ⟨⟨v,rfl,HF⟩,b1⟩
  obtain⟨g1,B1⟩:=hGB w1 (b1.mono (by simp))
  have HB2:Aside (Below w.heap.size w w1):=B1
  clear cT hld b1 B1
  go_wp2
  go_ret
  exact⟨rfl,(show Aside _ from zaQ.same H.out HB2.out)⟩
theorem zcZ(q:Option Addr)(n m c d:Nat):(Value.slice q n c).ownBlock=(Value.slice q m d).ownBlock:=by cases q<;>rfl
theorem zrW{ps0:List Pt}(l:List Wm)(h:∀x∈l,x.gs.length≤40):(l.flatMap fun x=>wOt ps0 x.pl).length≤40*l.length:=by
 rw[List.length_flatMap]
 induction l with
 | nil=>simp
 | cons x t ih =>
  have h1:=h x (List.mem_cons_self ..)
  have h2:=ih (fun y hy=>h y (List.mem_cons_of_mem _ hy))
  rw[List.map_cons,List.sum_cons,List.length_cons]
  have h3:(wOt ps0 x.pl).length=x.gs.length:=by rw[wOt,List.length_map,Wm.pl,List.length_map]
  omega
set_option maxRecDepth 20000 in
theorem zfs{w:World}{base:Nat}{ps0:List Pt}(q:Option Addr)(n c:Nat)(ys:List Wm)(hl:ys.length=n)(hrow:n=0∨∃g,q=some ⟨g,0,none⟩∧g<w.heap.size∧∀j,j<n→w.cell? ⟨g,j,none⟩=some (ys.getD j dwm).p)(hwm:∀x∈ys,WmAt w base ps0 x)(het:EtAt w)(hp:ps0.length≤1000)(hn:n≤1001)(hgs:∀x∈ys,x.gs.length≤40∧∀g∈x.gs,g.key.length≤1000∧∀v∈g.key,v.2.2.size≤40) :
  Calls Tryz.prog 115 #[.slice q n c] w fun e w'=>(∃u,e=.returned u∧Aside (OutsF w.heap.size w' u (ys.flatMap fun x=>wOt ps0 x.pl)))∧Below w.heap.size w w':=by
 have hlen:∀k,k≤n→((ys.take k).flatMap fun x=>wOt ps0 x.pl).length≤40*k:=fun k hk=>by
  have h4:=zrW (ps0:=ps0) (ys.take k) (fun x hx=>(hgs x (List.mem_of_mem_take hx)).1)
  have h5:(ys.take k).length≤k:=by rw[List.length_take];omega
  omega
 have HYN:Hid (ys.length=n):=hl
 have HROW:Aside _:=hrow
 have HWM:Aside _:=hwm
 have HE:Aside (EtAt w):=het
 have HGS:Aside _:=hgs
 have HLEN:Aside _:=hlen
 have HP:Hid (ps0.length≤1000):=hp
 clear hl hrow hwm het hgs hlen hp
 have hnz:(n:Int)≤1001:=by omega
 go_enter Tryz.func115,Tryz.ntmps115
 go_wp2
 go_loopg [3,5,8] n (fun gg s3 _ s8 wr=>∃(kk:Nat) (u:Value),kk≤n∧n-kk≤gg∧s8=.int .i64 (kk:Int)∧s3=u∧Aside (OutsF w.heap.size wr u ((ys.take kk).flatMap fun x=>wOt ps0 x.pl))∧Aside (Below w.heap.size w wr))
 case atStart=>exact⟨0,.slice none 0 0,Nat.zero_le _,by omega,rfl,rfl,(show Aside _ from OutsF.nil _ _),(show Aside _ from Below.refl _ _)⟩
 case round =>
  obtain⟨kk,u,hkk,hg,rfl,hu,OJ,BJ⟩:=hrel
  obtain rfl:u=_:=hu.symm
  have hbs:=BJ.out.size
  have k0:(0:Int)≤(kk:Int):=by omega
  by_cases hlt:kk<n
  ·have hltz:(kk:Int)<(n:Int):=by omega
   have hltX:kk<ys.length:=by rw[HYN.out];exact hlt
   obtain⟨g,rfl,hgl1,hcell⟩:=HROW.out.resolve_left (by omega)
   have hpt:wr.cell? ⟨g,kk,none⟩=some (ys.getD kk dwm).p:=by rw[BJ.out.cell (p:=⟨g,kk,none⟩) hgl1];exact hcell kk hlt
   have hxm:=zbd (d:=dwm) hltX
   have HT:Hid (((ys.take (kk+1)).flatMap fun x=>wOt ps0 x.pl)=((ys.take kk).flatMap fun x=>wOt ps0 x.pl)++wOt ps0 (ys.getD kk dwm).pl):=by
    show _=_
    rw[List.take_succ_eq_append_getElem hltX,List.flatMap_append,zbc hltX]
    simp
   have cO:=zsb ((HWM.out _ hxm).on BJ.out) (HE.out.on BJ.out) HP.out (by have:=(HGS.out _ hxm).1;omega) (HGS.out _ hxm).2
   clear hxm hcell
   generalize ys.getD kk dwm=x at *
   rw[Wm.p] at hpt
   go_wp2_with fail
   refine cO.mono ?_
   rintro e w3 ⟨⟨v,rfl,HV⟩,b3⟩
   have B3:=BJ.out.trans (b3.mono hbs)
   have O3:=OJ.out.on b3
   have HO3:Aside _:=O3
   have HB3:Aside _:=B3
   have hlow:∀k,u.ownBlock=some k→k<wr.heap.size:=fun k hk=>by have:=(OJ.out.lt k hk).2;omega
   have hle1:=HLEN.out kk (by omega)
   have hle2:=HLEN.out (kk+1) (by omega)
   rw[HT.out,List.length_append] at hle2
   clear cO OJ BJ O3 B3 hpt
   go_wp2_with (at_builtin;go_loud (refine zaP rfl _ _ rfl w.heap.size u _ rfl HO3.out wr.heap.size v _ rfl HV.out hlow hbs (by omega) (by have:=HB3.out.size;omega) ?_))
   intro v' w4 hO hgr hown
   have B4:Aside (Below w.heap.size w w4):=HB3.out.grown hgr (by have:=HB3.out.size;omega) (fun k hk=>(HO3.out.lt k hk).1)
   have O4:Aside (OutsF w.heap.size w4 v' ((ys.take (kk+1)).flatMap fun x=>wOt ps0 x.pl)):=by rw[HT.out];exact hO
   clear hO hgr hown HO3 HB3 HV
   go_wp2
   go_roundg (n-(kk+1))
   case measure=>omega
   case rel=>exact⟨kk+1,v',by omega,by omega,by go_num,rfl,O4,B4⟩
  ·have hltz:¬(kk:Int)<(n:Int):=by omega
   obtain rfl:kk=n:=by omega
   have HO:Aside (OutsF w.heap.size wr u (ys.flatMap fun x=>wOt ps0 x.pl)):=by
    have:=OJ.out
    rw[List.take_of_length_le (by rw[HYN.out];exact Nat.le_refl _)] at this
    exact this
   clear OJ
   go_wp2
   go_ret
   exact⟨⟨u,rfl,HO⟩,BJ.out⟩
theorem zdF(p:Option Addr)(n c l:Nat)(hl:l≤n)(hn:n≤c)(hp:p=none→c=0)(h0:∀a,p=some a→∃g,a=⟨g,0,none⟩)(W:World):Sem.run Tryz.prog (Instr.slice 108 (.slice p n c) none (some (.int .i64 (l:Int))) none) W=.ok (.slice p l c) W:=by
 have g0:(0:Int)≤(l:Int):=by omega
 have g1:(l:Int)≤(c:Int):=by omega
 have g2:Sem.run Tryz.prog (Go.sizeOf (Tryz.prog.elem 108)) W=.ok 1 W:=by kernel_rfl
 rw[run_slice_h W 108 p n c (by kernel_rfl) .i64 l g0 g1,g2]
 show Result.ok (sliced p 0 l c 1) W=_
 rw[sliced]
 cases p with
 | none=>simp
 | some a =>
  obtain⟨g,rfl⟩:=h0 a rfl
  simp[Addr.add]
theorem zhx{W:World}{base:Nat}{ps0:List Pt}{gb:Nat}{s:Gs}{last:Int}{oq:Option Addr}{N oc:Nat}{xs:List Wm}(G:GrAt W base ps0 gb s last (.slice oq N oc) xs)(hN:xs.length=N)(J:Nat)(hJ:J≤N):J=0∨∃g,oq=some ⟨g,0,none⟩∧g<W.heap.size∧∀j,j<J→W.cell? ⟨g,j,none⟩=some ((xs.take J).getD j dwm).p:=by
 subst hN
 rcases Nat.eq_zero_or_pos J with h0|h0
 ·exact .inl h0
 ·obtain⟨g,c,hg1,hgl1,-⟩:=G.row_some (by omega)
  have hp:=fun j (hj:j<xs.length)=>G.ptr hg1 hj
  injection hg1 with e1 _ e2
  refine .inr ⟨g,e1,hgl1,fun j hj=>?_⟩
  rw[hp j (by omega),zbc (by omega),zbc (by rw[List.length_take];omega),List.getElem_take]
set_option maxRecDepth 20000 in
theorem zkA{w:World}{base:Nat}{ps0:List Pt}{gb:Nat}{s:Gs}{last:Int}{ov:Value}{xs:List Wm}(h:GrAt w base ps0 gb s last ov xs)(het:EtAt w)(hbase:base≤w.heap.size)(hp:ps0.length≤1000)(hn:xs.length≤1001)(hgs:∀x∈xs,x.gs.length≤40∧∀g∈x.gs,g.key.length≤1000∧∀v∈g.key,v.2.2.size≤40)
  (fn:FuncId)(hent:∀(args:Array Value) (W:World),Sem.run Tryz.prog (callFunc fn args) W=.ok (.enter fn args) W)(caps:Array Value)(D:Nat→Bool)
  (hD:∀j,j<xs.length→∀W,Below w.heap.size w W→Calls Tryz.prog fn (#[(xs.getD j dwm).p]++caps) W fun e w'=>e=.returned (.bool (D j))∧Below W.heap.size W w')
  (J:Nat)(hJ:J≤xs.length)(hJ1:∀j,j<J→D j=true)(hJ2:J<xs.length→D J=false) :
  Calls Tryz.prog 79 #[.pointer (some ⟨gb,0,none⟩),.func (.func fn) #[] caps] w fun e w'=>(∃u,e=.returned u∧Aside (OutsF w.heap.size w' u ((xs.take J).flatMap fun x=>wOt ps0 x.pl)))∧Aside (∃ov',GrAt w' base ps0 gb s last ov' (xs.drop J)∧Kp (GrS gb ov xs) w w'∧(∀k,GrS gb ov' (xs.drop J) k→GrS gb ov xs k)):=by
 obtain⟨oq,oc,hov⟩:=zaa h.row
 obtain⟨N,hN⟩:∃N,xs.length=N:=⟨_,rfl⟩
 have HXN:Hid (xs.length=N):=hN
 rw[hN] at hov
 subst hov
 have hc16:=h.c16
 have hgl:gb<w.heap.size:=by have:=h.lt;omega
 have hoq:N≤oc∧(oq=none→oc=0)∧(∀a,oq=some a→∃g,a=⟨g,0,none⟩):=by
  have hr:=h.row
  rw[hN] at hr
  rcases hr.2 with ⟨e,e0⟩|⟨g,cap,cur,e,hB,hg,hcap,hx,hcs,-⟩
  ·injection e with e1 e2 e3
   subst e1 e3
   exact⟨by omega,(fun _=>rfl),(fun a ha=>by cases ha)⟩
  ·injection e with e1 e2 e3
   subst e1 e3
   exact⟨hcap,(fun h=>by cases h),(fun a ha=>by injection ha with ha;exact⟨g,ha.symm⟩)⟩
 have HOQ:Aside _:=hoq
 have hog:(Value.slice oq N oc).ownBlock≠some gb:=fun e=>by
  have h1:=(zds h.row _ e).1
  have h2:=h.lt
  omega
 have HOG:Aside _:=hog
 have H:Aside _:=h
 have HE:Aside (EtAt w):=het
 have HGS:Aside _:=hgs
 have HD:Aside _:=hD
 have HJ:Aside ((∀j,j<J→D j=true)∧(J<N→D J=false)):=⟨hJ1,by rw[←hN];exact hJ2⟩
 have HP:Hid (ps0.length≤1000):=hp
 have HCE:∀W,Below w.heap.size w W→W.cell? ⟨gb,16,none⟩=some (.slice oq N oc):=fun W hb=>by rw[hb.cell (p:=⟨gb,16,none⟩) hgl];exact hc16
 have HC:Aside _:=HCE
 rw[hN] at hn hJ
 have cDel:=fun W (hb:Below w.heap.size w W) (j:Nat) (hj:j≤N)=>zhL base oq N oc j (xs.map Wm.p) W (by have:=zac h.row hb;rw[hN] at this;exact this) (fun u hu=>by obtain⟨y,_,rfl⟩:=List.mem_map.1 hu;rfl) hj (by omega)
 have HDEL:Aside _:=cDel
 have hJz:(J:Int)≤(N:Int):=by omega
 clear hog h het hgs hD hJ1 hJ2 hp HCE hN cDel hc16 hoq
 go_enter Tryz.func79,Tryz.ntmps79
 go_wp2
 go_loopg [5] N (fun gg s5 wr=>∃kk:Nat,kk≤J∧N-kk≤gg∧s5=.int .i64 (kk:Int)∧Aside (Below w.heap.size w wr))
 case atStart=>exact⟨0,Nat.zero_le _,by omega,rfl,(show Aside _ from Below.refl _ _)⟩
 case round =>
  obtain⟨kk,hkk,hg,rfl,BJ⟩:=hrel
  have hc:=HC.out wr BJ.out
  have hbs:=BJ.out.size
  have k0:(0:Int)≤(kk:Int):=by omega
  by_cases hlt:kk<N
  ·have hltz:(kk:Int)<(N:Int):=by omega
   have hltX:kk<xs.length:=by rw[HXN.out];exact hlt
   have G:=H.out.on BJ.out
   obtain⟨g,c,hg1,hgl1,-⟩:=G.row_some (by omega)
   rw[HXN.out] at hg1
   injection hg1 with e1 _ e2
   subst e1
   subst e2
   have hpt:=G.ptr (by rw[HXN.out]) hltX
   have cD:=HD.out kk hltX wr BJ.out
   obtain⟨d,hd⟩:∃d,D kk=d:=⟨_,rfl⟩
   rw[hd] at cD
   have HDK:Hid (D kk=d):=hd
   clear G hd
   generalize xs.getD kk dwm=x at *
   rw[Wm.p] at cD hpt
   cases d
   ·have hJk:J=kk:=by
     rcases Nat.lt_or_ge kk J with h|h
     ·have:=HJ.out.1 kk h;rw[HDK.out] at this;cases this
     ·omega
    subst hJk
    go_wp2_with fail
    refine cD.mono ?_
    rintro e w2 ⟨rfl,b2⟩
    clear cD
    have BX2:=BJ.out.trans (b2.mono hbs)
    clear BJ hc hbs
    have HBX:Aside (Below w.heap.size w w2):=BX2
    have GX:=H.out.on HBX.out
    have hcX:=HC.out w2 HBX.out
    have hszX:=HBX.out.size
    have cOO:=zfs (w:=w2) (base:=base) (ps0:=ps0) _ J oc (xs.take J) (by have:=HXN.out;rw[List.length_take];omega) (zhx GX HXN.out J (by omega)) (fun x hx=>GX.wm x (List.mem_of_mem_take hx)) (HE.out.on HBX.out) HP.out (by omega) (fun x hx=>HGS.out x (List.mem_of_mem_take hx))
    have hsl:=fun W=>zdF _ N oc J (by omega) HOQ.out.1 HOQ.out.2.1 HOQ.out.2.2 W
    clear GX
    go_wp2_with fail
    refine cOO.mono ?_
    rintro e w4 ⟨⟨v,rfl,HV⟩,b4⟩
    have HOX:Aside (OutsF w.heap.size w4 v ((xs.take J).flatMap fun x=>wOt ps0 x.pl)):=HV.out.low HBX.out.size
    have HBY:Aside (Below w.heap.size w w4):=HBX.out.trans (b4.mono HBX.out.size)
    have hcY:=HC.out w4 HBY.out
    have cY:=HDEL.out w4 HBY.out J (by omega)
    have hszY:=HBY.out.size
    obtain⟨C,hC1,hC2⟩:=(H.out.on HBY.out).blk
    have h16:=hC2.c16
    have HC1:Aside (Blk w4 gb C 110):=hC1
    clear cOO hsl hcX HV b4 hC1 hC2
    go_wp2_with fail
    refine cY.mono ?_
    rintro r w5 ⟨rfl,HR,HK⟩
    have c5b:=HC1.out.kp HK.out HOG.out
    have c5:=c5b.cell 16
    have f5:=c5b.frozen 16
    rw[h16] at c5
    clear cY c5b hcY
    go_wp2
    go_ret
    have hw5:w4.heap.size≤w5.heap.size:=HK.out.size
    obtain⟨d1,d2,d3⟩:=(H.out.on HBY.out).del J (by rw[HXN.out];omega) HK.out (by rw[HXN.out];exact HR.out) (zcZ _ _ _ _ _)
    refine⟨⟨_,rfl,(show Aside _ from HOX.out.kp d2 (fun k hk=>?_))⟩,(show Aside _ from ⟨_,d1,(Kp.of_below HBY.out).trans d2,d3⟩)⟩
    rcases H.out.in_ k hk with h|h
    ·omega
    ·exact h.2
   ·have hJk:kk<J:=by
     rcases Nat.lt_or_ge kk J with h|h
     ·exact h
     ·have:=HJ.out.2 (by omega)
      have e:J=kk:=by omega
      rw[e,HDK.out] at this;cases this
    go_wp2_with fail
    refine cD.mono ?_
    rintro e w2 ⟨rfl,b2⟩
    have B2:Aside (Below w.heap.size w w2):=BJ.out.trans (b2.mono hbs)
    clear cD BJ hc hpt
    go_wp2
    go_roundg (N-(kk+1))
    case measure=>omega
    case rel=>exact⟨kk+1,by omega,by omega,by go_num,B2⟩
  ·have hltz:¬(kk:Int)<(N:Int):=by omega
   have hJk:J=kk:=by omega
   subst hJk
   have BX2:=BJ.out
   clear BJ hc hbs
   have HBX:Aside (Below w.heap.size w wr):=BX2
   have GX:=H.out.on HBX.out
   have hcX:=HC.out wr HBX.out
   have hszX:=HBX.out.size
   have cOO:=zfs (w:=wr) (base:=base) (ps0:=ps0) _ J oc (xs.take J) (by have:=HXN.out;rw[List.length_take];omega) (zhx GX HXN.out J (by omega)) (fun x hx=>GX.wm x (List.mem_of_mem_take hx)) (HE.out.on HBX.out) HP.out (by omega) (fun x hx=>HGS.out x (List.mem_of_mem_take hx))
   have hsl:=fun W=>zdF _ N oc J (by omega) HOQ.out.1 HOQ.out.2.1 HOQ.out.2.2 W
   clear GX
   go_wp2_with fail
   refine cOO.mono ?_
   rintro e w4 ⟨⟨v,rfl,HV⟩,b4⟩
   have HOX:Aside (OutsF w.heap.size w4 v ((xs.take J).flatMap fun x=>wOt ps0 x.pl)):=HV.out.low HBX.out.size
   have HBY:Aside (Below w.heap.size w w4):=HBX.out.trans (b4.mono HBX.out.size)
   have hcY:=HC.out w4 HBY.out
   have cY:=HDEL.out w4 HBY.out J (by omega)
   have hszY:=HBY.out.size
   obtain⟨C,hC1,hC2⟩:=(H.out.on HBY.out).blk
   have h16:=hC2.c16
   have HC1:Aside (Blk w4 gb C 110):=hC1
   clear cOO hsl hcX HV b4 hC1 hC2
   go_wp2_with fail
   refine cY.mono ?_
   rintro r w5 ⟨rfl,HR,HK⟩
   have c5b:=HC1.out.kp HK.out HOG.out
   have c5:=c5b.cell 16
   have f5:=c5b.frozen 16
   rw[h16] at c5
   clear cY c5b hcY
   go_wp2
   go_ret
   have hw5:w4.heap.size≤w5.heap.size:=HK.out.size
   obtain⟨d1,d2,d3⟩:=(H.out.on HBY.out).del J (by rw[HXN.out];omega) HK.out (by rw[HXN.out];exact HR.out) (zcZ _ _ _ _ _)
   refine⟨⟨_,rfl,(show Aside _ from HOX.out.kp d2 (fun k hk=>?_))⟩,(show Aside _ from ⟨_,d1,(Kp.of_below HBY.out).trans d2,d3⟩)⟩
   rcases H.out.in_ k hk with h|h
   ·omega
   ·exact h.2
end
end Go.Proofs.YtopghagjmdbglaaGreatDoor
