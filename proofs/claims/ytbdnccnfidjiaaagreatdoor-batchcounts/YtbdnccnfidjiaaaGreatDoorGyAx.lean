/-
  AgL, AgK, AgKn, AgF, AgG.
-/
import Derived.Test.YtbdnccnfidjiaaaGreatDoorGyAw
import Derived.Test.YtbdnccnfidjiaaaGreatDoorGyAi
import Derived.Test.YtbdnccnfidjiaaaGreatDoorGyAu
import Derived.Deep.RegionHeld3
namespace Go.Proofs.YtbdnccnfidjiaaaGreatDoor
open Go.RowKit
set_option linter.unusedVariables false
set_option linter.unusedSimpArgs false
set_option maxHeartbeats 8000000
theorem zqA:∀(args:Array Value) (W:World),Sem.run Tryz.prog (callFunc 223 args) W=.ok (.enter 223 args) W:=fun args W=>by kernel_rfl
structure ReSt(w:World)(LA LL a:Nat)(vs:List V3)(W:World):Prop where
 old:Below LA w W
 ca:W.cell? ⟨LA,0,none⟩=some (.pointer (some ⟨a,0,none⟩))
 la:LA<LL
 ll:∃lv,Blk W LL #[lv] 42∧W.ownsRow (LL+1) 28 3 lv vs.length (zao vs)
theorem ReSt.on{w W W':World}{LA LL a:Nat}{vs:List V3}(h:ReSt w LA LL a vs W)(hb:Below W.heap.size W W'):ReSt w LA LL a vs W':=by
 obtain⟨lv,h1,h2⟩:=h.ll
 have hl:=h1.lt
 have:=h.la
 have hlow:LA≤W.heap.size:=by omega
 refine⟨h.old.trans (hb.mono hlow),by rw[hb.cell (p:=⟨LA,0,none⟩) (by show LA<_;omega)];exact h.ca,h.la,lv,h1.on hb,?_⟩
 refine⟨h2.1,?_⟩
 rcases h2.2 with hn|⟨g,cap,cur,rfl,h3,hgg,rest⟩
 ·exact .inl hn
 ·exact .inr ⟨g,cap,cur,rfl,h3,by rw[hb.block g (Array.getElem?_eq_some_iff.1 hgg).1];exact hgg,rest⟩
theorem ReSt.push{w W W1 W2:World}{LA LL a:Nat}{vs:List V3}{lv:Value}{q':Option Addr}{c' N:Nat}{x:V3}(h:ReSt w LA LL a vs W)(hN:vs.length=N)(h1:Blk W LL #[lv] 42)(h2:W.ownsRow (LL+1) 28 3 lv N (zao vs))(hb:Below W.heap.size W W1)(hg:W1.grownBy W2 lv.ownBlock)(ho:W2.ownsRow (LL+1) 28 3 (.slice q' (N+1) c') (N+1) (zao (vs++[x]))) :
  (W2.cell? ⟨LL,0,none⟩=some lv∧W2.frozen? ⟨LL,0,none⟩=false)∧ReSt w LA LL a (vs++[x]) (W2.setCell ⟨LL,0,none⟩ (.slice q' (N+1) c')):=by
 subst hN
 have hl:=h1.lt
 have hla:=h.la
 have hs:=hb.size
 have hown:∀k,lv.ownBlock=some k→LL+1≤k:=fun k hk=>(h2.lt k hk).1
 have hk:∀k,k≤LL→W2.heap[k]?=W1.heap[k]?:=fun k hk'=>hg.block k (by omega) (fun e=>by have:=hown k e.symm;omega)
 have hB2:Blk W2 LL #[lv] 42:=(h1.on hb).keep (hk LL (Nat.le_refl _))
 refine⟨⟨hB2.cell 0,hB2.frozen 0⟩,?_⟩
 have hb12:Below (LL+1) W1 W2:=(Below.refl _ W1).grown hg (by omega) hown
 refine⟨(((h.old.trans (hb.mono (by omega))).trans (hb12.mono (by omega))).setCell (p:=⟨LL,0,none⟩) (by show LA≤LL;omega) _),?_,hla,_,by simpa using hB2.set 0 (.slice q' (vs.length+1) c'),?_⟩
 ·rw[World.cell?_of_block (w:=W2) (a:=⟨LA,0,none⟩) (Below.heap_setCell _ _ _ _ (by show LA≠LL;omega)),hb12.cell (p:=⟨LA,0,none⟩) (by show LA<_;omega),hb.cell (p:=⟨LA,0,none⟩) (by show LA<_;omega)]
  exact h.ca
 ·rw[List.length_append,List.length_singleton]
  exact ownsRow_setCell_below ho (by show LL<LL+1;omega) _
set_option maxRecDepth 20000 in
theorem zpm(w:World)(a g i:Nat)(p:Pt)(q:Option Addr)(pc:Nat)(rows:Int)(LA LL:Nat)(vs:List V3)(W:World)(hS:ReSt w LA LL a vs W)(ha:W.cell? ⟨a,0,none⟩=some (.int .i64 rows))(hal:a<LA)(hp:zbo W g (i*6) p q pc)(hok:OkPt p)(hn:vs.length≤6)(T K:Int)(S:ByteArray)(E:Int)(hR:resP p rows=((T,K,S),E)) :
  Calls Tryz.prog 223 #[.int .i64 (i:Int),.pointer (some ⟨g,i*6,none⟩),.pointer (some ⟨LA,0,none⟩),.pointer (some ⟨LL,0,none⟩)] W fun e w'=>e=.returned (errV E)∧Aside (ReSt w LA LL a (vs++[(T,K,S)]) w'):=by
 have cR:=zgH g (i*6) p q pc rows W hp hok T K S E hR
 have hca:=hS.ca
 have HS:Aside (ReSt w LA LL a vs W):=hS
 obtain⟨RV,hRV⟩:∃RV,errV E=RV:=⟨_,rfl⟩
 rw[hRV] at cR ⊢
 clear hp hok hR hS
 go_enter Tryz.func223,Tryz.ntmps223
 go_wp2_with fail
 refine cR.mono ?_
 rintro e W1 ⟨rfl,B1⟩
 clear cR
 have S1:=HS.out.on B1
 obtain⟨lv,L1,O1⟩:=S1.ll
 obtain⟨lq,lc,rfl⟩:=zaa O1
 have hl1:=L1.cell 0
 have hll:=L1.lt
 simp at hl1
 have HS1:Aside (ReSt w LA LL a vs W1):=S1
 have HO1:Aside (W1.ownsRow (LL+1) 28 3 (.slice lq vs.length lc) vs.length (zao vs)):=O1
 have HL1:Aside (Blk W1 LL #[.slice lq vs.length lc] 42):=L1
 have hls:=HS.out.la
 clear S1 O1 L1 B1 HS hca ha
 generalize hN:vs.length=N at *
 have HN:Hid (vs.length=N):=hN
 go_wp2_with (refine zaz rfl (.tmp 18) (.tmp 20) rfl (LL+1) (.slice lq N lc) N vs rfl (zac HO1.out (al2 W1 _ _)) (W1.heap.size+1) 1 T K S rfl (news1 (by simp) _) (by omega) (by simp;omega) ?_;intro q' c' W3 o1 g1;obtain⟨⟨f1,f2⟩,S3⟩:=HS1.out.push HN.out HL1.out HO1.out (al2 W1 _ _) g1 o1)
 go_ret
 exact⟨rfl,S3⟩
def reV(ps:List Pt)(rows:Int):List V3:=ps.map fun p=>(resP p rows).1
def reE(ps:List Pt)(rows:Int):Int:=fstE (ps.map fun p=>(resP p rows).2)
theorem zkC(a:Nat)(q:Option Addr)(c:Nat)(rows:Int)(ps:List Pt)(w:World)(hA:AccAt w a (.slice q ps.length c) rows ps)(hok:AccOk rows ps)(W0:World)(h0:ReSt w w.heap.size (w.heap.size+1) a [] W0) :
  Calls Tryz.prog 198 #[.pointer (some ⟨a,0,none⟩),.func (.func 223) #[] #[.pointer (some ⟨w.heap.size,0,none⟩),.pointer (some ⟨w.heap.size+1,0,none⟩)]] W0 fun e w'=>e=.returned (errV (reE ps rows))∧Aside (if reE ps rows=0 then ReSt w w.heap.size (w.heap.size+1) a (reV ps rows) w' else Below w.heap.size w w'):=by
 have hlen:(reV ps rows).length=ps.length:=by simp[reV]
 have hE:(ps.map fun p=>(resP p rows).2).length=ps.length:=by simp
 refine (zjs 223 zqA #[.pointer (some ⟨w.heap.size,0,none⟩),.pointer (some ⟨w.heap.size+1,0,none⟩)] a q ps.length c (ps.map fun p=>(resP p rows).2) hE hok.len (fun i W=>ReSt w w.heap.size (w.heap.size+1) a ((reV ps rows).take i) W) (fun W=>Below w.heap.size w W) W0 (by simpa using h0) (fun i W hW=>(hA.on hW.old).cell1) (fun h0=>?_) (fun g i W hi hq hW=>?_) (fun W hW=>hW.old) (reE ps rows) rfl).mono fun e w' hh=>⟨hh.1,by have:=hh.2.out;rw[←hlen,List.take_length] at this;exact this⟩
 ·obtain⟨g,c',cur,e,_⟩:=hA.at h0
  injection e with e
  exact⟨g,e⟩
 ·have hi1:i<ps.length:=by omega
  obtain⟨g',c',cur,e,hP⟩:=(hA.on hW.old).at hi1
  injection e with e
  rw[hq] at e
  injection e with e
  injection e with e
  subst e
  obtain⟨pq,pc,hp⟩:=hP.part i hi1
  have hl6:=hok.len
  have:=zpm w a g i ps[i] pq pc rows w.heap.size (w.heap.size+1) ((reV ps rows).take i) W hW (hA.on hW.old).cell0 hA.blk.lt hp (hok.ok _ (List.getElem_mem _)).ok (by rw[List.length_take];omega) (resP ps[i] rows).1.1 (resP ps[i] rows).1.2.1 (resP ps[i] rows).1.2.2 (resP ps[i] rows).2 rfl
  have hEi:(ps.map fun p=>(resP p rows).2)[i]=(resP ps[i] rows).2:=by simp
  have ht:(reV ps rows).take (i+1)=(reV ps rows).take i++[((resP ps[i] rows).1.1,(resP ps[i] rows).1.2.1,(resP ps[i] rows).1.2.2)]:=by
   rw[List.take_succ_eq_append_getElem (by omega)]
   simp[reV]
  rw[hEi]
  refine this.mono fun e w' hh=>⟨hh.1,?_⟩
  show ite _ _ _
  split
  ·show ReSt _ _ _ _ ((reV ps rows).take (i+1)) w'
   rw[ht];exact hh.2.out
  ·exact hh.2.out.old
set_option maxRecDepth 20000 in
theorem zmu(a:Nat)(v:Value)(rows:Int)(ps:List Pt)(w:World)(hA:AccAt w a v rows ps)(hok:AccOk rows ps)(hE:reE ps rows=0) :
  Calls Tryz.prog 204 #[.pointer (some ⟨a,0,none⟩)] w fun e w'=>(∃q c,e=.returned (.tuple #[.slice q (reV ps rows).length c,.nilIface])∧Aside (zaf w' q (reV ps rows))∧Aside (q=none→c=0))∧Aside (Below w.heap.size w w'):=by
 obtain⟨q,c,rfl⟩:=hA.form
 have hal:=hA.blk.lt
 have cE:=fun W0 h0=>zkC a q c rows ps w hA hok W0 h0
 have H0:ReSt w w.heap.size (w.heap.size+1) a [] ((w.alloc (.cells #[.pointer (some ⟨a,0,none⟩)] 252)).alloc (.cells #[.slice none 0 0] 42)):=by
  refine⟨al2 w _ _,?_,by omega,.slice none 0 0,?_,World.ownsRow_nil _ _ _ _⟩
  ·rw[((Below.refl _ _).alloc (B:=(w.alloc (.cells #[.pointer (some ⟨a,0,none⟩)] 252)).heap.size) (Nat.le_refl _) _).cell (p:=⟨w.heap.size,0,none⟩) (by simp),World.cell?_alloc_at _ _ _ _ rfl];rfl
  ·have:=zab (w.alloc (.cells #[.pointer (some ⟨a,0,none⟩)] 252)) #[.slice none 0 0] 42
   simpa using this
 have cE1:=cE _ H0
 have cE2:Calls Tryz.prog 198 #[.pointer (some ⟨a,0,none⟩),.func (.func 223) #[] #[.pointer (some ⟨w.heap.size,0,none⟩),.pointer (some ⟨w.heap.size+1,0,none⟩)]] ((w.alloc (.cells #[.pointer (some ⟨a,0,none⟩)] 252)).alloc (.cells #[.slice none 0 0] 42)) fun e w'=>e=.returned .nilIface∧Aside (ReSt w w.heap.size (w.heap.size+1) a (reV ps rows) w'):=cE1.mono fun e w' hh=>⟨by rw[hh.1,hE];rfl,by have:=hh.2.out;rw[if_pos hE] at this;exact this⟩
 clear cE H0 hA hok hE cE1
 generalize reV ps rows=L at *
 go_enter Tryz.func204,Tryz.ntmps204
 go_wp2_with fail
 refine cE2.mono ?_
 rintro e W2 ⟨rfl,S2⟩
 obtain⟨lv,L2,O2⟩:=S2.out.ll
 obtain⟨lq,lc,rfl⟩:=zaa O2
 have hV:Aside (zaf W2 lq L):=zdL rfl O2
 have hN:Aside (lq=none→lc=0):=fun h=>by
  rcases O2.2 with ⟨e,_⟩|⟨g,cap,cur,e,_⟩
  ·injection e
  ·injection e with e;rw[h] at e;exact absurd e (by simp)
 have f0:=L2.cell 0
 simp at f0
 have B2:Aside (Below w.heap.size w W2):=S2.out.old
 clear cE2 S2 O2 L2
 go_wp2
 go_ret2
 exact⟨⟨_,_,rfl,hV,hN⟩,B2⟩
set_option maxRecDepth 20000 in
theorem zkE(a:Nat)(v:Value)(rows:Int)(ps:List Pt)(w:World)(hA:AccAt w a v rows ps)(hok:AccOk rows ps)(E:Int)(hE:reE ps rows=E)(hE0:E≠0) :
  Calls Tryz.prog 204 #[.pointer (some ⟨a,0,none⟩)] w fun e w'=>e=.returned (.tuple #[.slice none 0 0,.iface 35 (.int .i64 E)])∧Aside (Below w.heap.size w w'):=by
 obtain⟨q,c,rfl⟩:=hA.form
 have hal:=hA.blk.lt
 have cE:=fun W0 h0=>zkC a q c rows ps w hA hok W0 h0
 rw[hE] at cE
 have H0:ReSt w w.heap.size (w.heap.size+1) a [] ((w.alloc (.cells #[.pointer (some ⟨a,0,none⟩)] 252)).alloc (.cells #[.slice none 0 0] 42)):=by
  refine⟨al2 w _ _,?_,by omega,.slice none 0 0,?_,World.ownsRow_nil _ _ _ _⟩
  ·rw[((Below.refl _ _).alloc (B:=(w.alloc (.cells #[.pointer (some ⟨a,0,none⟩)] 252)).heap.size) (Nat.le_refl _) _).cell (p:=⟨w.heap.size,0,none⟩) (by simp),World.cell?_alloc_at _ _ _ _ rfl];rfl
  ·have:=zab (w.alloc (.cells #[.pointer (some ⟨a,0,none⟩)] 252)) #[.slice none 0 0] 42
   simpa using this
 have cE1:=cE _ H0
 have hV:errV E=.iface 35 (.int .i64 E):=by rw[errV,if_neg hE0]
 have cE2:Calls Tryz.prog 198 #[.pointer (some ⟨a,0,none⟩),.func (.func 223) #[] #[.pointer (some ⟨w.heap.size,0,none⟩),.pointer (some ⟨w.heap.size+1,0,none⟩)]] ((w.alloc (.cells #[.pointer (some ⟨a,0,none⟩)] 252)).alloc (.cells #[.slice none 0 0] 42)) fun e w'=>e=.returned (.iface 35 (.int .i64 E))∧Aside (Below w.heap.size w w'):=cE1.mono fun e w' hh=>⟨by rw[hh.1,hV],by have:=hh.2.out;rw[if_neg hE0] at this;exact this⟩
 clear cE H0 hA hok hE cE1 hV hE0
 go_enter Tryz.func204,Tryz.ntmps204
 go_wp2_with fail
 refine cE2.mono ?_
 rintro e W2 ⟨rfl,S2⟩
 clear cE2
 go_wp2
 go_ret2
 exact⟨rfl,S2⟩
theorem zhu:(Tryz.prog.info? 292).map (fun i=>(i.zero,i.size,i.bytes))=some (some (.agg #[.string ⟨#[]⟩,.int .i64 0,.slice none 0 0,.int .i64 0,.int .i64 0,.string ⟨#[]⟩]),6,80):=by kernel_rfl
def AgsW(w:World)(p:Option Addr)(xs:List ByteArray):Prop:=xs.length=0∨∃b off,p=some ⟨b,off,none⟩∧b<w.heap.size∧∀j (h:j<xs.length),∃(op nm:ByteArray) (vt vn:Int) (vs:ByteArray) (ap:Option Addr) (an ac:Nat) (pos:Int) (name:ByteArray),
 w.rangeAt b (off+j*9) [.string xs[j],.string op,.string nm,.int .i64 vt,.int .i64 vn,.string vs,.slice ap an ac,.int .i64 pos,.string name]
def IntW(w:World)(p:Option Addr)(ts:List Int):Prop:=ts.length=0∨∃b off,p=some ⟨b,off,none⟩∧b<w.heap.size∧∀j (h:j<ts.length),w.cell? ⟨b,off+j,none⟩=some (.int .i64 ts[j])
def nwL(xs:List ByteArray)(ts:List Int):List Int:=List.zipWith (fun x t=>npE x.data.toList t) xs ts
def nwE(xs:List ByteArray)(ts:List Int):Int:=if ts.length≠xs.length then 3 else if 6<xs.length then 4 else fstE (nwL xs ts)
def nwP(xs:List ByteArray)(ts:List Int):List Pt:=List.zipWith npP xs ts
def ptC:List Pt→List Value
 | []=>[]
 | p::ps=>.string p.what::.int .i64 p.kind::.slice none 0 0::.int .i64 0::.int .i64 0::.string ⟨#[]⟩::ptC ps
theorem znr:∀a b:List Pt,ptC (a++b)=ptC a++ptC b
 | [],_=>rfl
 | p::a,b=>by rw[List.cons_append,ptC,ptC,znr a b];rfl
theorem zrG:∀{ps:List Pt} {j:Nat} (h:j<ps.length) (k:Nat) (hk:k<6),(ptC ps)[j*6+k]?=([.string ps[j].what,.int .i64 ps[j].kind,.slice none 0 0,.int .i64 0,.int .i64 0,.string ⟨#[]⟩]:List Value)[k]?
 | [],_,h,_,_=>absurd h (by simp)
 | p::ps,0,_,k,hk=>by
  match k,hk with
  | 0,_=>rfl
  | 1,_=>rfl
  | 2,_=>rfl
  | 3,_=>rfl
  | 4,_=>rfl
  | 5,_=>rfl
 | p::ps,j+1,h,k,hk=>by
  have:=zrG (ps:=ps) (j:=j) (by simpa using h) k hk
  rw[ptC,show (j+1)*6+k=(j*6+k)+6 by omega]
  simpa using this
structure NwSt(w:World)(A:Nat)(ps:List Pt)(W:World):Prop where
 old:Below A w W
 acc:∃v,Blk W A #[.int .i64 0,v] 284∧W.ownsRow (A+1) 292 6 v ps.length (ptC ps)
theorem NwSt.on{w W W':World}{A:Nat}{ps:List Pt}(h:NwSt w A ps W)(hb:Below W.heap.size W W'):NwSt w A ps W':=by
 obtain⟨v,h1,h2⟩:=h.acc
 have hl:=h1.lt
 exact⟨h.old.trans (hb.mono (by omega)),v,h1.on hb,zac h2 hb⟩
theorem zrt{W:World}{A:Nat}{v:Value}{ps:List Pt}(h1:Blk W A #[.int .i64 0,v] 284)(h2:W.ownsRow (A+1) 292 6 v ps.length (ptC ps))(hp:∀p∈ps,p.ws=[]∧p.best=noV):AccAt W A v 0 ps:=by
 refine⟨h1,?_⟩
 rcases id h2.2 with ⟨e,h0⟩|⟨g,cap,cur,e,hB,hg,hm,hx,hs,ht⟩
 ·exact .inl ⟨List.length_eq_zero_iff.1 h0,e⟩
 ·refine .inr ⟨g,cap,cur,e,hg,by omega,fun i hi=>⟨none,0,?_⟩⟩
  obtain⟨hw,hb⟩:=hp ps[i] (List.getElem_mem _)
  have k:∀j (hj:j<6) u,([.string ps[i].what,.int .i64 ps[i].kind,.slice none 0 0,.int .i64 0,.int .i64 0,.string ⟨#[]⟩]:List Value)[j]?=some u→W.cell? ⟨g,i*6+j,none⟩=some u:=fun j hj u hu=>by
   have:=h2.cells (g:=g) (by rw[e];rfl) (i*6+j) u (by rw[zrG hi j hj];exact hu)
   rw[Go.WideShapes.add_plain,Nat.zero_add] at this
   exact this
  refine⟨k 0 (by decide) _ rfl,k 1 (by decide) _ rfl,?_,?_,?_,?_,?_,(Array.getElem?_eq_some_iff.1 hg).1⟩
  ·rw[hw];exact k 2 (by decide) _ rfl
  ·rw[hb];exact k 3 (by decide) _ rfl
  ·rw[hb];exact k 4 (by decide) _ rfl
  ·rw[hb];exact k 5 (by decide) _ rfl
  ·rw[hw];exact TotA.nil _
theorem NwSt.push{w W W1 W2:World}{A N:Nat}{ps:List Pt}{p:Pt}{v:Value}{q':Option Addr}{c':Nat}(h:NwSt w A ps W)(hN:ps.length=N)(h1:Blk W A #[.int .i64 0,v] 284)(h2:W.ownsRow (A+1) 292 6 v N (ptC ps))(hb:Below W.heap.size W W1)(hg:W1.grownBy W2 v.ownBlock)(ho:W2.ownsRow (A+1) 292 6 (.slice q' (N+1) c') (N+1) (ptC ps++[.string p.what,.int .i64 p.kind,.slice none 0 0,.int .i64 0,.int .i64 0,.string ⟨#[]⟩])) :
  (W2.cell? ⟨A,1,none⟩=some v∧W2.frozen? ⟨A,1,none⟩=false)∧NwSt w A (ps++[p]) (W2.setCell ⟨A,1,none⟩ (.slice q' (N+1) c')):=by
 subst hN
 have hl:=h1.lt
 have hs:=hb.size
 have hown:∀k,v.ownBlock=some k→A+1≤k:=fun k hk=>(h2.lt k hk).1
 have hk:W2.heap[A]?=W1.heap[A]?:=hg.block A (by omega) (fun e=>by have:=hown A e.symm;omega)
 have hB2:Blk W2 A #[.int .i64 0,v] 284:=(h1.on hb).keep hk
 refine⟨⟨hB2.cell 1,hB2.frozen 1⟩,?_⟩
 have hb12:Below (A+1) W1 W2:=(Below.refl _ W1).grown hg (by omega) hown
 refine⟨(((h.old.trans (hb.mono (by omega))).trans (hb12.mono (by omega))).setCell (p:=⟨A,1,none⟩) (Nat.le_refl _) _),_,by simpa using hB2.set 1 (.slice q' (ps.length+1) c'),?_⟩
 rw[List.length_append,List.length_singleton,znr]
 exact ownsRow_setCell_below ho (by show A<A+1;omega) _
theorem one6(x:ByteArray)(k:Int):∀u∈([.string x,.int .i64 k,.slice none 0 0,.int .i64 0,.int .i64 0,.string ⟨#[]⟩]:List Value),u.oneCell'=true:=by
 intro u hu
 simp at hu
 rcases hu with rfl|rfl|rfl|rfl|rfl|rfl<;>rfl
theorem zhO:(Tryz.prog.info? 87).map (·.size)=some 9:=by kernel_rfl
theorem ztn{xs:List ByteArray}{ts:List Int}{k:Nat}(h1:k<xs.length)(h2:k<ts.length):fstE ((nwL xs ts).drop k)=if npE xs[k].data.toList ts[k]≠0 then npE xs[k].data.toList ts[k] else fstE ((nwL xs ts).drop (k+1)):=by
 have hl:k<(nwL xs ts).length:=by simp[nwL];omega
 rw[zne hl]
 simp[nwL]
theorem zoZ{xs:List ByteArray}{ts:List Int}{k:Nat}(h1:k<xs.length)(h2:k<ts.length):(nwP xs ts).take (k+1)=(nwP xs ts).take k++[npP xs[k] ts[k]]:=by
 have hl:k<(nwP xs ts).length:=by simp[nwP];omega
 rw[List.take_succ_eq_append_getElem hl]
 simp[nwP]
set_option maxRecDepth 20000 in
theorem zrk(ap:Option Addr)(ac:Nat)(xs:List ByteArray)(tp:Option Addr)(tc:Nat)(ts:List Int)(w:World)(henv:AEnv w)(ha:AgsW w ap xs)(ht:IntW w tp ts)(hx:xs.length≤maxLen)(htl:ts.length≤maxLen)(E:Int)(hE:nwE xs ts=E)(PST:Ending→World→Prop)
  (hbad:∀W,E≠0→Below w.heap.size w W→PST (.returned (.tuple #[.pointer none,.iface 35 (.int .i64 E)])) W)
  (hok:∀W,E=0→NwSt w w.heap.size (nwP xs ts) W→PST (.returned (.tuple #[.pointer (some ⟨w.heap.size,0,none⟩),.nilIface])) W) :
  Calls Tryz.prog 195 #[.slice ap xs.length ac,.slice tp ts.length tc] w PST:=by
 have hmx:(xs.length:Int)≤9223372036854775807:=by unfold maxLen at hx;omega
 have hmt:(ts.length:Int)≤9223372036854775807:=by unfold maxLen at htl;omega
 have HB:Hid (∀W,E≠0→Below w.heap.size w W→PST (.returned (.tuple #[.pointer none,.iface 35 (.int .i64 E)])) W):=hbad
 have HO:Hid (∀W,E=0→NwSt w w.heap.size (nwP xs ts) W→PST (.returned (.tuple #[.pointer (some ⟨w.heap.size,0,none⟩),.nilIface])) W):=hok
 clear hbad hok
 by_cases hlen:ts.length=xs.length
 ·by_cases h6:6<xs.length
  ·have hE4:E=4:=by rw[←hE,nwE,if_neg (fun h=>h hlen),if_pos h6]
   subst hE4
   have h6z:(6:Int)<(xs.length:Int):=by omega
   have hne:((xs.length:Int) != (xs.length:Int))=false:=by simp
   rw[hlen]
   clear hE hlen ha ht henv h6 hx htl hmt
   generalize xs.length=N at *
   go_enter Tryz.func195,Tryz.ntmps195
   go_wp2
   exact HB.out _ (by decide) (Below.refl _ _)
  ·have hE5:fstE ((nwL xs ts).drop 0)=E:=by rw[←hE,nwE,if_neg (fun h=>h hlen),if_neg h6];rfl
   have h6z:¬(6:Int)<(xs.length:Int):=by omega
   have hne:((xs.length:Int) != (xs.length:Int))=false:=by simp
   have HEN:Aside (AEnv w):=henv
   have HAG:Aside (AgsW w ap xs):=ha
   have HTY:Aside (IntW w tp ts):=ht
   have HE0:Hid (fstE ((nwL xs ts).drop 0)=E):=hE5
   have HPL:Hid ((nwP xs ts).length=xs.length):=by show _=_;simp[nwP,hlen]
   have HLT:Hid (ts.length=xs.length):=hlen
   have S0:Aside (NwSt w w.heap.size ((nwP xs ts).take 0) (w.alloc (.cells #[.int .i64 0,.slice none 0 0] 284))):=⟨alB _ _,_,zab _ _ _,World.ownsRow_nil _ _ _ _⟩
   rw[hlen]
   obtain⟨N,hN⟩:∃N,xs.length=N:=⟨_,rfl⟩
   have HN:Hid (xs.length=N):=hN
   rw[hN] at hmx h6z hne ⊢
   have hN6:N≤6:=by omega
   clear hE hlen ha ht henv h6 hx htl hmt hE5 hN
   go_enter Tryz.func195,Tryz.ntmps195
   go_wp2
   go_loopg [27] N (fun gg s27 wr=>∃kk:Nat,kk≤N∧N-kk≤gg∧s27=.int .i64 kk∧Aside (NwSt w w.heap.size ((nwP xs ts).take kk) wr)∧Hid (fstE ((nwL xs ts).drop kk)=E))
   case atStart=>exact⟨0,Nat.zero_le _,by omega,rfl,S0,HE0⟩
   case round =>
    obtain⟨kk,hkk,hg,rfl,SR,HER⟩:=hrel
    clear S0 HE0
    by_cases hlt:kk<N
    ·have hltz:(kk:Int)<(N:Int):=by omega
     have h0z:(0:Int)≤(kk:Int):=by omega
     have hkx:kk<xs.length:=by rw[HN.out];exact hlt
     have hkt:kk<ts.length:=by rw[HLT.out];exact hkx
     obtain⟨ab,ao,rfl,hal,hag⟩:=(HAG.out.resolve_left (by omega))
     obtain⟨tb,to_,rfl,htl,htg⟩:=(HTY.out.resolve_left (by omega))
     obtain⟨op,nm,vt,vn,vs,gp,gn,gc,pos,name,hr⟩:=hag kk hkx
     have hT:=htg kk hkt
     have hfe:=HER.out
     rw[ztn hkx hkt] at hfe
     have htk:=zoZ hkx hkt
     clear hag htg HER
     generalize hxk:xs[kk]=x at *
     generalize htk':ts[kk]=t at *
     have hr2:wr.rangeAt ab (ao+kk*9) [.string x,.string op,.string nm,.int .i64 vt,.int .i64 vn,.string vs,.slice gp gn gc,.int .i64 pos,.string name]:=fun j v hv=>by rw[SR.out.old.cell (p:=⟨ab,_,none⟩) hal];exact hr j v hv
     have hT2:wr.cell? ⟨tb,to_+kk,none⟩=some (.int .i64 t):=by rw[SR.out.old.cell (p:=⟨tb,_,none⟩) htl];exact hT
     have hws:=SR.out.old.size
     have htw:tb<wr.heap.size:=by omega
     have hT3:∀o1:Obj,(wr.alloc o1).cell? ⟨tb,to_+kk,none⟩=some (.int .i64 t):=fun o1=>by rw[(alB wr o1).cell (p:=⟨tb,to_+kk,none⟩) htw];exact hT2
     have hT4:∀o1 o2:Obj,((wr.alloc o1).alloc o2).cell? ⟨tb,to_+kk,none⟩=some (.int .i64 t):=fun o1 o2=>by rw[(al2 wr o1 o2).cell (p:=⟨tb,to_+kk,none⟩) htw];exact hT2
     have cN:=fun (W:World) (hW:AEnv W)=>zin x t W hW (npP x t) rfl _ rfl
     have hEW:AEnv wr:=HEN.out.onB SR.out.old HEN.out.big (by omega)
     clear hr hT hT2
     go_wp2_with (refine wpList_load_mid rfl 87 _ rfl ab (ao+kk*9) rfl _ _ hr2 Tryz.underlying87 rfl zhO ?_)
     obtain⟨X,hX⟩:∃X,wr.alloc (.cells #[.string x,.string op,.string nm,.int .i64 vt,.int .i64 vn,.string vs,.slice gp gn gc,.int .i64 pos,.string name] 87)=X:=⟨_,rfl⟩
     have BX:Below wr.heap.size wr X:=by rw[←hX];exact alB _ _
     have SX:Aside (NwSt w w.heap.size ((nwP xs ts).take kk) X):=SR.out.on BX
     have EX:AEnv X:=hEW.on BX
     have x0:X.cell? ⟨wr.heap.size,0,none⟩=some (.string x):=by rw[←hX];exact (zab wr _ _).cell 0
     have x1:X.cell? ⟨tb,to_+kk,none⟩=some (.int .i64 t):=by rw[←hX];exact hT3 _
     have lX:wr.heap.size<X.heap.size:=by rw[←hX];simp
     have lT:tb<X.heap.size:=by omega
     have cNB:=cN X.drew (EX.on (Below.drew (Below.refl _ _)))
     have cNA0:=cN (X.alloc (.cells #[.string ⟨#[]⟩,.int .i64 0,.slice none 0 0,.int .i64 0,.int .i64 0,.string ⟨#[]⟩] 292)).drew (EX.on (Below.drew (alB _ _)))
     have n1:wr.heap.size≠X.heap.size:=by omega
     have n2:tb≠X.heap.size:=by omega
     have n3:X.heap.size≠wr.heap.size:=by omega
     have n4:X.heap.size≠tb:=by omega
     rw[hX]
     clear hX cN hr2 hT3 hT4 SR hEW BX EX
     go_region_held3 (fun w'=>w'.cell? ⟨wr.heap.size,0,none⟩=some (.string x)∧w'.cell? ⟨tb,to_+kk,none⟩=some (.int .i64 t)) (go_keep) (first
      | (go_at_call 218;refine cNB.mono ?_;rintro e w2 ⟨rfl,B2⟩;have y0:w2.cell? ⟨wr.heap.size,0,none⟩=some (.string x):=by rw[B2.cell (p:=⟨wr.heap.size,0,none⟩) lX];exact x0
         have y1:w2.cell? ⟨tb,to_+kk,none⟩=some (.int .i64 t):=by rw[B2.cell (p:=⟨tb,to_+kk,none⟩) lT];exact x1
         have hsz:X.heap.size≤w2.heap.size:=B2.size
         have n5:wr.heap.size≠w2.heap.size:=by omega
         have n6:tb≠w2.heap.size:=by omega
         have n7:w2.heap.size≠wr.heap.size:=by omega
         have n8:w2.heap.size≠tb:=by omega)
      | (go_at_call 218;refine cNA0.mono ?_;rintro e w2 ⟨rfl,B2⟩;have B2':=(Below.drew (alB X _)).trans (B2.mono (by simp));have y0:w2.cell? ⟨wr.heap.size,0,none⟩=some (.string x):=by rw[B2'.cell (p:=⟨wr.heap.size,0,none⟩) lX];exact x0
         have y1:w2.cell? ⟨tb,to_+kk,none⟩=some (.int .i64 t):=by rw[B2'.cell (p:=⟨tb,to_+kk,none⟩) lT];exact x1
         have P2:=zks X ((Below.drew (Below.refl _ _)).trans B2);have c0:=P2.cell 0;have c1:=P2.cell 1;have c2:=P2.cell 2;have c3:=P2.cell 3;have c4:=P2.cell 4;have c5:=P2.cell 5;have cf:=P2.frozen;simp at c0 c1 c2 c3 c4 c5))
     ·obtain⟨Y,hY⟩:∃Y,w2.alloc (.cells #[.string (npP x t).what,.int .i64 (npP x t).kind,.slice none 0 0,.int .i64 0,.int .i64 0,.string ⟨#[]⟩] 292)=Y:=⟨_,rfl⟩
      have PY:Blk Y w2.heap.size #[.string (npP x t).what,.int .i64 (npP x t).kind,.slice none 0 0,.int .i64 0,.int .i64 0,.string ⟨#[]⟩] 292:=by rw[←hY];exact zab _ _ _
      have SY:NwSt w w.heap.size ((nwP xs ts).take kk) Y:=by rw[←hY];exact ((SX.out.on (Below.drew (Below.refl _ _))).on B2).on (alB _ _)
      rw[hY]
      clear hY B2 SX cNB cNA0 x0 x1 y0 y1 n1 n2 n3 n4 n5 n6 n7 n8 lX lT hsz
      generalize w2.heap.size=pb at *
      have hfe2:=hfe
      obtain⟨vv,LV,OV⟩:=SY.acc
      have htl2:((nwP xs ts).take kk).length=kk:=by rw[List.length_take,HPL.out,HN.out];omega
      obtain⟨vq,vc,rfl⟩:=zaa OV
      rw[htl2] at OV LV
      have HTL:Hid (((nwP xs ts).take kk).length=kk):=htl2
      have a1:=LV.cell 1
      simp at a1
      have hlA:=LV.lt
      have HSY:Aside (NwSt w w.heap.size ((nwP xs ts).take kk) Y):=SY
      have HTK:Hid ((nwP xs ts).take (kk+1)=(nwP xs ts).take kk++[npP x t]):=htk
      clear htl2 SY hfe htk
      by_cases hz:npE x.data.toList t=0
      ·rw[if_neg (fun h=>h hz)] at hfe2
       rw[hz,show errV 0=.nilIface from rfl]
       have HFE:Hid (fstE ((nwL xs ts).drop (kk+1))=E):=hfe2
       have HOV:Aside (Y.ownsRow (w.heap.size+1) 292 6 (.slice vq kk vc) kk (ptC ((nwP xs ts).take kk))):=OV
       have HLV:Aside (Blk Y w.heap.size #[.int .i64 0,.slice vq kk vc] 284):=LV
       have p0:=PY.cell 0
       have p1:=PY.cell 1
       have p2:=PY.cell 2
       have p3:=PY.cell 3
       have p4:=PY.cell 4
       have p5:=PY.cell 5
       simp at p0 p1 p2 p3 p4 p5
       obtain⟨i0,hi0,hz0,hz1,hz2⟩:=info_parts zhu
       clear hfe2 hz OV LV PY
       generalize npP x t=pp at *
       generalize (nwP xs ts).take kk=tk at *
       go_wp2
       go_region_law (refine zat rfl (.tmp 49) (.tmp 51) 282 rfl (w.heap.size+1) 292 i0 _ 6 80 Tryz.underlying282 hi0 hz0 hz1 hz2 rfl (by decide) (.slice vq kk vc) kk (ptC tk) (by simp[Act.eval]) (zac HOV.out ((Below.drew (Below.refl _ _)).alloc (by simp) _)) ⟨Y.heap.size,0,none⟩ 1 1 [.string pp.what,.int .i64 pp.kind,.slice none 0 0,.int .i64 0,.int .i64 0,.string ⟨#[]⟩] (by simp[Act.eval]) rfl (news1 (by simp) _) (one6 _ _) (by simp[maxLen];omega) (by omega) (by simp;omega) ?_;intro q' c' w5 ho hg5;obtain⟨⟨f1,f2⟩,f3⟩:=HSY.out.push (p:=pp) HTL.out HLV.out HOV.out ((Below.drew (Below.refl _ _)).alloc (by simp) _) hg5 ho)
       all_goals
        have SN:Aside (NwSt w w.heap.size ((nwP xs ts).take (kk+1)) (w5.setCell ⟨w.heap.size,1,none⟩ (.slice q' (kk+1) c'))):=by rw[HTK.out];exact f3
        clear f3 ho hg5
        go_wp2
        go_roundg (N-(kk+1))
        case measure=>omega
        case rel=>exact⟨kk+1,by omega,by omega,by go_num,SN,HFE⟩
      ·rw[if_pos hz] at hfe2
       have hV:errV (npE x.data.toList t)=.iface 35 (.int .i64 E):=by rw[errV,if_neg hz,hfe2]
       rw[hV]
       have HEN0:Hid (E≠0):=by show E≠0;rw[←hfe2];exact hz
       have HOL:Aside (Below w.heap.size w Y):=HSY.out.old
       clear hfe2 hz hV OV LV PY HSY HTK
       go_wp2
       exact HB.out _ HEN0.out HOL.out
     ·obtain⟨Y,hY⟩:∃Y,(((((w2.setCell ⟨X.heap.size,0,none⟩ (.string (npP x t).what)).setCell ⟨X.heap.size,1,none⟩ (.int .i64 (npP x t).kind)).setCell ⟨X.heap.size,2,none⟩ (.slice none 0 0)).setCell ⟨X.heap.size,3,none⟩ (.int .i64 0)).setCell ⟨X.heap.size,4,none⟩ (.int .i64 0)).setCell ⟨X.heap.size,5,none⟩ (.string ⟨#[]⟩)=Y:=⟨_,rfl⟩
      have PY:Blk Y X.heap.size #[.string (npP x t).what,.int .i64 (npP x t).kind,.slice none 0 0,.int .i64 0,.int .i64 0,.string ⟨#[]⟩] 292:=by
       rw[←hY]
       have:=Blk.cells [.string (npP x t).what,.int .i64 (npP x t).kind,.slice none 0 0,.int .i64 0,.int .i64 0,.string ⟨#[]⟩] 0 _ _ P2
       simp only[putA,List.setIfInBounds_toArray,List.set_cons_zero,List.set_cons_succ,Nat.reduceAdd] at this
       exact this
      have KY:But X.heap.size w2 Y:=by rw[←hY];exact But.cells [.string (npP x t).what,.int .i64 (npP x t).kind,.slice none 0 0,.int .i64 0,.int .i64 0,.string ⟨#[]⟩] 0 _ (But.refl _ _)
      have SY:NwSt w w.heap.size ((nwP xs ts).take kk) Y:=SX.out.on (B2'.trans KY.below)
      rw[hY]
      clear hY B2 B2' SX cNB cNA0 x0 x1 y0 y1 n1 n2 n3 n4 lX lT P2 KY c0 c1 c2 c3 c4 c5 cf
      generalize X.heap.size=pb at *
      have hfe2:=hfe
      obtain⟨vv,LV,OV⟩:=SY.acc
      have htl2:((nwP xs ts).take kk).length=kk:=by rw[List.length_take,HPL.out,HN.out];omega
      obtain⟨vq,vc,rfl⟩:=zaa OV
      rw[htl2] at OV LV
      have HTL:Hid (((nwP xs ts).take kk).length=kk):=htl2
      have a1:=LV.cell 1
      simp at a1
      have hlA:=LV.lt
      have HSY:Aside (NwSt w w.heap.size ((nwP xs ts).take kk) Y):=SY
      have HTK:Hid ((nwP xs ts).take (kk+1)=(nwP xs ts).take kk++[npP x t]):=htk
      clear htl2 SY hfe htk
      by_cases hz:npE x.data.toList t=0
      ·rw[if_neg (fun h=>h hz)] at hfe2
       rw[hz,show errV 0=.nilIface from rfl]
       have HFE:Hid (fstE ((nwL xs ts).drop (kk+1))=E):=hfe2
       have HOV:Aside (Y.ownsRow (w.heap.size+1) 292 6 (.slice vq kk vc) kk (ptC ((nwP xs ts).take kk))):=OV
       have HLV:Aside (Blk Y w.heap.size #[.int .i64 0,.slice vq kk vc] 284):=LV
       have p0:=PY.cell 0
       have p1:=PY.cell 1
       have p2:=PY.cell 2
       have p3:=PY.cell 3
       have p4:=PY.cell 4
       have p5:=PY.cell 5
       simp at p0 p1 p2 p3 p4 p5
       obtain⟨i0,hi0,hz0,hz1,hz2⟩:=info_parts zhu
       clear hfe2 hz OV LV PY
       generalize npP x t=pp at *
       generalize (nwP xs ts).take kk=tk at *
       go_wp2
       go_region_law (refine zat rfl (.tmp 49) (.tmp 51) 282 rfl (w.heap.size+1) 292 i0 _ 6 80 Tryz.underlying282 hi0 hz0 hz1 hz2 rfl (by decide) (.slice vq kk vc) kk (ptC tk) (by simp[Act.eval]) (zac HOV.out ((Below.drew (Below.refl _ _)).alloc (by simp) _)) ⟨Y.heap.size,0,none⟩ 1 1 [.string pp.what,.int .i64 pp.kind,.slice none 0 0,.int .i64 0,.int .i64 0,.string ⟨#[]⟩] (by simp[Act.eval]) rfl (news1 (by simp) _) (one6 _ _) (by simp[maxLen];omega) (by omega) (by simp;omega) ?_;intro q' c' w5 ho hg5;obtain⟨⟨f1,f2⟩,f3⟩:=HSY.out.push (p:=pp) HTL.out HLV.out HOV.out ((Below.drew (Below.refl _ _)).alloc (by simp) _) hg5 ho)
       all_goals
        have SN:Aside (NwSt w w.heap.size ((nwP xs ts).take (kk+1)) (w5.setCell ⟨w.heap.size,1,none⟩ (.slice q' (kk+1) c'))):=by rw[HTK.out];exact f3
        clear f3 ho hg5
        go_wp2
        go_roundg (N-(kk+1))
        case measure=>omega
        case rel=>exact⟨kk+1,by omega,by omega,by go_num,SN,HFE⟩
      ·rw[if_pos hz] at hfe2
       have hV:errV (npE x.data.toList t)=.iface 35 (.int .i64 E):=by rw[errV,if_neg hz,hfe2]
       rw[hV]
       have HEN0:Hid (E≠0):=by show E≠0;rw[←hfe2];exact hz
       have HOL:Aside (Below w.heap.size w Y):=HSY.out.old
       clear hfe2 hz hV OV LV PY HSY HTK
       go_wp2
       exact HB.out _ HEN0.out HOL.out
    ·have hltz:¬(kk:Int)<(N:Int):=by omega
     obtain rfl:kk=N:=by omega
     have hE0:E=0:=by rw[←HER.out,List.drop_eq_nil_of_le (by simp[nwL];have:=HN.out;omega)];rfl
     have HE2:Hid _:=hE0
     clear hE0
     go_wp2
     exact HO.out _ HE2.out (by have:=SR.out;rw[List.take_of_length_le (by rw[HPL.out,HN.out];exact Nat.le_refl _)] at this;exact this)
 ·have hE3:E=3:=by rw[←hE,nwE,if_pos hlen]
  subst hE3
  have hne:((ts.length:Int) != (xs.length:Int))=true:=by simp;omega
  clear hE hlen ha ht henv hx htl
  generalize xs.length=N at *
  generalize ts.length=M at *
  go_enter Tryz.func195,Tryz.ntmps195
  go_wp2
  exact HB.out _ (by decide) (Below.refl _ _)
theorem ztl{x:ByteArray}{k:Int}(h:npE x.data.toList k=0):OkA 0 (npP x k)∧(npP x k).ws=[]∧(npP x k).best=noV∧(npP x k).what=x:=by
 rw[npP,if_neg (by omega)]
 unfold npE at h
 by_cases h1:isAg x.data.toList=false
 ·rw[if_pos h1] at h;omega
 ·rw[if_neg h1] at h
  have h1':isAg x.data.toList=true:=by simpa using h1
  refine⟨⟨⟨h1',?_,?_,⟨fun y hy=>absurd hy (by simp),zhN,by simp⟩,.inl ⟨rfl,rfl⟩⟩,by show _≤(0:Int);omega,by show (0:Int)≤_;omega⟩,rfl,rfl,rfl⟩
  ·intro hc
   have hc':¬x.data.toList=zaN:=hc
   rw[if_neg hc'] at h
   by_cases h2:¬(k=1∨k=2∨k=3)
   ·rw[if_pos h2] at h;omega
   ·show (if x.data.toList=zaN then 0 else k)=1∨_
    rw[if_neg hc']
    exact Decidable.not_not.1 h2
  ·intro hs
   have hs':x.data.toList=wSum:=hs
   have hc':¬x.data.toList=zaN:=by rw[hs'];decide
   rw[if_neg hc'] at h
   by_cases h2:¬(k=1∨k=2∨k=3)
   ·rw[if_pos h2] at h;omega
   ·rw[if_neg h2] at h
    by_cases h3:x.data.toList=wSum∧k≠1
    ·rw[if_pos h3] at h;omega
    ·show (if x.data.toList=zaN then 0 else k)=1
     rw[if_neg hc']
     exact Decidable.not_not.1 fun hk=>h3 ⟨hs',hk⟩
theorem zoY{xs:List ByteArray}{ts:List Int}(h:nwE xs ts=0):ts.length=xs.length∧xs.length≤6∧∀i (h1:i<xs.length) (h2:i<ts.length),npE xs[i].data.toList ts[i]=0:=by
 unfold nwE at h
 by_cases h1:ts.length=xs.length
 ·rw[if_neg (fun k=>k h1)] at h
  by_cases h2:6<xs.length
  ·rw[if_pos h2] at h;omega
  ·rw[if_neg h2] at h
   refine⟨h1,by omega,fun i hi1 hi2=>?_⟩
   have hl:i<(nwL xs ts).length:=by simp[nwL];omega
   have:=zcG h _ (List.getElem_mem hl)
   simpa [nwL] using this
 ·rw[if_pos h1] at h;omega
theorem zro{xs:List ByteArray}{ts:List Int}(h:nwE xs ts=0):AccOk 0 (nwP xs ts)∧(∀p∈nwP xs ts,p.ws=[]∧p.best=noV)∧(nwP xs ts).length=xs.length:=by
 obtain⟨h1,h2,h3⟩:=zoY h
 have hl:(nwP xs ts).length=xs.length:=by simp[nwP,h1]
 have key:∀p∈nwP xs ts,OkA 0 p∧p.ws=[]∧p.best=noV:=fun p hp=>by
  obtain⟨i,hi,rfl⟩:=List.getElem_of_mem hp
  have hi1:i<xs.length:=by omega
  have hi2:i<ts.length:=by omega
  have e:(nwP xs ts)[i]=npP xs[i] ts[i]:=by simp[nwP]
  rw[e]
  obtain⟨k1,k2,k3,_⟩:=ztl (h3 i hi1 hi2)
  exact⟨k1,k2,k3⟩
 exact⟨⟨by omega,by omega,by omega,fun p hp=>(key p hp).1⟩,fun p hp=>(key p hp).2,hl⟩
theorem ztj(ap:Option Addr)(ac:Nat)(xs:List ByteArray)(tp:Option Addr)(tc:Nat)(ts:List Int)(w:World)(henv:AEnv w)(ha:AgsW w ap xs)(ht:IntW w tp ts)(hx:xs.length≤maxLen)(htl:ts.length≤maxLen)(hE:nwE xs ts=0) :
  Calls Tryz.prog 195 #[.slice ap xs.length ac,.slice tp ts.length tc] w fun e w'=>∃v,e=.returned (.tuple #[.pointer (some ⟨w.heap.size,0,none⟩),.nilIface])∧Aside (AccAt w' w.heap.size v 0 (nwP xs ts))∧Aside (∀k,accS w.heap.size v k→w.heap.size≤k)∧Aside (Below w.heap.size w w'):=by
 refine zrk ap ac xs tp tc ts w henv ha ht hx htl 0 hE _ (fun W h=>absurd rfl h) (fun W _ hS=>?_)
 obtain⟨v,h1,h2⟩:=hS.acc
 refine⟨v,rfl,zrt h1 h2 (zro hE).2.1,fun k hk=>?_,hS.old⟩
 rcases hk with rfl|hk
 ·exact Nat.le_refl _
 ·have:=(h2.lt k hk).1;omega
def okT(t:Int)(v:V3):Prop:=v.1=t∧chk v.1 v.2.1 v.2.2.data.toList=0
theorem zko{t:Int}{v:V3}(h:okT t v):t=1∨t=2∨t=3:=by
 obtain⟨h1,h2⟩:=h
 rw[h1] at h2
 rcases Decidable.em (t=1∨t=2∨t=3) with h|h
 ·exact h
 ·unfold chk at h2;rw[if_pos (.inl h)] at h2;omega
theorem zff{t:Int}{a b:V3}(ha:okT t a)(hb:okT t b):cmpX a b=if t=3 then cmpS a.2.2.data.toList b.2.2.data.toList else cmpI a.2.1 b.2.1:=by
 have he:cmpE a.1 a.2.1 a.2.2.data.toList b.1 b.2.1 b.2.2.data.toList=0:=by
  rw[cmpE,if_neg (by rw[ha.2];simp),if_neg (by rw[hb.2];simp),if_neg (by rw[ha.1,hb.1];simp)]
 rw[cmpX,cmpN,if_neg (by rw[he];simp),ha.1]
theorem zgi{x y:Int}:cmpI x y<0↔x<y:=by unfold cmpI;split<;>(try split)<;>omega
theorem zgh{x y:Int}:0<cmpI x y↔y<x:=by unfold cmpI;split<;>(try split)<;>omega
theorem zgk{x y:List UInt8}:cmpS x y<0↔x<y:=by
 unfold cmpS
 by_cases h:x<y
 ·simp[h]
 ·rw[if_neg h];split<;>simp[h]
theorem zgj{x y:List UInt8}:0<cmpS x y↔y<x:=by
 unfold cmpS
 by_cases h:x<y
 ·rw[if_pos h]
  have:¬y<x:=fun h2=>List.lt_irrefl _ (List.lt_trans h h2)
  simp[this]
 ·rw[if_neg h];split<;>simp[*]
def ahV(w:List UInt8)(a b:V3):Prop:=if w=zaH then cmpX a b<0 else 0<cmpX a b
theorem zhh{w:List UInt8}{t:Int}{a b c:V3}(ha:okT t a)(hb:okT t b)(hc:okT t c)(h1:ahV w a b)(h2:ahV w b c):ahV w a c:=by
 unfold ahV at *
 rw[zff ha hb] at h1
 rw[zff hb hc] at h2
 rw[zff ha hc]
 by_cases hw:w=zaH
 ·rw[if_pos hw] at *
  by_cases ht:t=3
  ·rw[if_pos ht] at *
   rw[zgk] at *
   exact List.lt_trans h1 h2
  ·rw[if_neg ht] at *
   rw[zgi] at *
   omega
 ·rw[if_neg hw] at *
  by_cases ht:t=3
  ·rw[if_pos ht] at *
   rw[zgj] at *
   exact List.lt_trans h2 h1
  ·rw[if_neg ht] at *
   rw[zgh] at *
   omega
theorem zmS{a b:ByteArray}(h:a.data.toList=b.data.toList):a=b:=by
 cases a;cases b
 simp only[ByteArray.mk.injEq]
 exact Array.toList_inj.1 h
theorem ziS{w:List UInt8}{t:Int}{a b:V3}(ha:okT t a)(hb:okT t b)(h1:¬ahV w a b)(h2:¬ahV w b a):a=b:=by
 have key:(t=3→a.2.2.data.toList=b.2.2.data.toList)∧(t≠3→a.2.1=b.2.1):=by
  unfold ahV at h1 h2
  rw[zff ha hb] at h1
  rw[zff hb ha] at h2
  refine⟨fun ht=>?_,fun ht=>?_⟩
  ·rw[if_pos ht] at h1 h2
   by_cases hw:w=zaH
   ·rw[if_pos hw,zgk] at h1 h2
    exact List.le_antisymm (List.not_lt.1 h2) (List.not_lt.1 h1)
   ·rw[if_neg hw,zgj] at h1 h2
    exact List.le_antisymm (List.not_lt.1 h1) (List.not_lt.1 h2)
  ·rw[if_neg ht] at h1 h2
   by_cases hw:w=zaH
   ·rw[if_pos hw,zgi] at h1 h2;omega
   ·rw[if_neg hw,zgh] at h1 h2;omega
 obtain⟨a1,a2,a3⟩:=a
 obtain⟨b1,b2,b3⟩:=b
 obtain⟨ha1,ha2⟩:=ha
 obtain⟨hb1,hb2⟩:=hb
 simp only at *
 subst ha1 hb1
 by_cases ht:b1=3
 ·subst ht
  rw[(zcD ha2).2,(zcD hb2).2,zmS (key.1 rfl)]
 ·have hn:=key.2 ht
  have hs:a3.data.toList=[]∧b3.data.toList=[]:=by
   rcases zko (t:=b1) (v:=(b1,a2,a3)) ⟨rfl,ha2⟩ with h|h|h
   ·subst h;exact⟨zjj ha2,zjj hb2⟩
   ·subst h;exact⟨(zjl ha2).2,(zjl hb2).2⟩
   ·exact absurd h ht
  rw[hn,zmS (hs.1.trans hs.2.symm)]
def ziK(w:List UInt8)(vs:List V3)(b:V3):Prop:=(vs=[]∧b=noV)∨(b∈vs∧∀v∈vs,¬ahV w v b)
theorem ziK.unique{w:List UInt8}{t:Int}{vs us:List V3}{a b:V3}(hv:∀v∈vs,okT t v)(hm:∀v,v∈vs↔v∈us)(h1:ziK w vs a)(h2:ziK w us b):a=b:=by
 rcases h1 with ⟨e1,r1⟩|⟨m1,k1⟩
 ·rcases h2 with ⟨e2,r2⟩|⟨m2,k2⟩
  ·rw[r1,r2]
  ·have:=(hm b).2 m2;rw[e1] at this;simp at this
 ·rcases h2 with ⟨e2,r2⟩|⟨m2,k2⟩
  ·have:=(hm a).1 m1;rw[e2] at this;simp at this
  ·exact ziS (hv a m1) (hv b ((hm b).2 m2)) (k2 a ((hm a).1 m1)) (k1 b ((hm b).2 m2))
structure Kn(p:Pt)(vs:List V3):Prop where
 sum:p.wh=wSum→sv p.ws=(vs.map (·.2.1)).sum
 best:p.wh=zaH∨p.wh=wMost→ziK p.wh vs p.best
theorem Kn.nil{p:Pt}(h1:p.ws=[])(h2:p.best=noV):Kn p []:=⟨fun _=>by rw[h1];rfl,fun _=>.inl ⟨rfl,h2⟩⟩
theorem ziT{p o:Pt}(h1:p.best.1≠0)(h2:o.best.1≠0):zaS p o=true↔ahV p.wh p.best o.best:=by
 rw[zaS,if_neg (by rintro (h|h);exact h1 h;exact h2 h),ahV]
 split<;>simp
theorem zmR{w:List UInt8}{t:Int}{vs:List V3}{b:V3}(h:ziK w vs b)(hv:∀v∈vs,okT t v):b.1=0↔vs=[]:=by
 rcases h with ⟨e,r⟩|⟨m,_⟩
 ·rw[r];simp[noV,e]
 ·have:=hv b m
  have ht:=zko this
  constructor
  ·intro h0;rw[this.1] at h0;omega
  ·intro h0;rw[h0] at m;simp at m
theorem Kn.join{p o:Pt}{vs us:List V3}(h:Kn p vs)(k:Kn o us)(hw:o.wh=p.wh)(hp:OkPt p)(ho:OkPt o)(hv:p.wh=zaH∨p.wh=wMost→∀v∈vs,okT p.kind v)(hu:p.wh=zaH∨p.wh=wMost→∀v∈us,okT p.kind v):Kn (tkP p o) (vs++us):=by
 have hwh:(tkP p o).wh=p.wh:=by unfold Pt.wh;rw[(zkX p o).1]
 refine⟨fun hs=>?_,fun hb=>?_⟩
 ·rw[hwh] at hs
  rw[tkP,if_pos hs]
  show sv (shW (sumW p.ws o.ws))=_
  obtain⟨s1,s2,s3⟩:=zkR p.ws o.ws hp.ws.1 ho.ws.1
  rw[(zrT _ s2 (by intro e;rw[e] at s3;simp at s3)).1,s1,h.sum hs,k.sum (by rw[hw];exact hs),List.map_append,List.sum_append]
 ·rw[hwh] at hb ⊢
  have hns:p.wh≠wSum:=by rcases hb with hb|hb<;>rw[hb]<;>decide
  have h1:=h.best hb
  have k1:=k.best (by rw[hw];exact hb)
  rw[hw] at k1
  have z1:=zmR h1 (hv hb)
  have z2:=zmR k1 (hu hb)
  rw[tkP,if_neg hns,if_pos hb]
  by_cases e2:us=[]
  ·have:zaS o p=false:=by rw[zaS,if_pos (.inl (z2.2 e2))];simp[z2.2 e2]
   rw[this,if_neg (by simp),e2,List.append_nil]
   exact h1
  ·have n2:o.best.1≠0:=fun h0=>e2 (z2.1 h0)
   have m2:=k1.resolve_left (fun h0=>e2 h0.1)
   by_cases e1:vs=[]
   ·have:zaS o p=true:=by rw[zaS,if_pos (.inr (z1.2 e1))];simpa using n2
    rw[this,if_pos rfl,e1,List.nil_append]
    exact k1
   ·have n1:p.best.1≠0:=fun h0=>e1 (z1.1 h0)
    have m1:=h1.resolve_left (fun h0=>e1 h0.1)
    have hiff:=ziT n2 n1
    rw[hw] at hiff
    by_cases ha:ahV p.wh o.best p.best
    ·rw[hiff.2 ha,if_pos rfl]
     refine .inr ⟨List.mem_append.2 (.inr m2.1),fun v hv'=>?_⟩
     rcases List.mem_append.1 hv' with hv'|hv'
     ·intro hlt
      exact m1.2 v hv' (zhh (hv hb v hv') (hu hb _ m2.1) (hv hb _ m1.1) hlt ha)
     ·exact m2.2 v hv'
    ·have:zaS o p=false:=by
      cases hc:zaS o p
      ·rfl
      ·exact absurd (hiff.1 hc) ha
     rw[this,if_neg (by simp)]
     refine .inr ⟨List.mem_append.2 (.inl m1.1),fun v hv'=>?_⟩
     rcases List.mem_append.1 hv' with hv'|hv'
     ·exact m1.2 v hv'
     ·intro hlt
      by_cases hq:ahV p.wh p.best o.best
      ·exact m2.2 v hv' (zhh (hu hb v hv') (hv hb _ m1.1) (hu hb _ m2.1) hlt hq)
      ·have:=ziS (hu hb _ m2.1) (hv hb _ m1.1) ha hq
       rw[←this] at hlt
       exact m2.2 v hv' hlt
theorem Kn.one{p:Pt}{v:V3}(hb:inB v.2.1):Kn (oneP p v) [v]:=by
 have hwh:(oneP p v).wh=p.wh:=by unfold Pt.wh;rw[(zbO p v).1]
 refine⟨fun hs=>?_,fun hx=>?_⟩
 ·rw[hwh] at hs
  rw[oneP,if_pos hs]
  show sv [v.2.1 % 18446744073709551616]=_
  rw[zsk _ hb];simp
 ·rw[hwh] at hx ⊢
  have hns:p.wh≠wSum:=by rcases hx with hx|hx<;>rw[hx]<;>decide
  rw[oneP,if_neg hns,if_pos hx]
  refine .inr ⟨by simp,fun u hu=>?_⟩
  have:u=v:=by simpa using hu
  subst this
  unfold ahV cmpX cmpN
  split
  ·split
   ·omega
   ·split
    ·rw[zgk];exact List.lt_irrefl _
    ·rw[zgi];exact Int.lt_irrefl _
  ·split
   ·omega
   ·split
    ·rw[zgj];exact List.lt_irrefl _
    ·rw[zgh];exact Int.lt_irrefl _
def colV(i:Nat)(rs:List (List V3)):List V3:=rs.map fun r=>r.getD i noV
theorem zof(i:Nat)(a b:List (List V3)):colV i (a++b)=colV i a++colV i b:=by simp[colV]
theorem zbE.refl(ps:List Pt):zbE ps ps:=⟨rfl,fun i _ _=>⟨rfl,rfl⟩⟩
theorem zbE.symm{ps os:List Pt}(h:zbE ps os):zbE os ps:=⟨h.1.symm,fun i h1 h2=>⟨(h.2 i h2 h1).1.symm,(h.2 i h2 h1).2.symm⟩⟩
theorem zbE.trans{ps os qs:List Pt}(h:zbE ps os)(k:zbE os qs):zbE ps qs :=
 ⟨h.1.trans k.1,fun i h1 h2=>by
  have h3:i<os.length:=by have:=h.1;omega
  exact⟨(h.2 i h1 h3).1.trans (k.2 i h3 h2).1,(h.2 i h1 h3).2.trans (k.2 i h3 h2).2⟩⟩
theorem zjn{p o:Pt}(h1:p.what=o.what)(h2:p.kind=o.kind)(v:V3):ckPt p v=ckPt o v:=by unfold ckPt Pt.wh;rw[h1,h2]
theorem zhU:∀{ps os:List Pt} (vs:List V3),zbE ps os→List.zipWith ckPt ps vs=List.zipWith ckPt os vs
 | [],[],vs,_=>rfl
 | p::ps,[],vs,h=>by have:=h.1;simp at this
 | [],o::os,vs,h=>by have:=h.1;simp at this
 | p::ps,o::os,[],_=>by simp
 | p::ps,o::os,v::vs,h=>by
  have h0:p.what=o.what∧p.kind=o.kind:=h.2 0 (by simp) (by simp)
  rw[List.zipWith_cons_cons,List.zipWith_cons_cons,zjn h0.1 h0.2,zhU vs ⟨by have:=h.1;simpa using this,fun i h1 h2=>h.2 (i+1) (by simpa using h1) (by simpa using h2)⟩]
theorem zdW{ps os:List Pt}(h:zbE ps os)(vs:List V3):adE ps vs=adE os vs:=by
 unfold adE
 rw[zhU vs h,h.1]
theorem ziM{ps:List Pt}{vs:List V3}(h:adE ps vs=0):vs.length=ps.length∧∀i (h1:i<ps.length) (h2:i<vs.length),ckPt ps[i] vs[i]=0:=by
 unfold adE at h
 by_cases hl:vs.length=ps.length
 ·rw[if_neg (fun k=>k hl)] at h
  refine⟨hl,fun i h1 h2=>?_⟩
  have hz:i<(List.zipWith ckPt ps vs).length:=by simp;omega
  rw[←zpM h1 h2 hz]
  exact zcG h _ (List.getElem_mem _)
 ·rw[if_pos hl] at h;omega
theorem zmV{p:Pt}{v:V3}(h:ckPt p v=0)(hx:p.wh=zaH∨p.wh=wMost):okT p.kind v:=by
 unfold ckPt at h
 rw[if_neg (by rcases hx with hx|hx<;>rw[hx]<;>decide)] at h
 by_cases h1:chk v.1 v.2.1 v.2.2.data.toList=0
 ·rw[if_neg (fun k=>k h1)] at h
  by_cases h2:v.1=p.kind
  ·exact⟨h2,h1⟩
  ·rw[if_pos h2] at h;omega
 ·rw[if_pos h1] at h;exact absurd h h1
theorem zeW(ps:List Pt)(vs:List V3):(adP ps vs).length=ps.length:=zbr _ _ _
theorem zpP{ps:List Pt}{vs:List V3}{i:Nat}(h1:i<ps.length)(h2:i<vs.length):(adP ps vs)[i]'(by rw[zeW];exact h1)=tkP ps[i] (oneP ps[i] vs[i]):=by
 unfold adP
 rw[zkW _ _ _ _ h1,if_pos h1,adO h1 h2]
structure Acu(ps0:List Pt)(rs:List (List V3))(ps:List Pt):Prop where
 al:zbE ps ps0
 ok:AccOk (rs.length:Int) ps
 kn:∀i (h:i<ps.length),Kn ps[i] (colV i rs)
 gd:∀r∈rs,adE ps0 r=0
theorem Acu.col{ps0 ps:List Pt}{rs:List (List V3)}(h:Acu ps0 rs ps){i:Nat}(hi:i<ps.length):ps[i].wh=zaH∨ps[i].wh=wMost→∀v∈colV i rs,okT ps[i].kind v:=by
 intro hx v hv
 unfold colV at hv
 obtain⟨r,hr,rfl⟩:=List.mem_map.1 hv
 have hg:=h.gd r hr
 rw[←zdW h.al] at hg
 obtain⟨h1,h2⟩:=ziM hg
 have hi2:i<r.length:=by omega
 rw[List.getD_eq_getElem?_getD,List.getElem?_eq_getElem hi2]
 exact zmV (h2 i hi hi2) hx
theorem Acu.new{xs:List ByteArray}{ts:List Int}(h:nwE xs ts=0):Acu (nwP xs ts) [] (nwP xs ts):=by
 obtain⟨h1,h2,h3⟩:=zro h
 exact⟨zbE.refl _,h1,fun i hi=>Kn.nil (h2 _ (List.getElem_mem hi)).1 (h2 _ (List.getElem_mem hi)).2,fun r hr=>by simp at hr⟩
theorem Acu.add{ps0 ps:List Pt}{rs:List (List V3)}{vs:List V3}(h:Acu ps0 rs ps)(hE:adE ps0 vs=0)(hs:zbt vs)(hl:rs.length+1≤10000):Acu ps0 (rs++[vs]) (adP ps vs):=by
 have hE':=hE
 rw[←zdW h.al] at hE'
 obtain⟨e1,e2⟩:=ziM hE'
 have hlen:((rs++[vs]).length:Int)=(rs.length:Int)+1:=by simp
 have part:∀i (hi:i<(adP ps vs).length),OkA ((rs.length:Int)+1) (adP ps vs)[i]∧Kn (adP ps vs)[i] (colV i (rs++[vs])):=fun i hi=>by
  have h1:i<ps.length:=by rw[zeW] at hi;exact hi
  have h2:i<vs.length:=by omega
  have hp:=h.ok.ok _ (List.getElem_mem h1)
  have ho:=znn hp.ok (e2 i h1 h2) (hs _ (List.getElem_mem h2)).2
  have hw:(oneP ps[i] vs[i]).wh=ps[i].wh:=by unfold Pt.wh;rw[(zbO _ _).1]
  rw[zpP h1 h2]
  refine⟨ztD hp ho (zbO _ _).2 (by omega) (by omega) (by omega),?_⟩
  have hc:colV i (rs++[vs])=colV i rs++[vs[i]]:=by
   rw[zof]
   simp[colV,h2]
  rw[hc]
  exact (h.kn i h1).join (Kn.one (hs _ (List.getElem_mem h2)).2) hw hp.ok ho.ok (h.col h1) (fun hx v hv=>by
   have:v=vs[i]:=by simpa using hv
   rw[this]
   exact zmV (e2 i h1 h2) hx)
 refine⟨⟨by rw[zeW];exact h.al.1,fun i h1 h2=>?_⟩,⟨by rw[zeW];exact h.ok.len,by omega,by omega,fun p hp=>?_⟩,fun i hi=>(part i hi).2,fun r hr=>?_⟩
 ·have hi:i<ps.length:=by rw[zeW] at h1;exact h1
  rw[zpP hi (by omega)]
  have:=zkX ps[i] (oneP ps[i] vs[i])
  exact⟨this.1.trans (h.al.2 i hi h2).1,this.2.trans (h.al.2 i hi h2).2⟩
 ·obtain⟨i,hi,rfl⟩:=List.getElem_of_mem hp
  rw[hlen]
  exact (part i hi).1
 ·rcases List.mem_append.1 hr with hr|hr
  ·exact h.gd r hr
  ·have:r=vs:=by simpa using hr
   rw[this];exact hE
theorem zpi{a b:List Int}(h:a.Perm b):a.sum=b.sum:=by
 induction h with
 | nil=>rfl
 | cons x _ ih=>simp[ih]
 | swap x y l=>simp;omega
 | trans _ _ ih1 ih2=>rw[ih1,ih2]
theorem zrP{p:Pt}{n:Int}(h:p.wh=zaN):resP p n=((1,n,⟨#[]⟩),0):=by rw[resP,if_pos h]
theorem zrQ{p:Pt}{n:Int}(h:p.wh=wSum):resP p n=if -9223372036854775808≤sv p.ws∧sv p.ws≤9223372036854775807 then ((1,sv p.ws,⟨#[]⟩),0) else ((1,0,⟨#[]⟩),9):=by
 rw[resP,if_neg (by rw[h];decide),if_pos h]
theorem zmt{p:Pt}{n:Int}(h:p.wh=zaH∨p.wh=wMost):resP p n=if p.best.1=0 then (noV,5) else (p.best,0):=by
 rw[resP,if_neg (by rcases h with h|h<;>rw[h]<;>decide),if_neg (by rcases h with h|h<;>rw[h]<;>decide)]
theorem Acu.same{ps0 ps os:List Pt}{rs us:List (List V3)}(h:Acu ps0 rs ps)(k:Acu ps0 us os)(hp:rs.Perm us)(n:Int):ps.map (fun p=>resP p n)=os.map (fun p=>resP p n):=by
 have hal:zbE ps os:=h.al.trans k.al.symm
 apply List.ext_getElem
 ·simp;exact hal.1
 ·intro i h1 h2
  have hi1:i<ps.length:=by simpa using h1
  have hi2:i<os.length:=by simpa using h2
  rw[List.getElem_map,List.getElem_map]
  obtain⟨a1,a2⟩:=hal.2 i hi1 hi2
  have hw:os[i].wh=ps[i].wh:=by unfold Pt.wh;rw[a1]
  have hc:(colV i rs).Perm (colV i us):=hp.map _
  have kn1:=h.kn i hi1
  have kn2:=k.kn i hi2
  have hag:=(h.ok.ok _ (List.getElem_mem hi1)).ok.ag
  have hcol:=h.col hi1
  rcases zfu hag with hx|hx|hx|hx
  ·rw[zrP hx,zrP (by rw[hw];exact hx)]
  ·rw[zrQ hx,zrQ (by rw[hw];exact hx),kn1.sum hx,kn2.sum (by rw[hw];exact hx),zpi (hc.map (·.2.1))]
  ·have b2:=kn2.best (.inl (by rw[hw];exact hx))
   rw[hw] at b2
   rw[zmt (.inl hx),zmt (.inl (by rw[hw];exact hx)),(kn1.best (.inl hx)).unique (hcol (.inl hx)) (fun v=>hc.mem_iff) b2]
  ·have b2:=kn2.best (.inr (by rw[hw];exact hx))
   rw[hw] at b2
   rw[zmt (.inr hx),zmt (.inr (by rw[hw];exact hx)),(kn1.best (.inr hx)).unique (hcol (.inr hx)) (fun v=>hc.mem_iff) b2]
def AcAt(W:World)(a:Nat)(v:Value)(ps0:List Pt)(rs:List (List V3)):Prop:=∃ps,AccAt W a v (rs.length:Int) ps∧Acu ps0 rs ps
theorem AcAt.on{W W':World}{a:Nat}{v:Value}{ps0:List Pt}{rs:List (List V3)}(h:AcAt W a v ps0 rs)(hb:Below W.heap.size W W'):AcAt W' a v ps0 rs:=by
 obtain⟨ps,h1,h2⟩:=h
 exact⟨ps,h1.on hb,h2⟩
theorem AcAt.lt{W:World}{a:Nat}{v:Value}{ps0:List Pt}{rs:List (List V3)}(h:AcAt W a v ps0 rs):∀k,accS a v k→k<W.heap.size:=by
 obtain⟨ps,h1,h2⟩:=h
 exact h1.ownlt
def gdR(ps0:List Pt)(rs:List (List V3))(vs:List V3):List (List V3):=if adE ps0 vs=0 then rs++[vs] else rs
theorem add_c(a:Nat)(v:Value)(ps0:List Pt)(rs:List (List V3))(vq:Option Addr)(vc:Nat)(vs:List V3)(W:World)(h:AcAt W a v ps0 rs)(hl:rs.length+1≤10000)(hv:zaf W vq vs)(hsz:zbt vs)(hvl:vs.length≤maxLen)(hvd:vs.length=0∨∀b o,vq=some ⟨b,o,none⟩→¬accS a v b) :
  Calls Tryz.prog 174 #[.pointer (some ⟨a,0,none⟩),.slice vq vs.length vc] W fun e w'=>e=.returned (errV (adE ps0 vs))∧AcAt w' a v ps0 (gdR ps0 rs vs)∧Kp (accS a v) W w':=by
 obtain⟨ps,h1,h2⟩:=h
 have:=zpR a v (rs.length:Int) ps vq vc vs W h1 h2.ok (by omega) hv hsz hvl hvd (adE ps0 vs) (zdW h2.al vs)
 refine this.mono fun e w' hh=>⟨hh.1,?_,hh.2.2.out⟩
 have hA:=hh.2.1.out
 unfold gdR
 by_cases hE:adE ps0 vs=0
 ·rw[if_pos hE] at hA ⊢
  exact⟨_,by simpa using hA,h2.add hE hsz hl⟩
 ·rw[if_neg hE] at hA ⊢
  exact⟨_,hA,h2⟩
theorem new_c(ap:Option Addr)(ac:Nat)(xs:List ByteArray)(tp:Option Addr)(tc:Nat)(ts:List Int)(W:World)(henv:AEnv W)(ha:AgsW W ap xs)(ht:IntW W tp ts)(hx:xs.length≤maxLen)(htl:ts.length≤maxLen)(hE:nwE xs ts=0) :
  Calls Tryz.prog 195 #[.slice ap xs.length ac,.slice tp ts.length tc] W fun e w'=>∃a v,e=.returned (.tuple #[.pointer (some ⟨a,0,none⟩),.nilIface])∧AcAt w' a v (nwP xs ts) []∧(∀k,accS a v k→W.heap.size≤k)∧Below W.heap.size W w' :=
 (ztj ap ac xs tp tc ts W henv ha ht hx htl hE).mono fun e w' hh=>by
  obtain⟨v,e1,e2,e3,e4⟩:=hh
  exact⟨_,v,e1,⟨_,by simpa using e2.out,Acu.new hE⟩,e3.out,e4.out⟩
theorem zmB{ps0 ps os:List Pt}{rs us:List (List V3)}(h:Acu ps0 rs ps)(k:Acu ps0 us os)(hp:rs.Perm us):reE ps (rs.length:Int)=reE os (us.length:Int)∧reV ps (rs.length:Int)=reV os (us.length:Int):=by
 have:=h.same k hp (rs.length:Int)
 have hl:us.length=rs.length:=hp.length_eq.symm
 rw[hl]
 refine⟨?_,?_⟩
 ·unfold reE
  have:=congrArg (List.map Prod.snd) this
  simpa [List.map_map,Function.comp_def] using congrArg fstE this
 ·unfold reV
  have:=congrArg (List.map Prod.fst) this
  simpa [List.map_map,Function.comp_def] using this
end Go.Proofs.YtbdnccnfidjiaaaGreatDoor
