/-
  AgN, AgO, AgQ, Reckon, AgR.
-/
import Derived.Test.YtopghagjmdbglaaGreatDoorGyAl
import Derived.Test.YtopghagjmdbglaaGreatDoorProg
import Derived.RowKit
import Derived.WalkKit
import Derived.Lib.Strings
import Derived.Test.YtopghagjmdbglaaGreatDoorGyAa
namespace Go.Proofs.YtopghagjmdbglaaGreatDoor
open Go.RowKit
set_option linter.unusedVariables false
set_option linter.unusedSimpArgs false
set_option maxHeartbeats 8000000
set_option maxRecDepth 20000
theorem zsD(w:World)(x:Int)(g:Nat)(hg:g=w.heap.size)(hx:0≤x∧x<18446744073709551616):TotA (w.alloc (.cells #[.int .u64 x] 267)) (.slice (some ⟨g,0,none⟩) 1 1) [x]:=by
 subst hg
 refine⟨_,1,rfl,⟨Nat.le_refl _,by simp⟩,(fun hp=>nomatch hp),fun y hy=>(List.mem_singleton.1 hy)▸hx,fun a ha=>?_⟩
 injection ha with ha
 subst ha
 refine⟨w.heap.size,0,rfl,⟨_,heap_alloc_new w _⟩,fun j hj=>?_⟩
 obtain rfl:j=0:=by simp at hj;omega
 rw[World.cell?_alloc_at _ _ _ _ rfl];rfl
theorem zdl:(Tryz.prog.info? 27).map (·.size)=some 3:=by kernel_rfl
theorem zbv:(Tryz.prog.info? 298).map (·.size)=some 6:=by kernel_rfl
theorem zpS(t n:Int)(s:ByteArray):(#[Value.int .i64 t,.int .i64 n,.string s]).all (·.oneCell')=true:=by simp[Value.oneCell']
theorem zpB(x:ByteArray)(k:Int)(q:Option Addr)(m c:Nat)(t n:Int)(s:ByteArray):(#[Value.string x,.int .i64 k,.slice q m c,.int .i64 t,.int .i64 n,.string s]).all (·.oneCell')=true:=by simp[Value.oneCell']
theorem al2(w:World)(o1 o2:Obj):Below w.heap.size w ((w.alloc o1).alloc o2):=((Below.refl _ w).alloc (Nat.le_refl _) _).alloc (by simp) _
theorem al3(w:World)(o1 o2 o3:Obj):Below w.heap.size w (((w.alloc o1).alloc o2).alloc o3):=(al2 w o1 o2).alloc (by simp;omega) _
theorem zmG(b off:Nat)(x:ByteArray)(k t n:Int)(s:ByteArray)(w:World)(h0:w.cell? ⟨b,off,none⟩=some (.string x))(h1:w.cell? ⟨b,off+1,none⟩=some (.int .i64 k))(hl:b<w.heap.size)(hx:x.data.toList=wSum) :
  Calls Tryz.prog 208 #[.pointer (some ⟨b,off,none⟩),.agg #[.int .i64 t,.int .i64 n,.string s]] w fun e w'=>(∃g,e=.returned (.agg #[.string x,.int .i64 k,.slice (some ⟨g,0,none⟩) 1 1,.int .i64 0,.int .i64 0,.string ⟨#[]⟩])∧Aside (TotA w' (.slice (some ⟨g,0,none⟩) 1 1) [n % 18446744073709551616]))∧Below w.heap.size w w':=by
 have hq:=zcS hx
 simp only[wSum] at hq
 have hwr:IntKind.u64.wrap n=n % 18446744073709551616:=by rw[IntKind.wrap_u64]
 clear hx
 have hc0:∀o1 o2 o3:Obj,(((w.alloc o1).alloc o2).alloc o3).cell? ⟨b,off,none⟩=some (.string x):=fun o1 o2 o3=>by rw[(al3 w o1 o2 o3).cell (p:=⟨b,off,none⟩) hl];exact h0
 have hc1:∀o1 o2 o3:Obj,(((w.alloc o1).alloc o2).alloc o3).cell? ⟨b,off+1,none⟩=some (.int .i64 k):=fun o1 o2 o3=>by rw[(al3 w o1 o2 o3).cell (p:=⟨b,off+1,none⟩) hl];exact h1
 have hd0:∀o1 o2:Obj,((w.alloc o1).alloc o2).cell? ⟨b,off,none⟩=some (.string x):=fun o1 o2=>by rw[(al2 w o1 o2).cell (p:=⟨b,off,none⟩) hl];exact h0
 have hd1:∀o1 o2:Obj,((w.alloc o1).alloc o2).cell? ⟨b,off+1,none⟩=some (.int .i64 k):=fun o1 o2=>by rw[(al2 w o1 o2).cell (p:=⟨b,off+1,none⟩) hl];exact h1
 go_enter Tryz.func208,Tryz.ntmps208
 go_wp2
 go_region
 all_goals
  go_wp2
  refine bodyPost_ret (v:=.agg #[.string x,.int .i64 k,.slice (some ⟨w.heap.size+1+1+1,0,none⟩) 1 1,.int .i64 0,.int .i64 0,.string ⟨#[]⟩]) (by simp[results,Tryz.results208,go_sem]) rfl ⟨⟨_,rfl,?_⟩,?_⟩
  ·exact (show Aside _ from (zsD _ _ _ (by simp) (by omega)).on (Below.drew (Below.refl _ _)))
  ·exact Below.drew ((al3 w _ _ _).alloc (by simp;omega) _)
theorem zfY(b off:Nat)(x:ByteArray)(k t n:Int)(s:ByteArray)(w:World)(h0:w.cell? ⟨b,off,none⟩=some (.string x))(h1:w.cell? ⟨b,off+1,none⟩=some (.int .i64 k))(hl:b<w.heap.size)(hs:s.size≤281474976710656)(hx:x.data.toList=zaK∨x.data.toList=wMost) :
  Calls Tryz.prog 208 #[.pointer (some ⟨b,off,none⟩),.agg #[.int .i64 t,.int .i64 n,.string s]] w fun e w'=>e=.returned (.agg #[.string x,.int .i64 k,.slice none 0 0,.int .i64 t,.int .i64 n,.string s])∧Below w.heap.size w w':=by
 have hq0:(x.toList == [115,117,109])=false:=zbF (by rcases hx with h|h<;>rw[h]<;>decide)
 have cF:=fun W=>zbW t n s W hs
 have hc0:∀o1 o2 o3:Obj,(((w.alloc o1).alloc o2).alloc o3).cell? ⟨b,off,none⟩=some (.string x):=fun o1 o2 o3=>by rw[(al3 w o1 o2 o3).cell (p:=⟨b,off,none⟩) hl];exact h0
 have hc1:∀o1 o2 o3:Obj,(((w.alloc o1).alloc o2).alloc o3).cell? ⟨b,off+1,none⟩=some (.int .i64 k):=fun o1 o2 o3=>by rw[(al3 w o1 o2 o3).cell (p:=⟨b,off+1,none⟩) hl];exact h1
 have hd0:∀o1 o2:Obj,((w.alloc o1).alloc o2).cell? ⟨b,off,none⟩=some (.string x):=fun o1 o2=>by rw[(al2 w o1 o2).cell (p:=⟨b,off,none⟩) hl];exact h0
 have hd1:∀o1 o2:Obj,((w.alloc o1).alloc o2).cell? ⟨b,off+1,none⟩=some (.int .i64 k):=fun o1 o2=>by rw[(al2 w o1 o2).cell (p:=⟨b,off+1,none⟩) hl];exact h1
 rcases hx with hx|hx
 ·have hq:=zcS hx
  simp only[zaK] at hq
  clear hx
  go_enter Tryz.func208,Tryz.ntmps208
  go_wp2
  go_region
  all_goals
   go_wp2_with fail
   refine (cF _).mono ?_
   rintro e w1 ⟨rfl,B1⟩
   have P1:Blk w1 (w.heap.size+1) #[.string ⟨#[]⟩,.int .i64 0,.slice none 0 0,.int .i64 0,.int .i64 0,.string ⟨#[]⟩] 298:=by
    refine Blk.on (w:=World.drew _) ?_ B1
    have:=zac (w.alloc (.cells #[.int .i64 t,.int .i64 n,.string s] 27)) #[.string ⟨#[]⟩,.int .i64 0,.slice none 0 0,.int .i64 0,.int .i64 0,.string ⟨#[]⟩] 298
    have:=this.on (alB _ (.cells #[.string x,.int .i64 k,.slice none 0 0,.int .i64 0,.int .i64 0,.string ⟨#[]⟩] 298))
    exact Blk.drew (by simpa using this)
   have P2:Blk w1 (w.heap.size+1+1) #[.string x,.int .i64 k,.slice none 0 0,.int .i64 0,.int .i64 0,.string ⟨#[]⟩] 298:=by
    refine Blk.on (w:=World.drew _) ?_ B1
    have:=zac ((w.alloc (.cells #[.int .i64 t,.int .i64 n,.string s] 27)).alloc (.cells #[.string ⟨#[]⟩,.int .i64 0,.slice none 0 0,.int .i64 0,.int .i64 0,.string ⟨#[]⟩] 298)) #[.string x,.int .i64 k,.slice none 0 0,.int .i64 0,.int .i64 0,.string ⟨#[]⟩] 298
    exact Blk.drew (by simpa using this)
   have B2:Below w.heap.size w w1:=(Below.drew (al3 w _ _ _)).trans (B1.mono (by simp;omega))
   clear B1 cF hc0 hc1 hd0 hd1
   have hst1:∀{ops:Array Oper} {rest:List Oper} {op:Oper} {a:Act} {Q:Exit→Act→World→Prop} (hgd:op.guard=none) (x' y:Operand) (ho:op.op=.store 27 x' y) (hx:a.eval x'=.pointer (some ⟨w.heap.size+1+1,3,none⟩)) (hy:a.eval y=.agg #[.int .i64 t,.int .i64 n,.string s]),(∀W2,Blk W2 (w.heap.size+1+1) #[.string x,.int .i64 k,.slice none 0 0,.int .i64 t,.int .i64 n,.string s] 298→Blk W2 (w.heap.size+1) #[.string ⟨#[]⟩,.int .i64 0,.slice none 0 0,.int .i64 0,.int .i64 0,.string ⟨#[]⟩] 298→Below w.heap.size w W2→wpList Tryz.prog ops Q rest (a.put op.dst undef) W2)→wpList Tryz.prog ops Q (op::rest) a w1:=fun hgd x' y ho hx hy h =>
    zaj hgd 27 x' y ho (w.heap.size+1+1) 3 _ hx hy _ _ P2 (by simp) zdl (zpS _ _ _) fun W2 P3 K3=>h W2 (by simpa only[putA,List.setIfInBounds_toArray,List.set_cons_zero,List.set_cons_succ,Nat.reduceAdd] using P3) (P1.but K3 (by omega)) (B2.trans (K3.below.mono (by omega)))
   clear P1 P2 B2
   go_wp2_with (first
    | (refine hst1 rfl _ _ rfl rfl rfl ?_;intro W2 P3 P4 B3;clear hst1)
    | (refine zal rfl 298 _ rfl (w.heap.size+1+1) 0 rfl _ _ P3 [.string x,.int .i64 k,.slice none 0 0,.int .i64 t,.int .i64 n,.string s] (fun j v hv=>by simpa using hv) _ Tryz.underlying298 rfl zbv ?_)
    | (refine zaj rfl 298 _ _ rfl (w.heap.size+1) 0 #[.string x,.int .i64 k,.slice none 0 0,.int .i64 t,.int .i64 n,.string s] rfl rfl _ _ P4 (by simp) zbv (zpB _ _ _ _ _ _ _ _) ?_;intro W3 P5 K5))
   have B4:Below w.heap.size w W3:=B3.trans (K5.below.mono (by omega))
   have P6:Blk W3 (w.heap.size+1) #[.string x,.int .i64 k,.slice none 0 0,.int .i64 t,.int .i64 n,.string s] 298:=by simpa only[putA,List.setIfInBounds_toArray,List.set_cons_zero,List.set_cons_succ,Nat.reduceAdd] using P5
   have c0:=P6.cell 0
   have c1:=P6.cell 1
   have c2:=P6.cell 2
   have c3:=P6.cell 3
   have c4:=P6.cell 4
   have c5:=P6.cell 5
   simp at c0 c1 c2 c3 c4 c5
   exact bodyPost_ret (v:=.agg #[.string x,.int .i64 k,.slice none 0 0,.int .i64 t,.int .i64 n,.string s]) (by simp[results,Tryz.results208,go_sem,c0,c1,c2,c3,c4,c5]) rfl ⟨rfl,B4⟩
 ·have hq:=zcS hx
  have hq1:(x.toList == [108,101,97,115,116])=false:=zbF (by rw[hx];decide)
  simp only[wMost] at hq
  clear hx
  go_enter Tryz.func208,Tryz.ntmps208
  go_wp2
  go_region
  all_goals
   go_wp2_with fail
   refine (cF _).mono ?_
   rintro e w1 ⟨rfl,B1⟩
   have P1:Blk w1 (w.heap.size+1) #[.string ⟨#[]⟩,.int .i64 0,.slice none 0 0,.int .i64 0,.int .i64 0,.string ⟨#[]⟩] 298:=by
    refine Blk.on (w:=World.drew _) ?_ B1
    have:=zac (w.alloc (.cells #[.int .i64 t,.int .i64 n,.string s] 27)) #[.string ⟨#[]⟩,.int .i64 0,.slice none 0 0,.int .i64 0,.int .i64 0,.string ⟨#[]⟩] 298
    have:=this.on (alB _ (.cells #[.string x,.int .i64 k,.slice none 0 0,.int .i64 0,.int .i64 0,.string ⟨#[]⟩] 298))
    exact Blk.drew (by simpa using this)
   have P2:Blk w1 (w.heap.size+1+1) #[.string x,.int .i64 k,.slice none 0 0,.int .i64 0,.int .i64 0,.string ⟨#[]⟩] 298:=by
    refine Blk.on (w:=World.drew _) ?_ B1
    have:=zac ((w.alloc (.cells #[.int .i64 t,.int .i64 n,.string s] 27)).alloc (.cells #[.string ⟨#[]⟩,.int .i64 0,.slice none 0 0,.int .i64 0,.int .i64 0,.string ⟨#[]⟩] 298)) #[.string x,.int .i64 k,.slice none 0 0,.int .i64 0,.int .i64 0,.string ⟨#[]⟩] 298
    exact Blk.drew (by simpa using this)
   have B2:Below w.heap.size w w1:=(Below.drew (al3 w _ _ _)).trans (B1.mono (by simp;omega))
   clear B1 cF hc0 hc1 hd0 hd1
   have hst1:∀{ops:Array Oper} {rest:List Oper} {op:Oper} {a:Act} {Q:Exit→Act→World→Prop} (hgd:op.guard=none) (x' y:Operand) (ho:op.op=.store 27 x' y) (hx:a.eval x'=.pointer (some ⟨w.heap.size+1+1,3,none⟩)) (hy:a.eval y=.agg #[.int .i64 t,.int .i64 n,.string s]),(∀W2,Blk W2 (w.heap.size+1+1) #[.string x,.int .i64 k,.slice none 0 0,.int .i64 t,.int .i64 n,.string s] 298→Blk W2 (w.heap.size+1) #[.string ⟨#[]⟩,.int .i64 0,.slice none 0 0,.int .i64 0,.int .i64 0,.string ⟨#[]⟩] 298→Below w.heap.size w W2→wpList Tryz.prog ops Q rest (a.put op.dst undef) W2)→wpList Tryz.prog ops Q (op::rest) a w1:=fun hgd x' y ho hx hy h =>
    zaj hgd 27 x' y ho (w.heap.size+1+1) 3 _ hx hy _ _ P2 (by simp) zdl (zpS _ _ _) fun W2 P3 K3=>h W2 (by simpa only[putA,List.setIfInBounds_toArray,List.set_cons_zero,List.set_cons_succ,Nat.reduceAdd] using P3) (P1.but K3 (by omega)) (B2.trans (K3.below.mono (by omega)))
   clear P1 P2 B2
   go_wp2_with (first
    | (refine hst1 rfl _ _ rfl rfl rfl ?_;intro W2 P3 P4 B3;clear hst1)
    | (refine zal rfl 298 _ rfl (w.heap.size+1+1) 0 rfl _ _ P3 [.string x,.int .i64 k,.slice none 0 0,.int .i64 t,.int .i64 n,.string s] (fun j v hv=>by simpa using hv) _ Tryz.underlying298 rfl zbv ?_)
    | (refine zaj rfl 298 _ _ rfl (w.heap.size+1) 0 #[.string x,.int .i64 k,.slice none 0 0,.int .i64 t,.int .i64 n,.string s] rfl rfl _ _ P4 (by simp) zbv (zpB _ _ _ _ _ _ _ _) ?_;intro W3 P5 K5))
   have B4:Below w.heap.size w W3:=B3.trans (K5.below.mono (by omega))
   have P6:Blk W3 (w.heap.size+1) #[.string x,.int .i64 k,.slice none 0 0,.int .i64 t,.int .i64 n,.string s] 298:=by simpa only[putA,List.setIfInBounds_toArray,List.set_cons_zero,List.set_cons_succ,Nat.reduceAdd] using P5
   have c0:=P6.cell 0
   have c1:=P6.cell 1
   have c2:=P6.cell 2
   have c3:=P6.cell 3
   have c4:=P6.cell 4
   have c5:=P6.cell 5
   simp at c0 c1 c2 c3 c4 c5
   exact bodyPost_ret (v:=.agg #[.string x,.int .i64 k,.slice none 0 0,.int .i64 t,.int .i64 n,.string s]) (by simp[results,Tryz.results208,go_sem,c0,c1,c2,c3,c4,c5]) rfl ⟨rfl,B4⟩
theorem ziU(b off:Nat)(x:ByteArray)(k t n:Int)(s:ByteArray)(w:World)(h0:w.cell? ⟨b,off,none⟩=some (.string x))(h1:w.cell? ⟨b,off+1,none⟩=some (.int .i64 k))(hl:b<w.heap.size)(hx:x.data.toList=zaQ) :
  Calls Tryz.prog 208 #[.pointer (some ⟨b,off,none⟩),.agg #[.int .i64 t,.int .i64 n,.string s]] w fun e w'=>e=.returned (.agg #[.string x,.int .i64 k,.slice none 0 0,.int .i64 0,.int .i64 0,.string ⟨#[]⟩])∧Below w.heap.size w w':=by
 have hq0:(x.toList == [115,117,109])=false:=zbF (by rw[hx];decide)
 have hq1:(x.toList == [108,101,97,115,116])=false:=zbF (by rw[hx];decide)
 have hq2:(x.toList == [109,111,115,116])=false:=zbF (by rw[hx];decide)
 have hc0:∀o1 o2 o3:Obj,(((w.alloc o1).alloc o2).alloc o3).cell? ⟨b,off,none⟩=some (.string x):=fun o1 o2 o3=>by rw[(al3 w o1 o2 o3).cell (p:=⟨b,off,none⟩) hl];exact h0
 have hc1:∀o1 o2 o3:Obj,(((w.alloc o1).alloc o2).alloc o3).cell? ⟨b,off+1,none⟩=some (.int .i64 k):=fun o1 o2 o3=>by rw[(al3 w o1 o2 o3).cell (p:=⟨b,off+1,none⟩) hl];exact h1
 have hd0:∀o1 o2:Obj,((w.alloc o1).alloc o2).cell? ⟨b,off,none⟩=some (.string x):=fun o1 o2=>by rw[(al2 w o1 o2).cell (p:=⟨b,off,none⟩) hl];exact h0
 have hd1:∀o1 o2:Obj,((w.alloc o1).alloc o2).cell? ⟨b,off+1,none⟩=some (.int .i64 k):=fun o1 o2=>by rw[(al2 w o1 o2).cell (p:=⟨b,off+1,none⟩) hl];exact h1
 clear hx
 go_enter Tryz.func208,Tryz.ntmps208
 go_wp2
 go_region
 all_goals
  go_wp2
  refine bodyPost_ret (v:=.agg #[.string x,.int .i64 k,.slice none 0 0,.int .i64 0,.int .i64 0,.string ⟨#[]⟩]) (by simp[results,Tryz.results208,go_sem]) rfl ⟨rfl,?_⟩
  exact Below.drew (al3 w _ _ _)
theorem zny(b off:Nat)(p:Pt)(v:V3)(w:World)(h0:w.cell? ⟨b,off,none⟩=some (.string p.what))(h1:w.cell? ⟨b,off+1,none⟩=some (.int .i64 p.kind))(hl:b<w.heap.size)(hag:isAg p.wh=true)(hs:p.wh=zaK∨p.wh=wMost→v.2.2.size≤281474976710656) :
  Calls Tryz.prog 208 #[.pointer (some ⟨b,off,none⟩),.agg #[.int .i64 v.1,.int .i64 v.2.1,.string v.2.2]] w fun e w'=>(∃q c,e=.returned (partW (oneP p v) q c)∧Aside (TotA w' (.slice q (oneP p v).ws.length c) (oneP p v).ws))∧Below w.heap.size w w':=by
 rcases zgq hag with h|h|h|h
 ·have hp:oneP p v=⟨p.what,p.kind,[],noV⟩:=by rw[oneP,if_neg (by rw[h];decide),if_neg (by rw[h];decide)]
  rw[hp]
  exact (ziU b off p.what p.kind v.1 v.2.1 v.2.2 w h0 h1 hl h).mono fun e w' hh=>⟨⟨none,0,hh.1,TotA.nil _⟩,hh.2⟩
 ·have hp:oneP p v=⟨p.what,p.kind,[v.2.1 % 18446744073709551616],noV⟩:=by rw[oneP,if_pos h]
  rw[hp]
  exact (zmG b off p.what p.kind v.1 v.2.1 v.2.2 w h0 h1 hl h).mono fun e w' hh=>by
   obtain⟨⟨g,e1,e2⟩,e3⟩:=hh
   exact⟨⟨some ⟨g,0,none⟩,1,e1,e2⟩,e3⟩
 ·have hp:oneP p v=⟨p.what,p.kind,[],v⟩:=by rw[oneP,if_neg (by rw[h];decide),if_pos (.inl h)]
  rw[hp]
  exact (zfY b off p.what p.kind v.1 v.2.1 v.2.2 w h0 h1 hl (hs (.inl h)) (.inl h)).mono fun e w' hh=>⟨⟨none,0,hh.1,TotA.nil _⟩,hh.2⟩
 ·have hp:oneP p v=⟨p.what,p.kind,[],v⟩:=by rw[oneP,if_neg (by rw[h];decide),if_pos (.inr h)]
  rw[hp]
  exact (zfY b off p.what p.kind v.1 v.2.1 v.2.2 w h0 h1 hl (hs (.inr h)) (.inr h)).mono fun e w' hh=>⟨⟨none,0,hh.1,TotA.nil _⟩,hh.2⟩
theorem zhj(b off:Nat)(p:Pt)(q:Option Addr)(c:Nat)(rows:Int)(w:World)(hp:zbG w b off p q c)(hk:OkPt p)(T K:Int)(S:ByteArray)(E:Int)(hR:resP p rows=((T,K,S),E)) :
  Calls Tryz.prog 229 #[.pointer (some ⟨b,off,none⟩),.int .i64 rows] w fun e w'=>e=.returned (.tuple #[.agg #[.int .i64 T,.int .i64 K,.string S],errV E])∧Below w.heap.size w w':=by
 have h0:=hp.c0
 have hl:=hp.lt
 have B1:Below w.heap.size w (w.alloc (.cells #[.int .i64 0,.int .i64 0,.string ⟨#[]⟩] 27)):=alB _ _
 have hd0:∀o1:Obj,(w.alloc o1).cell? ⟨b,off,none⟩=some (.string p.what):=fun o1=>by rw[(alB w o1).cell (p:=⟨b,off,none⟩) hl];exact h0
 rcases zgq hk.ag with h|h|h|h
 ·rw[resP,if_pos h] at hR
  simp only[Prod.mk.injEq] at hR
  obtain⟨⟨rfl,rfl,rfl⟩,rfl⟩:=hR
  have hq:=zcS h
  simp only[zaQ] at hq
  rw[show errV 0=.nilIface from rfl]
  clear hk hp h h0
  generalize p.what=x at *
  go_enter Tryz.func229,Tryz.ntmps229
  go_wp2
  exact bodyPost_ret (v:=.tuple #[.agg #[.int .i64 1,.int .i64 rows,.string ⟨#[]⟩],.nilIface]) (by simp[results,Tryz.results229,go_sem]) rfl ⟨rfl,alB _ _⟩
 ·rw[resP,if_neg (by rw[h];decide),if_pos h] at hR
  have hq0:(p.what.toList == [99,111,117,110,116])=false:=zbF (show p.what.data.toList≠_ by rw[show p.what.data.toList=_ from h];decide)
  have hq:=zcS h
  simp only[wSum] at hq
  have hd2:∀o1:Obj,(w.alloc o1).cell? ⟨b,off+2,none⟩=some (.slice q p.ws.length c):=fun o1=>by rw[(alB w o1).cell (p:=⟨b,off+2,none⟩) hl];exact hp.c2
  by_cases hin:-9223372036854775808≤sv p.ws∧sv p.ws≤9223372036854775807
  ·rw[if_pos hin] at hR
   simp only[Prod.mk.injEq] at hR
   obtain⟨⟨rfl,rfl,rfl⟩,rfl⟩:=hR
   have cN:=fun o1=>zgG (.slice q p.ws.length c) p.ws (w.alloc o1) (hp.tot.on (alB w o1)) hk.ws.2.1 (sv p.ws) 0 (if_pos hin)
   rw[show errV 0=.nilIface from rfl] at cN ⊢
   clear hk hp h h0 hin
   generalize p.what=x at *
   generalize p.ws.length=L at *
   generalize sv p.ws=T at *
   go_enter Tryz.func229,Tryz.ntmps229
   go_wp2_with fail
   refine (cN _).mono ?_
   rintro e w1 ⟨rfl,rfl⟩
   clear cN
   go_wp2
   exact bodyPost_ret (v:=.tuple #[.agg #[.int .i64 1,.int .i64 T,.string ⟨#[]⟩],.nilIface]) (by simp[results,Tryz.results229,go_sem]) rfl ⟨rfl,alB _ _⟩
  ·rw[if_neg hin] at hR
   simp only[Prod.mk.injEq] at hR
   obtain⟨⟨rfl,rfl,rfl⟩,rfl⟩:=hR
   have cN:=fun o1=>zgG (.slice q p.ws.length c) p.ws (w.alloc o1) (hp.tot.on (alB w o1)) hk.ws.2.1 0 9 (if_neg hin)
   rw[show errV 9=.iface 35 (.int .i64 9) from rfl] at cN ⊢
   clear hk hp h h0 hin
   generalize p.what=x at *
   generalize p.ws.length=L at *
   go_enter Tryz.func229,Tryz.ntmps229
   go_wp2_with fail
   refine (cN _).mono ?_
   rintro e w1 ⟨rfl,rfl⟩
   clear cN
   go_wp2
   exact bodyPost_ret (v:=.tuple #[.agg #[.int .i64 1,.int .i64 0,.string ⟨#[]⟩],.iface 35 (.int .i64 9)]) (by simp[results,Tryz.results229,go_sem]) rfl ⟨rfl,alB _ _⟩
 all_goals
  rw[resP,if_neg (by rw[h];decide),if_neg (by rw[h];decide)] at hR
  have hq0:(p.what.toList == [99,111,117,110,116])=false:=zbF (show p.what.data.toList≠_ by rw[show p.what.data.toList=_ from h];decide)
  have hq1:(p.what.toList == [115,117,109])=false:=zbF (show p.what.data.toList≠_ by rw[show p.what.data.toList=_ from h];decide)
  have cE:=fun o1:Obj=>zcI b off p.best.1 (w.alloc o1) (by rw[(alB w o1).cell (p:=⟨b,off+3,none⟩) hl];exact hp.c3)
  by_cases h1:p.best.1=0
  ·rw[if_pos h1] at hR
   simp only[noV,Prod.mk.injEq] at hR
   obtain⟨⟨rfl,rfl,rfl⟩,rfl⟩:=hR
   rw[h1,show ((0:Int) == 0)=true from rfl] at cE
   rw[show errV 5=.iface 35 (.int .i64 5) from rfl]
   clear hk hp h h0 h1
   generalize p.what=x at *
   go_enter Tryz.func229,Tryz.ntmps229
   go_wp2_with fail
   refine (cE _).mono ?_
   rintro e w1 ⟨rfl,rfl⟩
   clear cE
   go_wp2
   exact bodyPost_ret (v:=.tuple #[.agg #[.int .i64 0,.int .i64 0,.string ⟨#[]⟩],.iface 35 (.int .i64 5)]) (by simp[results,Tryz.results229,go_sem]) rfl ⟨rfl,alB _ _⟩
  ·rw[if_neg h1] at hR
   have hsz:=zdP (hk.best.resolve_left (fun h=>h1 h.1)).2.1
   have hb1:(p.best.1 == 0)=false:=by simpa using h1
   rw[hb1] at cE
   obtain⟨e1,rfl⟩:=Prod.mk.inj hR
   have d3:∀o1:Obj,(w.alloc o1).cell? ⟨b,off+3,none⟩=some (.int .i64 T):=fun o1=>by rw[(alB w o1).cell (p:=⟨b,off+3,none⟩) hl,hp.c3,e1]
   have d4:∀o1:Obj,(w.alloc o1).cell? ⟨b,off+4,none⟩=some (.int .i64 K):=fun o1=>by rw[(alB w o1).cell (p:=⟨b,off+4,none⟩) hl,hp.c4,e1]
   have d5:∀o1:Obj,(w.alloc o1).cell? ⟨b,off+5,none⟩=some (.string S):=fun o1=>by rw[(alB w o1).cell (p:=⟨b,off+5,none⟩) hl,hp.c5,e1]
   rw[e1] at hsz
   simp at hsz
   have cF:=fun W=>zbW T K S W (by omega)
   rw[show errV 0=.nilIface from rfl]
   clear hk hp h h0 h1 hR e1 hb1
   generalize p.what=x at *
   go_enter Tryz.func229,Tryz.ntmps229
   go_wp2_with fail
   refine (cE _).mono ?_
   rintro e w1 ⟨rfl,rfl⟩
   clear cE
   go_wp2_with fail
   refine (cF _).mono ?_
   rintro e w1 ⟨rfl,B2⟩
   clear cF
   obtain⟨k1,k2,k3⟩:=zhh w _ _ B2 (by simp)
   have f0:=k1 0
   have f1:=k1 1
   have f2:=k1 2
   simp at f0 f1 f2
   have B3:Below w.heap.size w w1:=B1.trans (B2.mono B1.size)
   clear B2 k1
   go_wp2
   refine bodyPost_ret (v:=.tuple #[.agg #[.int .i64 T,.int .i64 K,.string S],.nilIface]) (by simp[results,Tryz.results229,go_sem,World.cell?_setCell_other,World.cell?_setCell_same,f0,f1,f2]) rfl ⟨rfl,?_⟩
   exact ((B3.setCell (p:=⟨w.heap.size,0,none⟩) (Nat.le_refl _) _).setCell (p:=⟨w.heap.size,1,none⟩) (Nat.le_refl _) _).setCell (p:=⟨w.heap.size,2,none⟩) (Nat.le_refl _) _
theorem zjc(x:ByteArray)(k:Int)(w:World)(henv:AEnv w)(p:Pt)(hp:npP x k=p)(E:Int)(hE:npE x.data.toList k=E) :
  Calls Tryz.prog 223 #[.string x,.int .i64 k] w fun e w'=>e=.returned (.tuple #[.agg #[.string p.what,.int .i64 p.kind,.slice none 0 0,.int .i64 0,.int .i64 0,.string ⟨#[]⟩],errV E])∧Below w.heap.size w w':=by
 have cA:=fun o1:Obj=>zeY x (w.alloc o1) (henv.on (alB w o1))
 have B1:=alB w (.cells #[.string ⟨#[]⟩,.int .i64 0,.slice none 0 0,.int .i64 0,.int .i64 0,.string ⟨#[]⟩] 298)
 rw[npP,hE] at hp
 have hbad:∀j:Int,E=j→j≠0→p.what=⟨#[]⟩∧p.kind=0:=fun j hj h0=>by rw[if_pos (by omega)] at hp;subst hp;exact⟨rfl,rfl⟩
 have hgood:E=0→p.what=x∧p.kind=if x.data.toList=zaQ then 0 else k:=fun h0=>by rw[if_neg (by omega)] at hp;subst hp;exact⟨rfl,rfl⟩
 clear hp
 unfold npE at hE
 by_cases h1:isAg x.data.toList=false
 ·rw[if_pos h1] at hE
  subst hE
  rw[h1] at cA
  obtain⟨e1,e2⟩:=hbad 2 rfl (by decide)
  rw[e1,e2,show errV 2=.iface 35 (.int .i64 2) from rfl]
  clear hbad hgood h1 henv e1 e2
  go_enter Tryz.func223,Tryz.ntmps223
  go_wp2_with fail
  refine (cA _).mono ?_
  rintro e w1 ⟨rfl,rfl⟩
  clear cA
  go_wp2
  exact bodyPost_ret (v:=.tuple #[.agg #[.string ⟨#[]⟩,.int .i64 0,.slice none 0 0,.int .i64 0,.int .i64 0,.string ⟨#[]⟩],.iface 35 (.int .i64 2)]) (by simp[results,Tryz.results223,go_sem]) rfl ⟨rfl,B1⟩
 ·rw[if_neg h1] at hE
  have h1':isAg x.data.toList=true:=by simpa using h1
  rw[h1'] at cA
  have hxs:x.size≤40:=by
   have:x.data.toList.length=x.size:=by simp
   rcases zgq h1' with h|h|h|h<;>rw[h] at this<;>simp[zaQ,wSum,zaK,wMost] at this<;>omega
  clear h1
  by_cases h2:x.data.toList=zaQ
  ·rw[if_pos h2] at hE
   subst hE
   obtain⟨e1,e2⟩:=hgood rfl
   rw[if_pos h2] at e2
   have hq:=zcS h2
   simp only[zaQ] at hq
   have hxe:x=⟨#[99,111,117,110,116]⟩:=by
    have:x.data=#[99,111,117,110,116]:=Array.toList_inj.1 h2
    cases x;simp_all
   rw[e1,e2,show errV 0=.nilIface from rfl]
   clear hbad hgood h1' henv e1 e2 h2
   rw[hxe]
   have HX:Hid (x=⟨#[99,111,117,110,116]⟩):=hxe
   subst hxe
   go_enter Tryz.func223,Tryz.ntmps223
   go_wp2_with fail
   refine (cA _).mono ?_
   rintro e w1 ⟨rfl,rfl⟩
   clear cA
   go_wp2
   exact bodyPost_ret (v:=.tuple #[.agg #[.string ⟨#[99,111,117,110,116]⟩,.int .i64 0,.slice none 0 0,.int .i64 0,.int .i64 0,.string ⟨#[]⟩],.nilIface]) (by simp[results,Tryz.results223,go_sem]) rfl ⟨rfl,alB _ _⟩
  ·rw[if_neg h2] at hE
   have hq:=zbF h2
   simp only[zaQ] at hq
   by_cases h3:¬(k=1∨k=2∨k=3)
   ·rw[if_pos h3] at hE
    subst hE
    obtain⟨e1,e2⟩:=hbad 1 rfl (by decide)
    have cT:=fun W=>zfw k W h3
    rw[e1,e2,show errV 1=.iface 35 (.int .i64 1) from rfl]
    clear hbad hgood h1' henv e1 e2 h2 h3
    go_enter Tryz.func223,Tryz.ntmps223
    go_wp2_with fail
    refine (cA _).mono ?_
    rintro e w1 ⟨rfl,rfl⟩
    clear cA
    go_wp2_with fail
    refine (cT _).mono ?_
    rintro e w1 ⟨rfl,rfl⟩
    clear cT
    go_wp2
    exact bodyPost_ret (v:=.tuple #[.agg #[.string ⟨#[]⟩,.int .i64 0,.slice none 0 0,.int .i64 0,.int .i64 0,.string ⟨#[]⟩],.iface 35 (.int .i64 1)]) (by simp[results,Tryz.results223,go_sem]) rfl ⟨rfl,alB _ _⟩
   ·rw[if_neg h3] at hE
    have cT:=fun W=>zcs k W (Decidable.not_not.1 h3)
    by_cases h4:x.data.toList=wSum∧k≠1
    ·rw[if_pos h4] at hE
     subst hE
     obtain⟨e1,e2⟩:=hbad 8 rfl (by decide)
     rw[e1,e2,show errV 8=.iface 35 (.int .i64 8) from rfl]
     have hq1:=zcS h4.1
     simp only[wSum] at hq1
     have hk1:(k != 1)=true:=by simpa using h4.2
     clear hbad hgood h1' henv e1 e2 h2 h3 h4
     go_enter Tryz.func223,Tryz.ntmps223
     go_wp2_with fail
     refine (cA _).mono ?_
     rintro e w1 ⟨rfl,rfl⟩
     clear cA
     go_wp2_with fail
     refine (cT _).mono ?_
     rintro e w1 ⟨rfl,rfl⟩
     clear cT
     go_wp2
     exact bodyPost_ret (v:=.tuple #[.agg #[.string ⟨#[]⟩,.int .i64 0,.slice none 0 0,.int .i64 0,.int .i64 0,.string ⟨#[]⟩],.iface 35 (.int .i64 8)]) (by simp[results,Tryz.results223,go_sem]) rfl ⟨rfl,alB _ _⟩
    ·rw[if_neg h4] at hE
     subst hE
     obtain⟨e1,e2⟩:=hgood rfl
     rw[if_neg h2] at e2
     rw[e1,e2,show errV 0=.nilIface from rfl]
     have hor:(x.toList == [115,117,109])=false∨((x.toList == [115,117,109])=true∧(k != 1)=false):=by
      by_cases hs:x.data.toList=wSum
      ·have hk1:k=1:=Decidable.not_not.1 (fun hk=>h4 ⟨hs,hk⟩)
       exact .inr ⟨zcS hs,by simpa using hk1⟩
      ·exact .inl (zbF hs)
     have cC:=fun W=>zbz x W (by omega)
     clear hbad hgood h1' henv e1 e2 h2 h3 h4
     rcases hor with hq1|⟨hq1,hk1⟩
     all_goals
      go_enter Tryz.func223,Tryz.ntmps223
      go_wp2_with fail
      refine (cA _).mono ?_
      rintro e w1 ⟨rfl,rfl⟩
      clear cA
      go_wp2_with fail
      refine (cT _).mono ?_
      rintro e w1 ⟨rfl,rfl⟩
      clear cT
      go_wp2_with fail
      refine (cC _).mono ?_
      rintro e w1 ⟨rfl,B2⟩
      clear cC
      have P1:Blk w1 w.heap.size #[.string ⟨#[]⟩,.int .i64 0,.slice none 0 0,.int .i64 0,.int .i64 0,.string ⟨#[]⟩] 298:=(zac w _ _).on B2
      have B3:Below w.heap.size w w1:=B1.trans (B2.mono B1.size)
      clear B2 B1
      go_wp2_with (refine zaj rfl 298 _ _ rfl w.heap.size 0 #[.string x,.int .i64 k,.slice none 0 0,.int .i64 0,.int .i64 0,.string ⟨#[]⟩] rfl rfl _ _ P1 (by simp) zbv (zpB _ _ _ _ _ _ _ _) ?_;intro W3 P5 K5)
      have B4:Below w.heap.size w W3:=B3.trans K5.below
      have P6:Blk W3 w.heap.size #[.string x,.int .i64 k,.slice none 0 0,.int .i64 0,.int .i64 0,.string ⟨#[]⟩] 298:=by simpa only[putA,List.setIfInBounds_toArray,List.set_cons_zero,List.set_cons_succ,Nat.reduceAdd] using P5
      have c0:=P6.cell 0
      have c1:=P6.cell 1
      have c2:=P6.cell 2
      have c3:=P6.cell 3
      have c4:=P6.cell 4
      have c5:=P6.cell 5
      simp at c0 c1 c2 c3 c4 c5
      exact bodyPost_ret (v:=.tuple #[.agg #[.string x,.int .i64 k,.slice none 0 0,.int .i64 0,.int .i64 0,.string ⟨#[]⟩],.nilIface]) (by simp[results,Tryz.results223,go_sem,c0,c1,c2,c3,c4,c5]) rfl ⟨rfl,B4⟩
structure PtsAt(w:World)(g:Nat)(cur:Array Value)(ps:List Pt):Prop where
 blk:Blk w g cur 298
 len:ps.length*6≤cur.size
 part:∀i (h:i<ps.length),∃q c,zbG w g (i*6) ps[i] q c
theorem znL{w w':World}{g:Nat}{cur:Array Value}{v:Value}{ws:List Int}(hb:Blk w g cur 298)(h:TotA w v ws)(hk:Kp (·=g) w w'):TotA w' v ws :=
 h.keep fun k cs hc=>hk.kept k (lt_of_block hc) (fun e=>by
  subst e
  unfold Blk at hb
  rw[hb] at hc
  injection hc with hc
  injection hc with _ hc _
  exact absurd hc (by decide))
theorem PtsAt.on{w w':World}{g:Nat}{cur:Array Value}{ps:List Pt}(h:PtsAt w g cur ps)(hb:Below w.heap.size w w'):PtsAt w' g cur ps :=
 ⟨h.blk.on hb,h.len,fun i hi=>by obtain⟨q,c,hp⟩:=h.part i hi;exact⟨q,c,hp.on hb⟩⟩
theorem PtsAt.keep{w w':World}{g:Nat}{cur:Array Value}{ps:List Pt}{S:Nat→Prop}(h:PtsAt w g cur ps)(hk:Kp S w w')(hg:¬S g)(hS:∀(k:Nat) (cs:Array Value),S k→w.heap[k]?=some (Obj.cells cs 267 (0,0))→False):PtsAt w' g cur ps:=by
 refine⟨h.blk.kp hk hg,h.len,fun i hi=>?_⟩
 obtain⟨q,c,c0,c1,c2,c3,c4,c5,t,lt⟩:=h.part i hi
 have k:∀o,w'.cell? ⟨g,o,none⟩=w.cell? ⟨g,o,none⟩:=fun o=>hk.cell o lt hg
 exact⟨q,c,by rw[k];exact c0,by rw[k];exact c1,by rw[k];exact c2,by rw[k];exact c3,by rw[k];exact c4,by rw[k];exact c5,t.keep (fun b cs hc=>hk.kept b (lt_of_block hc) (fun e=>hS b cs e hc)),by have:=hk.size;omega⟩
theorem PtsAt.upd{w w':World}{g:Nat}{cur cur':Array Value}{ps:List Pt}(h:PtsAt w g cur ps){i:Nat}(hi:i<ps.length)(hb:Blk w' g cur' 298)(hs:cur'.size=cur.size)(hc:∀j,¬(i*6≤j∧j<i*6+6)→cur'[j]?=cur[j]?){p':Pt}{q:Option Addr}{c:Nat}(hp:zbG w' g (i*6) p' q c)(hk:Kp (·=g) w w'):PtsAt w' g cur' (ps.set i p'):=by
 refine⟨hb,by rw[List.length_set,hs];exact h.len,fun j hj=>?_⟩
 rw[List.length_set] at hj
 rw[List.getElem_set]
 by_cases hij:i=j
 ·subst hij
  rw[if_pos rfl]
  exact⟨q,c,hp⟩
 ·rw[if_neg hij]
  obtain⟨q,c,c0,c1,c2,c3,c4,c5,t,lt⟩:=h.part j hj
  have k:∀o,o<6→w'.cell? ⟨g,j*6+o,none⟩=w.cell? ⟨g,j*6+o,none⟩:=fun o ho=>by rw[hb.cell,h.blk.cell,hc _ (by omega)]
  refine⟨q,c,?_,by rw[k 1 (by omega)];exact c1,by rw[k 2 (by omega)];exact c2,by rw[k 3 (by omega)];exact c3,by rw[k 4 (by omega)];exact c4,by rw[k 5 (by omega)];exact c5,znL h.blk t hk,by have:=hk.size;omega⟩
  have:=k 0 (by omega)
  rw[Nat.add_zero] at this
  rw[this];exact c0
theorem ziH:∀(vs:List Value) (cs:Array Value) (o j:Nat),¬(o≤j∧j<o+vs.length)→(putA cs o vs)[j]?=cs[j]?
 | [],_,_,_,_=>rfl
 | v::vs,cs,o,j,h=>by
  rw[putA,ziH vs _ _ _ (by simp at h;omega),Array.getElem?_setIfInBounds_ne (by simp at h;omega)]
theorem zhX:∀(vs:List Value) (cs:Array Value) (o:Nat),(putA cs o vs).size=cs.size
 | [],_,_=>rfl
 | v::vs,cs,o=>by rw[putA,zhX vs];simp
theorem zoB:∀(vs:List Value) (cs:Array Value) (o j:Nat) (h:j<vs.length),o+vs.length≤cs.size→(putA cs o vs)[o+j]?=some vs[j]
 | [],_,_,_,h,_=>absurd h (by simp)
 | v::vs,cs,o,0,_,hs=>by
  rw[putA,ziH vs _ _ _ (by omega),Nat.add_zero,Array.getElem?_setIfInBounds_self_of_lt (by simp at hs;omega)]
  rfl
 | v::vs,cs,o,j+1,h,hs=>by
  have:=zoB vs (cs.setIfInBounds o v) (o+1) j (by simpa using h) (by simp at hs ⊢;omega)
  rw[putA,show o+(j+1)=o+1+j by omega,this]
  rfl
theorem ztV{w w2:World}{g:Nat}{cur:Array Value}{ps:List Pt}{i:Nat}{p:Pt}{q:Option Addr}{c:Nat}(h:PtsAt w g cur ps)(hi:i<ps.length)(hp:zbG w g (i*6) p q c)(hb:Below w.heap.size w w2){rq:Option Addr}{rc:Nat}{ws':List Int}(ht:TotA w2 (.slice rq ws'.length rc) ws') :
  PtsAt (w2.setCell ⟨g,i*6+2,none⟩ (.slice rq ws'.length rc)) g (cur.setIfInBounds (i*6+2) (.slice rq ws'.length rc)) (ps.set i { p with ws:=ws' })∧Kp (·=g) w (w2.setCell ⟨g,i*6+2,none⟩ (.slice rq ws'.length rc)):=by
 have h2:=h.on hb
 have p2:=hp.on hb
 have hlen:=h.len
 have hK:Kp (·=g) w2 (w2.setCell ⟨g,i*6+2,none⟩ (.slice rq ws'.length rc)):=(Kp.refl _ _).set _ _ (fun _=>rfl)
 refine⟨h2.upd hi (h2.blk.set _ _) (by simp) (fun j hj=>by rw[Array.getElem?_setIfInBounds_ne (by omega)]) (p':={ p with ws:=ws' }) (q:=rq) (c:=rc) ?_ hK,(Kp.of_below hb).trans hK⟩
 obtain⟨c0,c1,c2,c3,c4,c5,t,lt⟩:=p2
 refine⟨?_,?_,?_,?_,?_,?_,znL h2.blk ht hK,by simpa [World.setCell] using lt⟩
 ·rw[zgi (by omega)];exact c0
 ·rw[zgi (by omega)];exact c1
 ·exact ztM c2
 ·rw[zgi (by omega)];exact c3
 ·rw[zgi (by omega)];exact c4
 ·rw[zgi (by omega)];exact c5
theorem zkC(g:Nat)(cur:Array Value)(ps:List Pt)(i:Nat)(hi:i<ps.length)(p:Pt)(hpi:ps[i]'hi=p)(o:Pt)(q2:Option Addr)(c2:Nat)(w:World)(h:PtsAt w g cur ps)(kp:OkPt p)(ko:OkPt o)(ht:TotA w (.slice q2 o.ws.length c2) o.ws)(hx:p.wh=wSum) :
  Calls Tryz.prog 227 #[.pointer (some ⟨g,i*6,none⟩),.agg #[.string o.what,.int .i64 o.kind,.slice q2 o.ws.length c2,.int .i64 o.best.1,.int .i64 o.best.2.1,.string o.best.2.2]] w fun e w'=>e=.returned (.tuple #[])∧(∃cur',Aside (PtsAt w' g cur' (ps.set i (tkP p o))))∧Aside (Kp (·=g) w w'):=by
 obtain⟨q,c,hp⟩:=h.part i hi
 rw[hpi] at hp
 have h0:=hp.c0
 have h2:=hp.c2
 have hl:=hp.lt
 have hq:(p.what.toList == [115,117,109])=true:=zcS hx
 have HP:Aside (PtsAt w g cur ps):=h
 have HI:Hid (i<ps.length):=hi
 have HPI:Aside (zbG w g (i*6) p q c):=hp
 have HTK:Hid (tkP p o={ p with ws:=shW (sumW p.ws o.ws) }):=by show _=_;rw[tkP,if_pos hx]
 have cP:=fun (W:World) (hW:Below w.heap.size w W)=>zpA (.slice q p.ws.length c) (.slice q2 o.ws.length c2) p.ws o.ws W (hp.tot.on hW) (ht.on hW) kp.ws.2.2 ko.ws.2.2
 have hd0:∀o1:Obj,(w.alloc o1).cell? ⟨g,i*6,none⟩=some (.string p.what):=fun o1=>by rw[(alB w o1).cell (p:=⟨g,i*6,none⟩) hl];exact h0
 have hd2:∀o1:Obj,(w.alloc o1).cell? ⟨g,i*6+2,none⟩=some (.slice q p.ws.length c):=fun o1=>by rw[(alB w o1).cell (p:=⟨g,i*6+2,none⟩) hl];exact h2
 clear h hp kp ko ht h0 h2 hpi hx
 have hgs:g≠w.heap.size:=by omega
 go_enter Tryz.func227,Tryz.ntmps227
 go_wp2
 go_region_with (go_at_call 239;refine (cP _ (Below.drew (alB w _))).mono ?_;rintro e w2 ⟨⟨r,rfl,T2⟩,B2⟩;obtain⟨rq,rc,rfl,_⟩:=T2.form;have B3:Below w.heap.size w w2:=(Below.drew (alB w _)).trans (B2.mono (by simp));have hfz:w2.frozen? ⟨g,i*6+2,none⟩=false:=(HP.out.blk.on B3).frozen _;have hce:w2.cell? ⟨g,i*6+2,none⟩=some (.slice q p.ws.length c):=(HPI.out.on B3).c2)
 all_goals
  have hend:=ztV HP.out HI.out HPI.out B3 T2
  rw[←HTK.out] at hend
  have HEN:Aside _:=hend
  clear hend T2
  go_wp2
  go_end0
  exact⟨rfl,⟨_,HEN.out.1⟩,HEN.out.2⟩
theorem zqy{w w2 w3:World}{g:Nat}{cur:Array Value}{ps:List Pt}{i:Nat}{p:Pt}{q:Option Addr}{c:Nat}(h:PtsAt w g cur ps)(hi:i<ps.length)(hp:zbG w g (i*6) p q c)(hb:Below w.heap.size w w2){v:V3}(hB:Blk w3 g (putA cur (i*6+3) [.int .i64 v.1,.int .i64 v.2.1,.string v.2.2]) 298)(hk:But g w2 w3) :
  PtsAt w3 g (putA cur (i*6+3) [.int .i64 v.1,.int .i64 v.2.1,.string v.2.2]) (ps.set i { p with best:=v })∧Kp (·=g) w w3:=by
 have h2:=h.on hb
 have p2:=hp.on hb
 have hlen:=h.len
 have hK:Kp (·=g) w2 w3:=Kp.of_but hk rfl
 refine⟨h2.upd hi hB (zhX _ _ _) (fun j hj=>by rw[ziH _ _ _ _ (by simp;omega)]) (p':={ p with best:=v }) (q:=q) (c:=c) ?_ hK,(Kp.of_below hb).trans hK⟩
 obtain⟨c0,c1,c2,c3,c4,c5,t,lt⟩:=p2
 have k:∀o,o<i*6+3→w3.cell? ⟨g,o,none⟩=w2.cell? ⟨g,o,none⟩:=fun o ho=>by rw[hB.cell,h2.blk.cell,ziH _ _ _ _ (by omega)]
 have e:∀j (hj:j<3),w3.cell? ⟨g,i*6+3+j,none⟩=some ([.int .i64 v.1,.int .i64 v.2.1,.string v.2.2]:List Value)[j]:=fun j hj=>by rw[hB.cell,zoB _ _ _ _ hj (by simp;omega)]
 refine⟨by rw[k _ (by omega)];exact c0,by rw[k _ (by omega)];exact c1,by rw[k _ (by omega)];exact c2,e 0 (by decide),e 1 (by decide),e 2 (by decide),znL h2.blk t hK,by have:=hk.size;omega⟩
theorem zlV(w:World)(o:Pt)(q2:Option Addr)(c2:Nat)(ht:TotA w (.slice q2 o.ws.length c2) o.ws):zbG (w.alloc (.cells #[.string o.what,.int .i64 o.kind,.slice q2 o.ws.length c2,.int .i64 o.best.1,.int .i64 o.best.2.1,.string o.best.2.2] 298)) w.heap.size 0 o q2 c2:=by
 have P:=zac w #[.string o.what,.int .i64 o.kind,.slice q2 o.ws.length c2,.int .i64 o.best.1,.int .i64 o.best.2.1,.string o.best.2.2] 298
 exact⟨P.cell 0,P.cell 1,P.cell 2,P.cell 3,P.cell 4,P.cell 5,ht.on (alB _ _),P.lt⟩
theorem zer(g:Nat)(cur:Array Value)(ps:List Pt)(i:Nat)(hi:i<ps.length)(p:Pt)(hpi:ps[i]'hi=p)(o:Pt)(q2:Option Addr)(c2:Nat)(w:World)(h:PtsAt w g cur ps)(kp:OkPt p)(ko:OkPt o)(ht:TotA w (.slice q2 o.ws.length c2) o.ws)(hkk:o.kind=p.kind)(hx:p.wh=zaK∨p.wh=wMost) :
  Calls Tryz.prog 227 #[.pointer (some ⟨g,i*6,none⟩),.agg #[.string o.what,.int .i64 o.kind,.slice q2 o.ws.length c2,.int .i64 o.best.1,.int .i64 o.best.2.1,.string o.best.2.2]] w fun e w'=>e=.returned (.tuple #[])∧(∃cur',Aside (PtsAt w' g cur' (ps.set i (tkP p o))))∧Aside (Kp (·=g) w w'):=by
 obtain⟨q,c,hp⟩:=h.part i hi
 rw[hpi] at hp
 have h0:=hp.c0
 have hl:=hp.lt
 have hq0:(p.what.toList == [115,117,109])=false:=zbF (show p.what.data.toList≠_ by rcases hx with hx|hx<;>rw[show p.what.data.toList=_ from hx]<;>decide)
 have HP:Aside (PtsAt w g cur ps):=h
 have HI:Hid (i<ps.length):=hi
 have HPI:Aside (zbG w g (i*6) p q c):=hp
 have hxs:p.wh≠wSum:=by rcases hx with hx|hx<;>rw[hx]<;>decide
 have HTK:Hid (tkP p o=if zbi o p=true then { p with best:=o.best } else p):=by show _=_;rw[tkP,if_neg hxs,if_pos hx]
 have HSET:Hid (ps.set i p=ps):=by show _=_;rw[←hpi,List.set_getElem_self]
 have HB:=zlV w o q2 c2 ht
 have cA:=zjj w.heap.size 0 g (i*6) o p q2 q c2 c _ HB (hp.on (alB _ _)) ko kp hkk
 have hd0:∀o1:Obj,(w.alloc o1).cell? ⟨g,i*6,none⟩=some (.string p.what):=fun o1=>by rw[(alB w o1).cell (p:=⟨g,i*6,none⟩) hl];exact h0
 have hw:((p.what.toList == [108,101,97,115,116])=true)∨((p.what.toList == [108,101,97,115,116])=false∧(p.what.toList == [109,111,115,116])=true):=by
  rcases hx with hx|hx
  ·exact .inl (zcS hx)
  ·exact .inr ⟨zbF (show p.what.data.toList≠_ by rw[show p.what.data.toList=_ from hx];decide),zcS hx⟩
 have B1:=alB w (.cells #[.string o.what,.int .i64 o.kind,.slice q2 o.ws.length c2,.int .i64 o.best.1,.int .i64 o.best.2.1,.string o.best.2.2] 298)
 clear h hp kp ko ht h0 hpi hx hxs HB hkk
 have hgs:g≠w.heap.size:=by omega
 cases hA:zbi o p
 ·rw[hA] at cA
  have HT:=HTK.out
  rw[hA,if_neg (by decide)] at HT
  rw[HT,HSET.out]
  clear HTK HT hA
  rcases hw with hw|⟨hw1,hw2⟩
  all_goals
   go_enter Tryz.func227,Tryz.ntmps227
   go_wp2_with fail
   refine cA.mono ?_
   rintro e w2 ⟨rfl,B2⟩
   have B3:Aside (Below w.heap.size w w2):=B1.trans (B2.mono B1.size)
   clear cA B2
   go_wp2
   go_end0
   exact⟨rfl,⟨cur,HP.out.on B3.out⟩,(show Aside _ from Kp.of_below B3.out)⟩
 ·rw[hA] at cA
  have HT:=HTK.out
  rw[hA,if_pos rfl] at HT
  rw[HT]
  clear HTK HT hA
  rcases hw with hw|⟨hw1,hw2⟩
  all_goals
   go_enter Tryz.func227,Tryz.ntmps227
   go_wp2_with fail
   refine cA.mono ?_
   rintro e w2 ⟨rfl,B2⟩
   have B3:Below w.heap.size w w2:=B1.trans (B2.mono B1.size)
   have PB:Blk w2 w.heap.size _ _:=(zac w _ _).on B2
   have PG:Blk w2 g cur 298:=HP.out.blk.on B3
   have hsz:i*6+3+3≤cur.size:=by have:=HP.out.len;have:=HI.out;omega
   clear cA B2
   go_wp2_with (first
    | (refine zal rfl 27 _ rfl w.heap.size 3 rfl _ _ PB [.int .i64 o.best.1,.int .i64 o.best.2.1,.string o.best.2.2] (fun j v hv=>by match j,hv with
      | 0,hv=>exact hv
      | 1,hv=>exact hv
      | 2,hv=>exact hv
      | j+3,hv=>simp at hv) _ Tryz.underlying27 rfl zdl ?_)
    | (refine zaj rfl 27 _ _ rfl g (i*6+3) #[.int .i64 o.best.1,.int .i64 o.best.2.1,.string o.best.2.2] rfl rfl _ _ PG hsz zdl (zpS _ _ _) ?_;intro W3 P5 K5))
   have hend:Aside _:=zqy HP.out HI.out HPI.out B3 P5 K5
   clear P5 K5 PB PG B3
   go_wp2
   go_end0
   exact⟨rfl,⟨_,hend.out.1⟩,hend.out.2⟩
theorem zhd(g:Nat)(cur:Array Value)(ps:List Pt)(i:Nat)(hi:i<ps.length)(p:Pt)(hpi:ps[i]'hi=p)(o:Pt)(q2:Option Addr)(c2:Nat)(w:World)(h:PtsAt w g cur ps)(hx:p.wh=zaQ) :
  Calls Tryz.prog 227 #[.pointer (some ⟨g,i*6,none⟩),.agg #[.string o.what,.int .i64 o.kind,.slice q2 o.ws.length c2,.int .i64 o.best.1,.int .i64 o.best.2.1,.string o.best.2.2]] w fun e w'=>e=.returned (.tuple #[])∧(∃cur',Aside (PtsAt w' g cur' (ps.set i (tkP p o))))∧Aside (Kp (·=g) w w'):=by
 obtain⟨q,c,hp⟩:=h.part i hi
 rw[hpi] at hp
 have h0:=hp.c0
 have hl:=hp.lt
 have HT:tkP p o=p:=by rw[tkP,if_neg (by rw[hx];decide),if_neg (by rw[hx];decide)]
 have HSET:ps.set i p=ps:=by rw[←hpi,List.set_getElem_self]
 rw[HT,HSET]
 have hq0:(p.what.toList == [115,117,109])=false:=zbF (show p.what.data.toList≠_ by rw[show p.what.data.toList=_ from hx];decide)
 have hq1:(p.what.toList == [108,101,97,115,116])=false:=zbF (show p.what.data.toList≠_ by rw[show p.what.data.toList=_ from hx];decide)
 have hq2:(p.what.toList == [109,111,115,116])=false:=zbF (show p.what.data.toList≠_ by rw[show p.what.data.toList=_ from hx];decide)
 have hd0:∀o1:Obj,(w.alloc o1).cell? ⟨g,i*6,none⟩=some (.string p.what):=fun o1=>by rw[(alB w o1).cell (p:=⟨g,i*6,none⟩) hl];exact h0
 have HP:Aside (PtsAt w g cur ps):=h
 clear HT HSET hx hp hpi h0 h
 go_enter Tryz.func227,Tryz.ntmps227
 go_wp2
 go_end0
 exact⟨rfl,⟨cur,HP.out.on (alB _ _)⟩,(show Aside _ from Kp.of_below (alB _ _))⟩
theorem zlU(g:Nat)(cur:Array Value)(ps:List Pt)(i:Nat)(hi:i<ps.length)(p:Pt)(hpi:ps[i]'hi=p)(o:Pt)(q2:Option Addr)(c2:Nat)(w:World)(h:PtsAt w g cur ps)(kp:OkPt p)(ko:OkPt o)(ht:TotA w (.slice q2 o.ws.length c2) o.ws)(hkk:o.kind=p.kind) :
  Calls Tryz.prog 227 #[.pointer (some ⟨g,i*6,none⟩),.agg #[.string o.what,.int .i64 o.kind,.slice q2 o.ws.length c2,.int .i64 o.best.1,.int .i64 o.best.2.1,.string o.best.2.2]] w fun e w'=>e=.returned (.tuple #[])∧(∃cur',Aside (PtsAt w' g cur' (ps.set i (tkP p o))))∧Aside (Kp (·=g) w w'):=by
 rcases zgq kp.ag with hx|hx|hx|hx
 ·exact zhd g cur ps i hi p hpi o q2 c2 w h hx
 ·exact zkC g cur ps i hi p hpi o q2 c2 w h kp ko ht hx
 ·exact zer g cur ps i hi p hpi o q2 c2 w h kp ko ht hkk (.inl hx)
 ·exact zer g cur ps i hi p hpi o q2 c2 w h kp ko ht hkk (.inr hx)
theorem zuD(a b:Int)(w:World)(ha:-9223372036854775808≤a∧a≤9223372036854775807)(hb:-9223372036854775808≤b∧b≤9223372036854775807)
  (hn:-9223372036854775808≤a+b∧a+b≤9223372036854775807) :
  Calls Tryz.prog 251 #[.int .i64 a,.int .i64 b] w fun e w'=>e=.returned (.tuple #[.int .i64 (a+b),.nilIface])∧w'=w:=by
 go_enter Tryz.func251,Tryz.ntmps251
 go_wp2
 all_goals first|(exfalso;omega)|(go_ret2;exact⟨rfl,rfl⟩)
theorem zvj(a b:Int)(w:World)(ha:-9223372036854775808≤a∧a≤9223372036854775807)(hb:-9223372036854775808≤b∧b≤9223372036854775807)
  (hn:-9223372036854775808≤a+b∧a+b≤9223372036854775807) :
  Calls Tryz.prog 238 #[.string { data:=#[43] },.int .i64 a,.int .i64 b] w fun e w'=>e=.returned (.tuple #[.int .i64 (a+b),.nilIface])∧w'=w:=by
 go_enter Tryz.func238,Tryz.ntmps238
 go_wp2_with (first|(go_at_call 251;refine (zuD a b _ ha hb hn).mono ?_;rintro e w' ⟨rfl,rfl⟩))
 go_ret2;exact⟨rfl,rfl⟩
structure AccAt(w:World)(a:Nat)(v:Value)(rows:Int)(ps:List Pt):Prop where
 blk:Blk w a #[.int .i64 rows,v] 290
 pts:(ps=[]∧v=.slice none 0 0)∨∃g c cur,v=.slice (some ⟨g,0,none⟩) ps.length c∧PtsAt w g cur ps
def accS(a:Nat)(v:Value)(k:Nat):Prop:=k=a∨v.ownBlock=some k
theorem AccAt.on{w w':World}{a:Nat}{v:Value}{rows:Int}{ps:List Pt}(h:AccAt w a v rows ps)(hb:Below w.heap.size w w'):AccAt w' a v rows ps:=by
 refine⟨h.blk.on hb,?_⟩
 rcases h.pts with h|⟨g,c,cur,e,h⟩
 ·exact .inl h
 ·exact .inr ⟨g,c,cur,e,h.on hb⟩
theorem AccAt.cell1{w:World}{a:Nat}{v:Value}{rows:Int}{ps:List Pt}(h:AccAt w a v rows ps):w.cell? ⟨a,1,none⟩=some v:=h.blk.cell 1
theorem AccAt.cell0{w:World}{a:Nat}{v:Value}{rows:Int}{ps:List Pt}(h:AccAt w a v rows ps):w.cell? ⟨a,0,none⟩=some (.int .i64 rows):=h.blk.cell 0
theorem AccAt.form{w:World}{a:Nat}{v:Value}{rows:Int}{ps:List Pt}(h:AccAt w a v rows ps):∃q c,v=.slice q ps.length c:=by
 rcases h.pts with ⟨rfl,e⟩|⟨g,c,cur,e,_⟩
 ·exact⟨_,_,e⟩
 ·exact⟨_,_,e⟩
theorem AccAt.at{w:World}{a:Nat}{v:Value}{rows:Int}{ps:List Pt}(h:AccAt w a v rows ps){i:Nat}(hi:i<ps.length):∃g c cur,v=.slice (some ⟨g,0,none⟩) ps.length c∧PtsAt w g cur ps:=by
 rcases h.pts with ⟨rfl,e⟩|h
 ·simp at hi
 ·exact h
theorem zfq{w:World}{a b:Nat}{cs ds:Array Value}{t u:TypeId}(h:Blk w a cs t)(k:Blk w b ds u)(hn:t≠u):a≠b:=fun e=>by
 subst e
 unfold Blk at h k
 rw[h] at k
 injection k with k
 injection k with _ k _
 exact hn k
theorem AccAt.keep{w w':World}{a:Nat}{v:Value}{rows:Int}{ps:List Pt}{S:Nat→Prop}(h:AccAt w a v rows ps)(hk:Kp S w w')(hS:∀k,accS a v k→¬S k)(hu:∀(k:Nat) (cs:Array Value),S k→w.heap[k]?=some (Obj.cells cs 267 (0,0))→False):AccAt w' a v rows ps:=by
 refine⟨h.blk.kp hk (hS a (.inl rfl)),?_⟩
 rcases h.pts with h|⟨g,c,cur,e,h⟩
 ·exact .inl h
 ·exact .inr ⟨g,c,cur,e,h.keep hk (hS g (.inr (by rw[e];rfl))) hu⟩
def fstE:List Int→Int
 | []=>0
 | e::r=>if e≠0 then e else fstE r
theorem zon{L:List Int}{k:Nat}(h:k<L.length):fstE (L.drop k)=if L[k]≠0 then L[k] else fstE (L.drop (k+1)):=by
 rw[List.drop_eq_getElem_cons h,fstE]
theorem zkw(f:FuncId)(hent:∀(args:Array Value) (W:World),Sem.run Tryz.prog (callFunc f args) W=.ok (.enter f args) W)(caps:Array Value)(a:Nat)(q:Option Addr)(n c:Nat)(L:List Int)(hL:L.length=n)(hn:n≤6)(St:Nat→World→Prop)(Fin:World→Prop)(w:World)(h0:St 0 w)
  (hcell:∀i W,St i W→W.cell? ⟨a,1,none⟩=some (.slice q n c))(hq:0<n→∃g,q=some ⟨g,0,none⟩)
  (step:∀(g i:Nat) (W:World) (hi:i<L.length),q=some ⟨g,0,none⟩→St i W→Calls Tryz.prog f (#[.int .i64 (i:Int),.pointer (some ⟨g,i*6,none⟩)]++caps) W fun e w'=>e=.returned (errV L[i])∧Aside (if L[i]=0 then St (i+1) w' else Fin w'))
  (hfin:∀W,St n W→Fin W)(E:Int)(hE:fstE L=E) :
  Calls Tryz.prog 203 #[.pointer (some ⟨a,0,none⟩),.func (.func f) #[] caps] w fun e w'=>e=.returned (errV E)∧Aside (if E=0 then St n w' else Fin w'):=by
 have HC:Aside (∀i W,St i W→W.cell? ⟨a,1,none⟩=some (.slice q n c)):=hcell
 have HQ:Aside (0<n→∃g,q=some ⟨g,0,none⟩):=hq
 have HS:Aside _:=step
 have HF:Aside _:=hfin
 have HL:Hid (L.length=n):=hL
 have HE:Hid (fstE (L.drop 0)=E):=hE
 have H0:Aside (St 0 w):=h0
 have hc0:=hcell 0 w h0
 obtain⟨PST,hPST⟩:∃PST:Ending→World→Prop,(fun (e:Ending) (w':World)=>e=.returned (errV E)∧Aside (if E=0 then St n w' else Fin w'))=PST:=⟨_,rfl⟩
 have HPE:Hid (∀e w',(e=.returned (errV E)∧Aside (if E=0 then St n w' else Fin w'))→PST e w'):=by
  intro e w' h
  rw[←hPST]
  exact h
 rw[hPST]
 clear hPST hcell hq step hfin hL hE h0
 go_enter Tryz.func203,Tryz.ntmps203
 go_wp2
 go_loopg [5,6,12] n (fun gg _ _ s12 wr=>∃kk:Nat,kk≤n∧n-kk≤gg∧s12=.int .i64 kk∧Aside (St kk wr)∧Hid (fstE (L.drop kk)=E))
 case atStart=>exact⟨0,Nat.zero_le _,by omega,rfl,H0,HE⟩
 case round =>
  obtain⟨kk,hkk,hg,rfl,SR,HER⟩:=hrel
  clear H0 HE hc0
  by_cases hlt:kk<n
  ·have hltz:(kk:Int)<(n:Int):=by omega
   have h0z:(0:Int)≤(kk:Int):=by omega
   have hkl:kk<L.length:=by rw[HL.out];exact hlt
   obtain⟨g,rfl⟩:=HQ.out (by omega)
   have hcr:=HC.out kk wr SR.out
   have cS:=HS.out g kk wr hkl rfl SR.out
   have hfe:=HER.out
   rw[zon hkl] at hfe
   by_cases hz:L[kk]=0
   ·rw[if_neg (fun h=>h hz)] at hfe
    have cS:Calls Tryz.prog f (#[.int .i64 (kk:Int),.pointer (some ⟨g,kk*6,none⟩)]++caps) wr fun e w'=>e=.returned .nilIface∧Aside (St (kk+1) w'):=cS.mono fun e w' hh=>⟨by rw[hh.1,hz];rfl,by have:=hh.2.out;rw[if_pos hz] at this;exact this⟩
    have HFE:Hid (fstE (L.drop (kk+1))=E):=hfe
    clear hfe hz HER
    go_wp2_with fail
    refine cS.mono ?_
    rintro e w2 ⟨rfl,S2⟩
    clear cS
    go_wp2
    go_roundg (n-(kk+1))
    case measure=>omega
    case rel=>exact⟨kk+1,by omega,by omega,by go_num,S2,HFE⟩
   ·rw[if_pos hz] at hfe
    have hE0:¬E=0:=by rw[←hfe];exact hz
    have hV:errV E=.iface 35 (.int .i64 E):=by rw[errV,if_neg hE0]
    have cS:Calls Tryz.prog f (#[.int .i64 (kk:Int),.pointer (some ⟨g,kk*6,none⟩)]++caps) wr fun e w'=>e=.returned (.iface 35 (.int .i64 E))∧Aside (Fin w'):=cS.mono fun e w' hh=>⟨by rw[hh.1,hfe,hV],by have:=hh.2.out;rw[if_neg hz] at this;exact this⟩
    have HV:Hid _:=hV
    have HE0:Hid _:=hE0
    clear hfe hz HER hV hE0
    go_wp2_with fail
    refine cS.mono ?_
    rintro e w2 ⟨rfl,S2⟩
    clear cS
    go_wp2
    exact HPE.out _ _ ⟨by rw[HV.out];rfl,by rw[if_neg HE0.out];exact S2⟩
  ·have hltz:¬(kk:Int)<(n:Int):=by omega
   obtain rfl:kk=n:=by omega
   have hE0:E=0:=by rw[←HER.out,List.drop_eq_nil_of_le (by rw[HL.out];exact Nat.le_refl _)];rfl
   have HE0:Hid _:=hE0
   clear hE0
   go_wp2
   exact HPE.out _ _ ⟨by rw[HE0.out];rfl,by rw[if_pos HE0.out];exact SR⟩
theorem zgZ(x y:Int)(w:World)(hx:0≤x∧x≤1000000)(hy:0≤y∧y≤1000000) :
  Calls Tryz.prog 226 #[.int .i64 x,.int .i64 y] w fun e w'=>e=.returned (.int .i64 (x+y))∧w'=w:=by
 have c:=zvj x y w (by omega) (by omega) (by omega)
 go_enter Tryz.func226,Tryz.ntmps226
 go_wp2_with fail
 refine c.mono ?_
 rintro e w1 ⟨rfl,rfl⟩
 clear c
 go_wp2
 go_ret
 exact⟨rfl,rfl⟩
def tkN(ps:List Pt)(o:Nat→Pt)(k:Nat):List Pt:=ps.mapIdx fun i p=>if i<k then tkP p (o i) else p
theorem zbI(ps:List Pt)(o:Nat→Pt)(k:Nat):(tkN ps o k).length=ps.length:=by simp[tkN]
theorem zqc(ps:List Pt)(o:Nat→Pt):tkN ps o 0=ps:=by
 apply List.ext_getElem
 ·simp[tkN]
 ·intro i h1 h2
  simp[tkN]
theorem zls(ps:List Pt)(o:Nat→Pt)(k i:Nat)(h:i<ps.length):(tkN ps o k)[i]'(by rw[zbI];exact h)=if i<k then tkP ps[i] (o i) else ps[i]:=by simp[tkN]
theorem zrH(ps:List Pt)(o:Nat→Pt)(k:Nat)(h:k<ps.length):(tkN ps o k).set k (tkP ps[k] (o k))=tkN ps o (k+1):=by
 apply List.ext_getElem
 ·simp[tkN]
 ·intro i h1 h2
  have hi:i<ps.length:=by rw[zbI] at h2;exact h2
  rw[List.getElem_set,zls ps o (k+1) i hi]
  by_cases hki:k=i
  ·subst hki;rw[if_pos rfl,if_pos (by omega)]
  ·rw[if_neg hki,zls ps o k i hi]
   by_cases h3:i<k
   ·rw[if_pos h3,if_pos (by omega)]
   ·rw[if_neg h3,if_neg (by omega)]
theorem Kp.mono_set{S:Nat→Prop}{w w1:World}{g:Nat}(h:Kp (·=g) w w1)(hs:S g):Kp S w w1:=h.mono fun k _ e=>by subst e;exact hs
theorem AccAt.setPts{w w':World}{a g:Nat}{v:Value}{rows:Int}{ps ps':List Pt}{cur':Array Value}{c:Nat}(h:AccAt w a v rows ps)(hv:v=.slice (some ⟨g,0,none⟩) ps.length c)(hl:ps'.length=ps.length)(hp:PtsAt w' g cur' ps')(hk:Kp (·=g) w w')(hag:a≠g):AccAt w' a v rows ps' :=
 ⟨h.blk.kp hk hag,.inr ⟨g,c,cur',by rw[hl];exact hv,hp⟩⟩
theorem AccAt.ne{w:World}{a g:Nat}{cur:Array Value}{v:Value}{rows:Int}{ps ps':List Pt}(h:AccAt w a v rows ps)(hp:PtsAt w g cur ps'):a≠g:=zfq h.blk hp.blk (by decide)
theorem AccAt.setRows{w:World}{a:Nat}{v:Value}{rows:Int}{ps:List Pt}(h:AccAt w a v rows ps)(r:Int):AccAt (w.setCell ⟨a,0,none⟩ (.int .i64 r)) a v r ps:=by
 refine⟨by simpa using h.blk.set 0 (.int .i64 r),?_⟩
 rcases h.pts with h'|⟨g,c,cur,e,h'⟩
 ·exact .inl h'
 ·refine .inr ⟨g,c,cur,e,h'.keep (S:=(·=a)) ((Kp.refl _ _).set _ _ (fun _=>rfl)) (fun e=>(h.ne h') e.symm) (fun k cs hk hc=>?_)⟩
  subst hk
  exact zfq h.blk (show Blk w k cs 267 from hc) (by decide) rfl
theorem zjo(f:FuncId)(hent:∀(args:Array Value) (W:World),Sem.run Tryz.prog (callFunc f args) W=.ok (.enter f args) W)(caps:Array Value)(a:Nat)(v:Value)(rows m:Int)(ps:List Pt)(o:Nat→Pt)(w:World)(hA:AccAt w a v rows ps)(hn:ps.length≤6)(hr:0≤rows∧rows≤1000000)(hm:1≤m∧m≤1000000)
  (kp:∀p∈ps,OkPt p)(ko:∀i,i<ps.length→OkPt (o i))(hkk:∀i (h:i<ps.length),(o i).kind=ps[i].kind)
  (hof:∀(i:Nat) (W:World) (R:Int),i<ps.length→AccAt W a v R (tkN ps o i)→Kp (accS a v) w W→Calls Tryz.prog f (#[.int .i64 (i:Int)]++caps) W fun e w'=>(∃q c,e=.returned (.agg #[.string (o i).what,.int .i64 (o i).kind,.slice q (o i).ws.length c,.int .i64 (o i).best.1,.int .i64 (o i).best.2.1,.string (o i).best.2.2])∧Aside (TotA w' (.slice q (o i).ws.length c) (o i).ws))∧Below W.heap.size W w') :
  Calls Tryz.prog 206 #[.pointer (some ⟨a,0,none⟩),.int .i64 m,.func (.func f) #[] caps] w fun e w'=>e=.returned (.tuple #[])∧Aside (AccAt w' a v (rows+m) (tkN ps o ps.length))∧Aside (Kp (accS a v) w w'):=by
 have hc0:=hA.cell0
 have hfz:=hA.blk.frozen 0
 have hal:=hA.blk.lt
 have c0:=zgZ rows m w hr ⟨by omega,hm.2⟩
 have hmz:¬m=0:=by omega
 have hmb:(m == 0)=false:=by simpa using hmz
 obtain⟨q,c,rfl⟩:=hA.form
 have hA1:Aside (AccAt (w.setCell ⟨a,0,none⟩ (.int .i64 (rows+m))) a (.slice q ps.length c) (rows+m) ps):=hA.setRows (rows+m)
 have hK1:Aside (Kp (accS a (.slice q ps.length c)) w (w.setCell ⟨a,0,none⟩ (.int .i64 (rows+m)))):=(Kp.refl _ _).set _ _ (fun _=>.inl rfl)
 have hc1:(w.setCell ⟨a,0,none⟩ (.int .i64 (rows+m))).cell? ⟨a,1,none⟩=some (.slice q ps.length c):=hA1.out.cell1
 have HF:Aside _:=hof
 have HKP:Aside (∀p∈ps,OkPt p):=kp
 have HKO:Aside _:=ko
 have HKK:Aside _:=hkk
 obtain⟨n,hnn⟩:∃n,ps.length=n:=⟨_,rfl⟩
 have HN:Hid (ps.length=n):=hnn
 rw[hnn] at hc1 hn ⊢
 rw[hnn] at hA1 hK1 HF
 have HA0:Aside _:=hA
 clear hA hof kp ko hkk hnn hr hm
 go_enter Tryz.func206,Tryz.ntmps206
 go_wp2_with fail
 refine c0.mono ?_
 rintro e w1 ⟨rfl,rfl⟩
 clear c0
 go_wp2
 go_loopg [6,23] n (fun gg _ s21 wr=>∃kk:Nat,kk≤n∧n-kk≤gg∧s21=.int .i64 kk∧Aside (AccAt wr a (.slice q n c) (rows+m) (tkN ps o kk))∧Aside (Kp (accS a (.slice q n c)) w1 wr))
 case atStart=>exact⟨0,Nat.zero_le _,by omega,rfl,by rw[zqc];exact hA1,hK1⟩
 case round =>
  obtain⟨kk,hkk,hg,rfl,AR,KR⟩:=hrel
  clear hA1 hK1 hc1 HA0 hc0 hfz
  by_cases hlt:kk<n
  ·have hltz:(kk:Int)<(n:Int):=by omega
   have h0z:(0:Int)≤(kk:Int):=by omega
   have hki:kk<ps.length:=by rw[HN.out];exact hlt
   have hkt:kk<(tkN ps o kk).length:=by rw[zbI];exact hki
   obtain⟨g,c',cur,hve,PT⟩:=AR.out.at hkt
   rw[zbI,HN.out] at hve
   injection hve with hq1 hq2 hq3
   subst hq1 hq3
   have hag:=AR.out.ne PT
   have hcr:=AR.out.cell1
   have cF:=HF.out kk wr.drew (rows+m) hlt (AR.out.on (Below.drew (Below.refl _ _))) KR.out.drew
   obtain⟨p,hpe⟩:∃p,ps[kk]=p:=⟨_,rfl⟩
   have hpt:(tkN ps o kk)[kk]'hkt=p:=by rw[zls ps o kk kk hki,if_neg (by omega),hpe]
   have hokp:OkPt p:=HKP.out p (by rw[←hpe];exact List.getElem_mem _)
   have hoko:=HKO.out kk hki
   have hkko:=HKK.out kk hki
   rw[hpe] at hkko
   have hset:=zrH ps o kk hki
   rw[hpe] at hset
   generalize o kk=ok at cF hoko hkko hset
   have cT:=fun (w2:World) (q2:Option Addr) (c2:Nat) (T2:TotA w2 (.slice q2 ok.ws.length c2) ok.ws) (P2:PtsAt w2 g cur (tkN ps o kk))=>zlU g cur (tkN ps o kk) kk hkt p hpt ok q2 c2 w2 P2 hokp hoko T2 hkko
   rw[hset] at cT
   have HPT:Aside _:=PT
   have HAG:Hid (a≠g):=hag
   clear hset hkko hoko hokp hpt hpe hq2 PT hag
   go_wp2
   go_region_with (first
    | (go_at_call 227;refine (cT _ _ _ T2.out P2.out).mono ?_;rintro e w3 ⟨rfl,⟨cur',P3⟩,K3⟩)
    | (refine cF.mono ?_;rintro e w2 ⟨⟨q2,c2,rfl,T2⟩,B2⟩;have A2:Aside (AccAt w2 a (.slice (some ⟨g,0,none⟩) n c) (rows+m) (tkN ps o kk)):=(AR.out.on (Below.drew (Below.refl _ _))).on B2;have P2:Aside (PtsAt w2 g cur (tkN ps o kk)):=(HPT.out.on (Below.drew (Below.refl _ _))).on B2;have K2:Aside (Kp (accS a (.slice (some ⟨g,0,none⟩) n c)) w1 w2):=(KR.out.drew).on B2;have hc2:=A2.out.cell1))
   all_goals
    have A3:Aside (AccAt w3 a (.slice (some ⟨g,0,none⟩) n c) (rows+m) (tkN ps o (kk+1))):=A2.out.setPts (by rw[zbI,HN.out]) (by rw[zbI,zbI]) P3.out K3.out HAG.out
    have K4:Aside (Kp (accS a (.slice (some ⟨g,0,none⟩) n c)) w1 w3):=K2.out.trans (K3.out.mono_set (.inr rfl))
    clear A2 P2 K2 P3 K3 B2 T2
    go_wp2
    go_roundg (n-(kk+1))
    case measure=>omega
    case rel=>exact⟨kk+1,by omega,by omega,by go_num,A3,K4⟩
  ·have hltz:¬(kk:Int)<(n:Int):=by omega
   obtain rfl:kk=n:=by omega
   go_wp2
   go_end0
   exact⟨rfl,by first|exact AR|(rw[HN.out];exact AR),KR⟩
end Go.Proofs.YtopghagjmdbglaaGreatDoor
