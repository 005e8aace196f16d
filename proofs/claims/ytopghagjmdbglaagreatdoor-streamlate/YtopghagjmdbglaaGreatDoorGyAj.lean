/-
  KdTy, KdOf, ColV, KdOfB, WdP, QyP, TreePl, QuP, StA.
-/
import Derived.Test.YtopghagjmdbglaaGreatDoorGyAi
import Derived.Test.YtopghagjmdbglaaGreatDoorGyAh
import Derived.Test.YtopghagjmdbglaaGreatDoorGyAa
import Derived.Test.YtopghagjmdbglaaGreatDoorProg
import Derived.RowKit
import Derived.Test.YtopghagjmdbglaaGreatDoorGyAf
import Derived.Test.YtopghagjmdbglaaGreatDoorGyAc
import Derived.Test.YtopghagjmdbglaaGreatDoorGyAg
import Derived.Test.YtopghagjmdbglaaGreatDoorGyAb
import Derived.OwnWalk
import Derived.Laws.AppendOwnNone
import Derived.Laws.OwnMore
import Derived.WalkSmall
import Derived.BigQuiet
import Derived.Deep.QuietTactic
import Derived.Deep.LoopGhost
import Derived.Lib.OthersKept
namespace Go.Proofs.YtopghagjmdbglaaGreatDoor
open Go.RowKit
set_option linter.unusedVariables false
set_option linter.unusedSimpArgs false
set_option maxHeartbeats 8000000
set_option maxRecDepth 20000
section
open Go.BigFrame
theorem zri:(Tryz.prog.info? 3).map (fun i=>(i.zero,i.size,i.bytes))=some (some (.int .i64 0),1,8):=by kernel_rfl
theorem zhQ{zs:List (ByteArray×Int)}{l:List Ex}{k:Nat}(h:k<l.length):tysP zs (l.drop k)=if (tyP zs l[k]).2.1≠0 then ([],(tyP zs l[k]).2) else if (tysP zs (l.drop (k+1))).2.1≠0 then ([],(tysP zs (l.drop (k+1))).2) else ((tyP zs l[k]).1::(tysP zs (l.drop (k+1))).1,0,0):=by
 rw[List.drop_eq_getElem_cons h,tysP]
def tyGo(zs:List (ByteArray×Int))(acc:List Int)(l:List Ex):List Int×Int×Int:=if (tysP zs l).2.1≠0 then ([],(tysP zs l).2) else (acc++(tysP zs l).1,0,0)
theorem znu(zs:List (ByteArray×Int)):∀l:List Ex,(tysP zs l).2.1=0→(tysP zs l).2=(0,0)
 | [],_=>by rw[tysP]
 | x::xs,h=>by
  rw[tysP] at h ⊢
  split
  ·rename_i h1;rw[if_pos h1] at h;exact absurd h h1
  ·rename_i h1
   rw[if_neg h1] at h
   split
   ·rename_i h2;rw[if_pos h2] at h;exact absurd h h2
   ·rfl
theorem zkW(zs:List (ByteArray×Int))(l:List Ex):tyGo zs [] (l.drop 0)=tysP zs l:=by
 rw[List.drop_zero,tyGo]
 split
 ·rename_i h
  cases l with
  | nil=>rw[tysP] at h;exact absurd rfl h
  | cons x xs =>
   rw[tysP] at h ⊢
   split at h
   ·rename_i h1;rw[if_pos h1]
   ·rename_i h1
    rw[if_neg h1]
    split at h
    ·rename_i h2;rw[if_pos h2]
    ·exact absurd rfl h
 ·rename_i h
  have h0:(tysP zs l).2.1=0:=by simpa using h
  rw[List.nil_append,←znu zs l h0]
theorem zpD{zs:List (ByteArray×Int)}{acc:List Int}{l:List Ex}{k:Nat}(h:k<l.length)(hb:(tyP zs l[k]).2.1≠0):tyGo zs acc (l.drop k)=([],(tyP zs l[k]).2):=by
 rw[tyGo,zhQ h,if_pos hb,if_pos hb]
theorem zrY{zs:List (ByteArray×Int)}{acc:List Int}{l:List Ex}{k:Nat}(h:k<l.length)(hb:(tyP zs l[k]).2.1=0):tyGo zs acc (l.drop k)=tyGo zs (acc++[(tyP zs l[k]).1]) (l.drop (k+1)):=by
 have hs:=zhQ (zs:=zs) h
 rw[if_neg (fun hh=>hh hb)] at hs
 rw[tyGo,hs,tyGo]
 by_cases h2:(tysP zs (l.drop (k+1))).2.1=0
 ·simp[h2]
 ·simp[h2]
theorem zqf{zs:List (ByteArray×Int)}{acc:List Int}{l:List Ex}{k:Nat}(h:l.length≤k):tyGo zs acc (l.drop k)=(acc,0,0):=by
 rw[List.drop_eq_nil_of_le h,tyGo,tysP];simp
theorem zuL{zs:List (ByteArray×Int)}{op nm vs:ByteArray}{vt vn pos:Int}{l:List Ex}(h1:op.data.toList≠[118,97,108])(h2:op.data.toList≠[99,111,108]):tyP zs (.node op nm vt vn vs pos l)=if (tysP zs l).2.1≠0 then (0,(tysP zs l).2) else if (ruleP op.data.toList (tysP zs l).1).2≠0 then (0,(ruleP op.data.toList (tysP zs l).1).2,pos) else ((ruleP op.data.toList (tysP zs l).1).1,0,0):=by
 rw[tyP,if_neg h1,if_neg h2]
theorem zkc{d:Nat}{y:Ex}:∀{l:List Ex},y∈l→∀q∈y.pre d,q∈Ex.pres d l
 | [],h,_,_=>absurd h (by simp)
 | x::xs,h,q,hq=>by
  rw[Ex.pres]
  rcases List.mem_cons.1 h with rfl|h
  ·exact List.mem_append.2 (.inl hq)
  ·exact List.mem_append.2 (.inr (zkc h q hq))
theorem ztj{W:World}{B:Nat}{q:Option Addr}{c n:Nat}{ts:List Int}(hn:ts.length=n)(h:W.ownsRow B 3 1 (.slice q n c) n (ts.map fun t=>.int .i64 t)):zdv W q ts:=by
 by_cases h0:ts.length=0
 ·exact .inl h0
 ·refine .inr ?_
  rcases h.2 with ⟨e1,_⟩|⟨g,cap,cur,e1,hb,hg,hm,hx,hs,ht⟩
  ·injection e1 with e1 e2;omega
  ·injection e1 with e1 e2 e3
   subst e1
   refine⟨g,0,rfl,(Array.getElem?_eq_some_iff.1 hg).1,fun j hj=>?_⟩
   have h1:=h.cells (g:=g) rfl j (.int .i64 ts[j]) (by rw[List.getElem?_map,List.getElem?_eq_getElem hj];rfl)
   rw[Go.WideShapes.add_plain] at h1
   simpa using h1
theorem res2{W:World}{b:Nat}{x0 x1:Value}(c0:W.cell? ⟨b,0,none⟩=some x0)(c1:W.cell? ⟨b,1,none⟩=some x1)(hl:b<W.heap.size)(v0 v1:Value)(o:Obj):(((W.setCell ⟨b,0,none⟩ v0).setCell ⟨b,1,none⟩ v1).alloc o).cell? ⟨b,0,none⟩=some v0∧(((W.setCell ⟨b,0,none⟩ v0).setCell ⟨b,1,none⟩ v1).alloc o).cell? ⟨b,1,none⟩=some v1:=by
 rw[World.cell?_alloc_lt _ _ ⟨b,0,none⟩ (by simpa [World.setCell] using hl),World.cell?_alloc_lt _ _ ⟨b,1,none⟩ (by simpa [World.setCell] using hl)]
 constructor<;>simp[World.cell?_setCell_other,World.cell?_setCell_same,c0,c1]
theorem zln(zs:List (ByteArray×Int))(b off c:Nat)(hn:zs.length≤6):∀(x:Ex) (d:Nat) (lo:Nat→Prop) (v:Value) (w:World) (T H P:Int),(∀q∈x.pre d,q.1.args.length≤3)→KEnv w→ExIn w lo v x→zaZ w b off zs→tyP zs x=(T,H,P) →
  Calls Tryz.prog 165 #[v,.slice (some ⟨b,off,none⟩) zs.length c] w fun e w'=>e=.returned (.tuple #[.int .i64 T,.agg #[.int .i64 H,.int .i64 P]])∧Below w.heap.size w w':=by
 refine Ex.ind fun op nm vt vn vs pos l ih d lo v w T H P hpre henv hx hc hR=>?_
 obtain⟨i0,hi,hz0,hz1,hzz⟩:=info_parts zri
 have hxx:=hx
 rw[ExIn] at hx
 obtain⟨p,ca,rfl,⟨hm,hmc⟩,ho,hnm,hvs,hparts⟩:=hx
 have hl3:l.length≤3:=by
  have h:=hpre (.node op nm vt vn vs pos l,d) (by rw[Ex.pre];exact List.mem_cons_self ..)
  exact h
 have hpre2:Hid (∀y∈l,∀q∈y.pre (d+1),q.1.args.length≤3):=fun y hy q hq=>hpre q (by rw[Ex.pre];exact List.mem_cons_of_mem _ (zkc hy q hq))
 have b1:Below w.heap.size w ((w.alloc (.cells #[.string op,.string nm,.int .i64 vt,.int .i64 vn,.string vs,.slice p l.length ca,.int .i64 pos] 30)).alloc (.cells #[.int .i64 0,.int .i64 0] 37)):=((Below.refl _ w).alloc (Nat.le_refl _) _).alloc (by simp) _
 have HEN:Aside (KEnv w):=henv
 have HCO:Aside (zaZ w b off zs):=hc
 by_cases h1:op.data.toList=[118,97,108]
 ·rw[tyP,if_pos h1] at hR
  simp only[Prod.mk.injEq] at hR
  obtain⟨rfl,rfl,rfl⟩:=hR
  have q1:(op.toList == [118,97,108])=true:=by rw[Lib.toList_data];simpa using h1
  clear h1 hpre hpre2 ih henv hc hxx hparts HEN HCO
  go_enter Tryz.func165,Tryz.ntmps165
  go_wp2
  refine bodyPost_ret (v:=.tuple #[.int .i64 vt,.agg #[.int .i64 0,.int .i64 0]]) (by simp[results,Tryz.results165,go_sem]) rfl ⟨rfl,b1⟩
 ·have q1:(op.toList == [118,97,108])=false:=by rw[Lib.toList_data];simpa using h1
  by_cases h2:op.data.toList=[99,111,108]
  ·rw[tyP,if_neg h1,if_pos h2] at hR
   have q2:(op.toList == [99,111,108])=true:=by rw[Lib.toList_data];simpa using h2
   have cT:=zdN _ lo _ b off c zs _ (henv.on b1) (hxx.on b1) hn (hc.on b1) T H P hR
   clear h1 h2 hpre hpre2 ih henv hc hxx hparts HEN HCO hR
   go_enter Tryz.func165,Tryz.ntmps165
   go_wp2_with fail
   refine cT.mono ?_
   rintro e w1 ⟨rfl,b2⟩
   have hz:=b2.size
   simp at hz
   have f0:w1.cell? ⟨w.heap.size+1,0,none⟩=some (.int .i64 0):=by rw[b2.cell (p:=⟨w.heap.size+1,0,none⟩) (by simp),World.cell?_alloc_at _ _ _ _ (by simp)];rfl
   have f1:w1.cell? ⟨w.heap.size+1,1,none⟩=some (.int .i64 0):=by rw[b2.cell (p:=⟨w.heap.size+1,1,none⟩) (by simp),World.cell?_alloc_at _ _ _ _ (by simp)];rfl
   have ff:∀o,w1.frozen? ⟨w.heap.size+1,o,none⟩=false:=fun o=>by rw[b2.frozen (p:=⟨w.heap.size+1,o,none⟩) (by simp),World.frozen?_alloc_at _ _ _ _ (by simp)]
   have hl1:w.heap.size+1<w1.heap.size:=by omega
   have b3:Below w.heap.size w w1:=b1.trans (b2.mono b1.size)
   clear cT b1 b2 hz
   go_wp2
   refine bodyPost_ret (v:=.tuple #[.int .i64 T,.agg #[.int .i64 H,.int .i64 P]]) (by simp[results,Tryz.results165,go_sem,World.cell?_setCell_other,World.cell?_setCell_same,f0,f1]) rfl ⟨rfl,?_⟩
   exact (b3.setCell (p:=⟨w.heap.size+1,0,none⟩) (Nat.le_succ _) _).setCell (p:=⟨w.heap.size+1,1,none⟩) (Nat.le_succ _) _
  ·have q2:(op.toList == [99,111,108])=false:=by rw[Lib.toList_data];simpa using h2
   rw[zuL h1 h2] at hR
   have HR:Hid ((if (tysP zs l).2.1≠0 then (0,(tysP zs l).2) else if (ruleP op.data.toList (tysP zs l).1).2≠0 then (0,(ruleP op.data.toList (tysP zs l).1).2,pos) else ((ruleP op.data.toList (tysP zs l).1).1,0,0))=(T,H,P)):=hR
   have HI:Aside (∀y∈l,∀(d:Nat) (lo:Nat→Prop) (v:Value) (w:World) (T H P:Int),(∀q∈y.pre d,q.1.args.length≤3)→KEnv w→ExIn w lo v y→zaZ w b off zs→tyP zs y=(T,H,P)→Calls Tryz.prog 165 #[v,.slice (some ⟨b,off,none⟩) zs.length c] w fun e w'=>e=.returned (.tuple #[.int .i64 T,.agg #[.int .i64 H,.int .i64 P]])∧Below w.heap.size w w'):=ih
   have HPA:Aside (l.length=0∨∃b off,p=some ⟨b,off,none⟩∧b<w.heap.size∧lo b∧ExsIn w lo b off l):=hparts
   have box:Hid (∀wr,Below (w.heap.size+2) ((w.alloc (.cells #[.string op,.string nm,.int .i64 vt,.int .i64 vn,.string vs,.slice p l.length ca,.int .i64 pos] 30)).alloc (.cells #[.int .i64 0,.int .i64 0] 37)) wr→(wr.cell? ⟨w.heap.size,0,none⟩=some (.string op)∧wr.cell? ⟨w.heap.size,6,none⟩=some (.int .i64 pos))∧(wr.cell? ⟨w.heap.size+1,0,none⟩=some (.int .i64 0)∧wr.cell? ⟨w.heap.size+1,1,none⟩=some (.int .i64 0)∧∀o,wr.frozen? ⟨w.heap.size+1,o,none⟩=false)∧w.heap.size+2≤wr.heap.size∧Below w.heap.size w wr):=fun wr hb=>by
    have hz:=hb.size
    simp at hz
    refine⟨⟨?_,?_⟩,⟨?_,?_,fun o=>?_⟩,by omega,b1.trans (hb.mono (by omega))⟩
    ·rw[hb.cell (p:=⟨w.heap.size,0,none⟩) (by simp),World.cell?_alloc_lt _ _ _ (by simp),World.cell?_alloc_at _ _ _ _ rfl];rfl
    ·rw[hb.cell (p:=⟨w.heap.size,6,none⟩) (by simp),World.cell?_alloc_lt _ _ _ (by simp),World.cell?_alloc_at _ _ _ _ rfl];rfl
    ·rw[hb.cell (p:=⟨w.heap.size+1,0,none⟩) (by simp),World.cell?_alloc_at _ _ _ _ (by simp)];rfl
    ·rw[hb.cell (p:=⟨w.heap.size+1,1,none⟩) (by simp),World.cell?_alloc_at _ _ _ _ (by simp)];rfl
    ·rw[hb.frozen (p:=⟨w.heap.size+1,o,none⟩) (by simp),World.frozen?_alloc_at _ _ _ _ (by simp)]
   have hlz:(l.length:Int)≤3:=by omega
   clear h1 h2 hpre ih henv hc hxx hparts hR
   go_enter Tryz.func165,Tryz.ntmps165
   go_wp2
   go_loopg [6,8,9,10,31] l.length (fun gg s6 _ _ _ s31 wr=>∃(kk:Nat) (acc:List Int) (q:Option Addr) (cp:Nat),kk≤l.length∧l.length-kk≤gg∧s31=.int .i64 kk∧s6=.slice q kk cp∧Aside (wr.ownsRow (w.heap.size+2) 3 1 (.slice q kk cp) kk (acc.map fun t=>.int .i64 t))∧Aside (Below (w.heap.size+2) ((w.alloc (.cells #[.string op,.string nm,.int .i64 vt,.int .i64 vn,.string vs,.slice p l.length ca,.int .i64 pos] 30)).alloc (.cells #[.int .i64 0,.int .i64 0] 37)) wr)∧Hid (tyGo zs acc (l.drop kk)=tysP zs l∧acc.length=kk))
   case atStart=>exact⟨0,[],none,0,Nat.zero_le _,by omega,rfl,rfl,(show Aside _ from ⟨rfl,.inl ⟨rfl,rfl⟩⟩),(show Aside _ from Below.refl _ _),(show Hid _ from ⟨zkW zs l,rfl⟩)⟩
   case round =>
    obtain⟨kk,acc,q,cp,hkk,hg,rfl,rfl,OW,BW,HG⟩:=hrel
    obtain⟨⟨k0,k6⟩,⟨f0,f1,ff⟩,hsz,bwr⟩:=box.out wr BW.out
    have hl0:w.heap.size<wr.heap.size:=by omega
    have hl1:w.heap.size+1<wr.heap.size:=by omega
    by_cases hlt:kk<l.length
    ·have hltz:(kk:Int)<(l.length:Int):=by omega
     have h0z:(0:Int)≤(kk:Int):=by omega
     rcases HPA.out with h|⟨ba,oa,rfl,hbl,hlo,hE⟩
     ·exact absurd h (by omega)
     obtain⟨v0,v1,v2,v3,v4,v5,v6,e0,e1,e2,e3,e4,e5,e6,hy⟩:=zbL w lo ba l oa hE kk hlt
     obtain⟨u0,u1,u2,u3,u4,u5,u6,u7,u8,huu⟩:=hy.agg
     injection huu with huu
     simp only[Array.mk.injEq,List.cons.injEq,and_true] at huu
     obtain⟨rfl,rfl,rfl,rfl,rfl,rfl,rfl⟩:=huu
     have kA:∀o,wr.cell? ⟨ba,o,none⟩=w.cell? ⟨ba,o,none⟩:=fun o=>bwr.cell (p:=⟨ba,o,none⟩) hbl
     rw[←kA] at e0 e1 e2 e3 e4 e5 e6
     have hblr:ba<wr.heap.size:=by have:=bwr.size;omega
     have b3:Below w.heap.size w (wr.alloc (.cells #[.string u0,.string u1,.int .i64 u2,.int .i64 u3,.string u4,.slice u5 u6 u7,.int .i64 u8] 30)):=bwr.alloc bwr.size _
     obtain⟨t,h,pp,hty⟩:∃t h pp,tyP zs l[kk]=(t,h,pp):=⟨_,_,_,rfl⟩
     have cY:=HI.out _ (List.getElem_mem hlt) (d+1) lo _ (wr.alloc (.cells #[.string u0,.string u1,.int .i64 u2,.int .i64 u3,.string u4,.slice u5 u6 u7,.int .i64 u8] 30)) t h pp (hpre2.out _ (List.getElem_mem hlt)) (HEN.out.on b3) (hy.on b3) (HCO.out.on b3) hty
     have HTY:Hid (tyP zs l[kk]=(t,h,pp)):=hty
     have HKL:Hid (kk<l.length):=hlt
     clear hE kA hy hty
     by_cases hh:h=0
     ·subst hh
      have hhb:((0:Int) != 0)=false:=rfl
      have HG2:Hid (tyGo zs (acc++[t]) (l.drop (kk+1))=tysP zs l∧(acc++[t]).length=kk+1):=by
       refine⟨?_,by simp[HG.out.2]⟩
       have h:=zrY (zs:=zs) (acc:=acc) HKL.out (by rw[HTY.out])
       rw[HTY.out] at h
       rw[←h];exact HG.out.1
      clear HG HTY
      go_wp2_with fail
      refine cY.mono ?_
      rintro e w4 ⟨rfl,b4⟩
      have hz4:wr.heap.size+1≤w4.heap.size:=by have:=b4.size;simpa using this
      have b5:Below (w.heap.size+2) wr w4:=((Below.refl _ wr).alloc (by omega) _).trans (b4.mono (by simp;omega))
      have OW4:=zdS (OW.out.alloc (.cells #[.string u0,.string u1,.int .i64 u2,.int .i64 u3,.string u4,.slice u5 u6 u7,.int .i64 u8] 30)) (But.of_below' (r:=0) b4 (Nat.zero_le _)) (by omega)
      have OW5:=OW4.alloc (.cells #[.int .i64 0,.int .i64 pp] 37)
      have BW5:Aside (Below (w.heap.size+2) ((w.alloc (.cells #[.string op,.string nm,.int .i64 vt,.int .i64 vn,.string vs,.slice (some ⟨ba,oa,none⟩) l.length ca,.int .i64 pos] 30)).alloc (.cells #[.int .i64 0,.int .i64 0] 37)) (w4.alloc (.cells #[.int .i64 0,.int .i64 pp] 37))):=(BW.out.trans b5).alloc (by omega) _
      clear cY b4 b3 e0 e1 e2 e3 e4 e5 e6 OW OW4 b5
      go_wp2_with (at_builtin;refine wpList_append_own _ rfl _ _ 22 rfl (w.heap.size+2) 3 i0 (.int .i64 0) 1 8 Tryz.underlying22 hi hz0 hz1 hzz rfl (by decide) _ _ _ rfl (OW5.alloc _) ⟨w4.heap.size+1,0,none⟩ 1 1 [.int .i64 t] rfl rfl ?c1 ?c2 ?c3 ?c4 ?c5 ?_)
      case c1 =>
       intro i u hu
       rw[Go.WideShapes.add_plain,World.cell?_alloc_at _ _ _ _ (by simp)]
       simpa using hu
      case c2 =>
       intro u hu
       simp at hu
       subst hu;rfl
      case c3=>simp[maxLen];omega
      case c4=>omega
      case c5=>simp;omega
      ·intro v' w5 hown' hgrow _
       have hlo3:∀j,(Value.slice q kk cp).ownBlock=some j→w.heap.size+2≤j:=fun j hj=>(OW5.lt j hj).1
       have bg:Below (w.heap.size+2) (w4.alloc (.cells #[.int .i64 0,.int .i64 pp] 37)) w5:=((Below.refl _ _).alloc (by simp;omega) _).grown hgrow (by simp;omega) hlo3
       have BW6:Aside (Below (w.heap.size+2) ((w.alloc (.cells #[.string op,.string nm,.int .i64 vt,.int .i64 vn,.string vs,.slice (some ⟨ba,oa,none⟩) l.length ca,.int .i64 pos] 30)).alloc (.cells #[.int .i64 0,.int .i64 0] 37)) w5):=BW5.out.trans bg
       obtain⟨q5,c5,rfl⟩:=zaa hown'
       have ow6:w5.ownsRow (w.heap.size+2) 3 1 (.slice q5 (kk+1) c5) (kk+1) ((acc++[t]).map fun t=>.int .i64 t):=by rw[List.map_append];exact hown'
       clear hown' hgrow OW5 bg BW5 HI
       go_wp2
       go_roundg (l.length-(kk+1))
       case measure=>have:=HKL.out;omega
       case rel=>exact⟨kk+1,acc++[t],q5,c5,by have:=HKL.out;omega,by omega,by go_num,rfl,(show Aside _ from ow6),BW6,HG2⟩
     ·have hhb:(h != 0)=true:=by simpa using hh
      have hfin:(0,h,pp)=(T,H,P):=by
       rw[←HR.out,←HG.out.1,zpD HKL.out (by rw[HTY.out];exact hh),HTY.out,if_pos hh]
      simp only[Prod.mk.injEq] at hfin
      obtain⟨rfl,rfl,rfl⟩:=hfin
      clear HR HG HI hh
      go_wp2_with fail
      refine cY.mono ?_
      rintro e w4 ⟨rfl,b4⟩
      have g0:w4.cell? ⟨w.heap.size+1,0,none⟩=some (.int .i64 0):=by rw[b4.cell (p:=⟨w.heap.size+1,0,none⟩) (by simp;omega),World.cell?_alloc_lt _ _ _ hl1];exact f0
      have g1:w4.cell? ⟨w.heap.size+1,1,none⟩=some (.int .i64 0):=by rw[b4.cell (p:=⟨w.heap.size+1,1,none⟩) (by simp;omega),World.cell?_alloc_lt _ _ _ hl1];exact f1
      have gf:∀o,w4.frozen? ⟨w.heap.size+1,o,none⟩=false:=fun o=>by rw[b4.frozen (p:=⟨w.heap.size+1,o,none⟩) (by simp;omega),World.frozen?_alloc_past _ _ _ hl1];exact ff o
      have hl4:w.heap.size+1<w4.heap.size:=by have:=b4.size;simp at this;omega
      have b5:Below w.heap.size w w4:=b3.trans (b4.mono b3.size)
      clear cY b4 b3 e0 e1 e2 e3 e4 e5 e6
      go_wp2
      go_region
      all_goals
       go_wp2
       refine bodyPost_ret (v:=.tuple #[.int .i64 0,.agg #[.int .i64 h,.int .i64 pp]]) (by simp[results,Tryz.results165,go_sem,(res2 g0 g1 hl4 (.int .i64 h) (.int .i64 pp) (.cells #[.int .i64 h,.int .i64 pp] 37)).1,(res2 g0 g1 hl4 (.int .i64 h) (.int .i64 pp) (.cells #[.int .i64 h,.int .i64 pp] 37)).2]) rfl ⟨rfl,?_⟩
       exact Below.drew (((b5.setCell (p:=⟨w.heap.size+1,0,none⟩) (Nat.le_succ _) _).setCell (p:=⟨w.heap.size+1,1,none⟩) (Nat.le_succ _) _).alloc (by simp[World.setCell];have:=b5.size;omega) _)
    ·have hltz:¬(kk:Int)<(l.length:Int):=by omega
     have hts:tysP zs l=(acc,0,0):=by rw[←HG.out.1,zqf (by omega)]
     obtain⟨RT,RE,hrr⟩:∃RT RE,ruleP op.data.toList acc=(RT,RE):=⟨_,_,rfl⟩
     have hfin:=HR.out
     rw[hts] at hfin
     simp only at hfin
     rw[if_neg (by simp),hrr] at hfin
     simp only at hfin
     have cR:=zpH op q cp kk acc wr (HEN.out.on bwr).rules HG.out.2 (by omega) (ztj HG.out.2 OW.out) RT RE hrr
     by_cases hE:RE=0
     ·subst hE
      rw[if_neg (by simp)] at hfin
      simp only[Prod.mk.injEq] at hfin
      obtain⟨rfl,rfl,rfl⟩:=hfin
      rw[show errV 0=.nilIface from rfl] at cR
      clear hts hrr HR HG HI OW BW box HPA hpre2 HEN HCO
      go_wp2_with fail
      refine cR.mono ?_
      rintro e w4 ⟨rfl,b4⟩
      have g0:w4.cell? ⟨w.heap.size+1,0,none⟩=some (.int .i64 0):=by rw[b4.cell (p:=⟨w.heap.size+1,0,none⟩) hl1];exact f0
      have g1:w4.cell? ⟨w.heap.size+1,1,none⟩=some (.int .i64 0):=by rw[b4.cell (p:=⟨w.heap.size+1,1,none⟩) hl1];exact f1
      have gf:∀o,w4.frozen? ⟨w.heap.size+1,o,none⟩=false:=fun o=>by rw[b4.frozen (p:=⟨w.heap.size+1,o,none⟩) hl1];exact ff o
      have hl4:w.heap.size+1<w4.heap.size:=by have:=b4.size;omega
      have b5:Below w.heap.size w w4:=bwr.trans (b4.mono bwr.size)
      clear cR b4
      go_wp2
      refine bodyPost_ret (v:=.tuple #[.int .i64 RT,.agg #[.int .i64 0,.int .i64 0]]) (by simp[results,Tryz.results165,go_sem,World.cell?_setCell_other,World.cell?_setCell_same,g0,g1]) rfl ⟨rfl,?_⟩
      exact (b5.setCell (p:=⟨w.heap.size+1,0,none⟩) (Nat.le_succ _) _).setCell (p:=⟨w.heap.size+1,1,none⟩) (Nat.le_succ _) _
     ·rw[if_pos hE] at hfin
      simp only[Prod.mk.injEq] at hfin
      obtain⟨rfl,rfl,rfl⟩:=hfin
      have hU:errV RE=.iface 35 (.int .i64 RE):=if_neg hE
      rw[hU] at cR
      have cP:=fun W (hb:Below w.heap.size w W)=>zbC RE pos W (HEN.out.on hb)
      clear hts hrr HR HG HI OW BW box HPA hpre2 HEN HCO hU hE
      go_wp2_with fail
      refine cR.mono ?_
      rintro e w4 ⟨rfl,b4⟩
      have b5:Below w.heap.size w w4:=bwr.trans (b4.mono bwr.size)
      have j6:w4.cell? ⟨w.heap.size,6,none⟩=some (.int .i64 pos):=by rw[b4.cell (p:=⟨w.heap.size,6,none⟩) hl0];exact k6
      have hl40:w.heap.size<w4.heap.size:=by have:=b4.size;omega
      go_wp2_with fail
      refine (cP _ b5).mono ?_
      rintro e w5 ⟨rfl,b6⟩
      have hl4:w.heap.size+1<w4.heap.size:=by have:=b4.size;omega
      have g0:w5.cell? ⟨w.heap.size+1,0,none⟩=some (.int .i64 0):=by rw[b6.cell (p:=⟨w.heap.size+1,0,none⟩) hl4,b4.cell (p:=⟨w.heap.size+1,0,none⟩) hl1];exact f0
      have g1:w5.cell? ⟨w.heap.size+1,1,none⟩=some (.int .i64 0):=by rw[b6.cell (p:=⟨w.heap.size+1,1,none⟩) hl4,b4.cell (p:=⟨w.heap.size+1,1,none⟩) hl1];exact f1
      have gf:∀o,w5.frozen? ⟨w.heap.size+1,o,none⟩=false:=fun o=>by rw[b6.frozen (p:=⟨w.heap.size+1,o,none⟩) hl4,b4.frozen (p:=⟨w.heap.size+1,o,none⟩) hl1];exact ff o
      have hl5:w.heap.size+1<w5.heap.size:=by have:=b6.size;omega
      have b7:Below w.heap.size w w5:=b5.trans (b6.mono b5.size)
      clear cR cP b4 b6
      go_wp2
      refine bodyPost_ret (v:=.tuple #[.int .i64 0,.agg #[.int .i64 RE,.int .i64 pos]]) (by simp[results,Tryz.results165,go_sem,World.cell?_setCell_other,World.cell?_setCell_same,g0,g1]) rfl ⟨rfl,?_⟩
      exact (b7.setCell (p:=⟨w.heap.size+1,0,none⟩) (Nat.le_succ _) _).setCell (p:=⟨w.heap.size+1,1,none⟩) (Nat.le_succ _) _
theorem zoK:∀(l:List (Ex×Nat)) (s:Int),s=0→(foldP fck s l).1=0→∀q∈l,nodeE q.1=0
 | [],_,_,_,q,hq=>absurd hq (by simp)
 | p::r,s,hs,h,q,hq=>by
  rw[foldP] at h
  by_cases h0:nodeE p.1=0
  ·have h1:(fck s p.1 p.2).2=true:=by rw[fck];simpa using h0
   rw[if_pos h1] at h
   rcases List.mem_cons.1 hq with rfl|hq
   ·exact h0
   ·exact zoK r _ (by rw[fck];exact h0) h q hq
  ·have h1:¬(fck s p.1 p.2).2=true:=by rw[fck];simpa using h0
   rw[if_neg h1] at h
   exact absurd h h0
theorem zoN:∀(l:List (Ex×Nat)) (s:Nat),(foldP ftg s l).2=true↔(l=[]∨s+l.length≤200)∧∀q∈l,q.2≤30
 | [],s=>by simp[foldP]
 | p::r,s=>by
  rw[foldP]
  by_cases h:(ftg s p.1 p.2).2=true
  ·rw[if_pos h,zoN r]
   rw[ftg] at h ⊢
   simp at h ⊢
   constructor
   ·rintro ⟨h1,h2⟩
    refine⟨?_,h.2,h2⟩
    rcases h1 with rfl|h1
    ·simp;omega
    ·omega
   ·rintro ⟨h1,h2,h3⟩
    exact⟨.inr (by omega),h3⟩
  ·rw[if_neg h]
   rw[ftg] at h
   simp at h ⊢
   intro h1 h2
   have:=h (by omega)
   omega
theorem zqs{x:Ex}(h:ckP x=0):tgB x=false∧∀q∈x.pre 1,nodeE q.1=0:=by
 rw[ckP] at h
 cases ht:tgB x
 ·rw[ht,if_neg (by simp)] at h
  exact⟨rfl,zoK _ 0 rfl h⟩
 ·rw[ht,if_pos rfl] at h
  exact absurd h (by decide)
theorem zve(x:List UInt8):(apL x opsL).2=true→(apL x opsL).1≤3∧0≤(apL x opsL).1:=by
 have h:∀l:List (List UInt8×Int),(∀o∈l,o.2≤3∧0≤o.2)→(apL x l).2=true→(apL x l).1≤3∧0≤(apL x l).1:=fun l=>by
  induction l with
  | nil=>intro _ h;simp[apL] at h
  | cons o os ih =>
   intro ho
   rw[apL]
   split
   ·exact fun _=>ho o (List.mem_cons_self ..)
   ·exact ih fun q hq=>ho q (List.mem_cons_of_mem _ hq)
 exact h opsL (by decide)
theorem zrF{x:Ex}(h:nodeE x=0):(apL x.op.data.toList opsL).2=true∧(x.args.length:Int)=(apL x.op.data.toList opsL).1∧((x.op.toList == [118,97,108])=true→ckV x.vt x.vn x.vs.data.toList=0):=by
 rw[nodeE,nodeB] at h
 split at h
 ·exact absurd h (by decide)
 ·rename_i h1
  split at h
  ·exact absurd h (by decide)
  ·rename_i h2
   simp at h1 h2
   refine⟨h1.1,?_,fun hv=>?_⟩
   ·have:=h2.1
    simpa using this
   ·rwa [if_pos hv] at h
theorem zrl{x:Ex}(h:ckP x=0):∀q∈x.pre 1,q.1.args.length≤3:=fun q hq=>by
 obtain⟨h1,h2,_⟩:=zrF ((zqs h).2 q hq)
 have:=zve _ h1
 omega
end
def ColsV(w:World)(v:Value)(zs:List (ByteArray×Int)):Prop:=∃q c,v=.slice q zs.length c∧(zs.length=0∨∃b off,q=some ⟨b,off,none⟩∧zs.length≤c∧(∀z∈zs,z.1.size≤maxLen)∧zaZ w b off zs)
theorem ColsV.on{w w':World}{v:Value}{zs:List (ByteArray×Int)}(h:ColsV w v zs)(hb:Below w.heap.size w w'):ColsV w' v zs:=by
 obtain⟨q,c,e,h⟩:=h
 refine⟨q,c,e,?_⟩
 rcases h with h|⟨b,off,e2,h1,h2,h3⟩
 ·exact .inl h
 ·exact .inr ⟨b,off,e2,h1,h2,h3.on hb⟩
theorem ziJ(v:Value)(zs:List (ByteArray×Int))(w:World)(hw:TW w)(h:ColsV w v zs):Calls Tryz.prog 66 #[v] w fun e w'=>e=.returned (errV (schE zs))∧Below w.heap.size w w':=by
 obtain⟨q,c,rfl,h⟩:=h
 rcases h with h|⟨b,off,rfl,h1,h2,h3⟩
 ·rw[h,schE,if_pos h]
  exact (zel q c w).mono fun e w' hh=>⟨hh.1,by rw[hh.2];exact Below.refl _ _⟩
 ·exact zlo b off c zs w hw h1 h2 h3
section
open Go.BigFrame
def ofP(zs:List (ByteArray×Int))(x:Ex):Int×Int×Int:=if ckP x≠0 then (0,ckP x,0) else if schE zs≠0 then (0,schE zs,0) else tyP zs x
theorem zvc(x:Ex)(lo:Nat→Prop)(v vl:Value)(zs:List (ByteArray×Int))(w:World)(henv:KEnv w)(hx:ExIn w lo v x)(hsz:(x.pre 1).length≤1048576)(hcv:ColsV w vl zs)(T H P:Int)(hR:ofP zs x=(T,H,P)) :
  Calls Tryz.prog 129 #[v,vl] w fun e w'=>e=.returned (.tuple #[.int .i64 T,.agg #[.int .i64 H,.int .i64 P]])∧Below w.heap.size w w':=by
 obtain⟨o1,n1,t1,k1,s1,p1,m1,c1,a1,rfl⟩:=hx.agg
 obtain⟨q,c,hvl,hcols⟩:=id hcv
 have b1:Below w.heap.size w ((w.alloc (.cells #[.string o1,.string n1,.int .i64 t1,.int .i64 k1,.string s1,.slice p1 m1 c1,.int .i64 a1] 30)).alloc (.cells #[.int .i64 0,.int .i64 0] 37)):=((Below.refl _ w).alloc (Nat.le_refl _) _).alloc (by simp) _
 have key:∀w1,Below ((w.alloc (.cells #[.string o1,.string n1,.int .i64 t1,.int .i64 k1,.string s1,.slice p1 m1 c1,.int .i64 a1] 30)).alloc (.cells #[.int .i64 0,.int .i64 0] 37)).heap.size ((w.alloc (.cells #[.string o1,.string n1,.int .i64 t1,.int .i64 k1,.string s1,.slice p1 m1 c1,.int .i64 a1] 30)).alloc (.cells #[.int .i64 0,.int .i64 0] 37)) w1→(∀i,w1.cell? ⟨w.heap.size,i,none⟩=(#[.string o1,.string n1,.int .i64 t1,.int .i64 k1,.string s1,.slice p1 m1 c1,.int .i64 a1]:Array Value)[i]?)∧w1.cell? ⟨w.heap.size+1,0,none⟩=some (.int .i64 0)∧w1.cell? ⟨w.heap.size+1,1,none⟩=some (.int .i64 0)∧(∀o,w1.frozen? ⟨w.heap.size+1,o,none⟩=false)∧w.heap.size+1<w1.heap.size:=fun w1 b2=>by
  have hz:=b2.size
  simp at hz
  refine⟨fun i=>?_,?_,?_,fun o=>?_,by omega⟩
  ·rw[b2.cell (p:=⟨w.heap.size,i,none⟩) (by simp;omega),World.cell?_alloc_lt _ _ _ (by simp),World.cell?_alloc_at _ _ _ _ rfl]
  ·rw[b2.cell (p:=⟨w.heap.size+1,0,none⟩) (by simp),World.cell?_alloc_at _ _ _ _ (by simp)];rfl
  ·rw[b2.cell (p:=⟨w.heap.size+1,1,none⟩) (by simp),World.cell?_alloc_at _ _ _ _ (by simp)];rfl
  ·rw[b2.frozen (p:=⟨w.heap.size+1,o,none⟩) (by simp),World.frozen?_alloc_at _ _ _ _ (by simp)]
 have cC:=zgn x lo _ _ (henv.on b1).tenv (hx.on b1) hsz
 have HEN:Aside (KEnv w):=henv
 rw[ofP] at hR
 by_cases hck:ckP x=0
 ·rw[if_neg (fun h=>h hck)] at hR
  rw[hck,show errV 0=.nilIface from rfl] at cC
  have cS:=fun W (hb:Below w.heap.size w W)=>ziJ vl zs W (henv.on hb).tw (hcv.on hb)
  by_cases hsc:schE zs=0
  ·rw[if_neg (fun h=>h hsc)] at hR
   rw[hsc,show errV 0=.nilIface from rfl] at cS
   obtain⟨hz1,hz2,_⟩:=zde hsc
   rcases hcols with h|⟨b,off,rfl,_,_,hco⟩
   ·exact absurd h hz1
   subst hvl
   have cT:=fun W (hb:Below w.heap.size w W)=>zln zs b off c hz2 x 1 lo _ W T H P (zrl hck) (henv.on hb) (hx.on hb) (hco.on hb) hR
   clear hck hR hsc hz1 henv hx hcv hco hsz HEN
   go_enter Tryz.func129,Tryz.ntmps129
   go_wp2_with fail
   refine cC.mono ?_
   rintro e w1 ⟨rfl,b2⟩
   have b3:Below w.heap.size w w1:=b1.trans (b2.mono b1.size)
   go_wp2_with fail
   refine (cS _ b3).mono ?_
   rintro e w2 ⟨rfl,b4⟩
   have b5:Below w.heap.size w w2:=b3.trans (b4.mono b3.size)
   obtain⟨gB,_,_,_,hlX⟩:=key w2 (b2.trans (b4.mono b2.size))
   have g0:w2.cell? ⟨w.heap.size,0,none⟩=some (.string o1):=gB 0
   have g1:w2.cell? ⟨w.heap.size,1,none⟩=some (.string n1):=gB 1
   have g2:w2.cell? ⟨w.heap.size,2,none⟩=some (.int .i64 t1):=gB 2
   have g3:w2.cell? ⟨w.heap.size,3,none⟩=some (.int .i64 k1):=gB 3
   have g4:w2.cell? ⟨w.heap.size,4,none⟩=some (.string s1):=gB 4
   have g5:w2.cell? ⟨w.heap.size,5,none⟩=some (.slice p1 m1 c1):=gB 5
   have g6:w2.cell? ⟨w.heap.size,6,none⟩=some (.int .i64 a1):=gB 6
   have hl0:w.heap.size<w2.heap.size:=by omega
   clear gB
   go_wp2_with fail
   refine (cT _ b5).mono ?_
   rintro e w3 ⟨rfl,b6⟩
   obtain⟨_,f0,f1,ff,hl⟩:=key w3 ((b2.trans (b4.mono b2.size)).trans (b6.mono (Nat.le_trans b2.size b4.size)))
   have b7:Below w.heap.size w w3:=b5.trans (b6.mono b5.size)
   clear key cC cS cT b1 b2 b3 b4 b5 b6
   go_wp2
   refine bodyPost_ret (v:=.tuple #[.int .i64 T,.agg #[.int .i64 H,.int .i64 P]]) (by simp[results,Tryz.results129,go_sem,World.cell?_setCell_other,World.cell?_setCell_same,f0,f1]) rfl ⟨rfl,?_⟩
   exact (b7.setCell (p:=⟨w.heap.size+1,0,none⟩) (Nat.le_succ _) _).setCell (p:=⟨w.heap.size+1,1,none⟩) (Nat.le_succ _) _
  ·rw[if_pos hsc] at hR
   simp only[Prod.mk.injEq] at hR
   obtain⟨rfl,rfl,rfl⟩:=hR
   have hU:errV (schE zs)=.iface 35 (.int .i64 (schE zs)):=if_neg hsc
   rw[hU] at cS
   subst hvl
   clear hck hsc henv hx hcv hcols hsz hU
   generalize schE zs=SC at *
   go_enter Tryz.func129,Tryz.ntmps129
   go_wp2_with fail
   refine cC.mono ?_
   rintro e w1 ⟨rfl,b2⟩
   have b3:Below w.heap.size w w1:=b1.trans (b2.mono b1.size)
   go_wp2_with fail
   refine (cS _ b3).mono ?_
   rintro e w2 ⟨rfl,b4⟩
   have b5:Below w.heap.size w w2:=b3.trans (b4.mono b3.size)
   have cP:=zbC SC 0 w2 (HEN.out.on b5)
   go_wp2_with fail
   refine cP.mono ?_
   rintro e w3 ⟨rfl,b6⟩
   obtain⟨_,f0,f1,ff,hl⟩:=key w3 ((b2.trans (b4.mono b2.size)).trans (b6.mono (Nat.le_trans b2.size b4.size)))
   have b7:Below w.heap.size w w3:=b5.trans (b6.mono b5.size)
   clear key cC cS cP b1 b2 b3 b4 b5 b6
   go_wp2
   refine bodyPost_ret (v:=.tuple #[.int .i64 0,.agg #[.int .i64 SC,.int .i64 0]]) (by simp[results,Tryz.results129,go_sem,World.cell?_setCell_other,World.cell?_setCell_same,f0,f1]) rfl ⟨rfl,?_⟩
   exact (b7.setCell (p:=⟨w.heap.size+1,0,none⟩) (Nat.le_succ _) _).setCell (p:=⟨w.heap.size+1,1,none⟩) (Nat.le_succ _) _
 ·rw[if_pos hck] at hR
  simp only[Prod.mk.injEq] at hR
  obtain⟨rfl,rfl,rfl⟩:=hR
  have hU:errV (ckP x)=.iface 35 (.int .i64 (ckP x)):=if_neg hck
  rw[hU] at cC
  subst hvl
  clear hck henv hx hcv hcols hsz hU
  generalize ckP x=SC at *
  go_enter Tryz.func129,Tryz.ntmps129
  go_wp2_with fail
  refine cC.mono ?_
  rintro e w1 ⟨rfl,b2⟩
  have b3:Below w.heap.size w w1:=b1.trans (b2.mono b1.size)
  have cP:=zbC SC 0 w1 (HEN.out.on b3)
  go_wp2_with fail
  refine cP.mono ?_
  rintro e w3 ⟨rfl,b6⟩
  obtain⟨_,f0,f1,ff,hl⟩:=key w3 (b2.trans (b6.mono b2.size))
  have b7:Below w.heap.size w w3:=b3.trans (b6.mono b3.size)
  clear key cC cP b1 b2 b3 b6
  go_wp2
  refine bodyPost_ret (v:=.tuple #[.int .i64 0,.agg #[.int .i64 SC,.int .i64 0]]) (by simp[results,Tryz.results129,go_sem,World.cell?_setCell_other,World.cell?_setCell_same,f0,f1]) rfl ⟨rfl,?_⟩
  exact (b7.setCell (p:=⟨w.heap.size+1,0,none⟩) (Nat.le_succ _) _).setCell (p:=⟨w.heap.size+1,1,none⟩) (Nat.le_succ _) _
end
def prg(s d:Int)(n:Nat):List Int:=(List.range n).map fun (i:Nat)=>s+(i:Int)*d
theorem zkO(s d:Int)(n:Nat):(prg s d n).length=n:=by simp[prg]
def wdB(size slide:Int):Prop:=1≤size∧size≤1000∧1≤slide∧slide≤size∧size≤10*slide
instance (size slide:Int):Decidable (wdB size slide):=by unfold wdB;infer_instance
def wdE(size slide:Int):Int:=if wdB size slide then 0 else 1
def stN(at_ size slide:Int):Nat:=min (at_ / slide+1).toNat ((size-1-at_ % slide) / slide+1).toNat
def stS(at_ size slide:Int):Int:=(at_ / slide+1-(stN at_ size slide:Int))*slide
def stP(at_ size slide:Int):List Int:=prg (stS at_ size slide) slide (stN at_ size slide)
def stE(at_ size slide:Int):Int:=if wdB size slide∧0≤at_∧at_≤1000000 then 0 else 1
def dnK(a size slide:Int):Int:=if a<size then 0 else (a-size) / slide+1
instance (a b:Int):Decidable (dnR a b):=by unfold dnR;infer_instance
theorem zav{a d:Int}(hd:0<d):a / d*d≤a∧a<a / d*d+d:=by
 have h1:=Int.emod_add_mul_ediv a d
 have h2:=Int.emod_nonneg a (by omega:d≠0)
 have h3:=Int.emod_lt_of_pos a hd
 rw[Int.mul_comm] at h1
 omega
theorem znE{at_ size slide:Int}(hw:wdB size slide)(h0:0≤at_)(k:Int) :
  (at_ / slide+1-(stN at_ size slide:Int)≤k∧k≤at_ / slide)↔(0≤k∧k*slide≤at_∧at_<k*slide+size):=by
 obtain⟨s1,s2,s3,s4,s5⟩:=hw
 have hd:0<slide:=by omega
 obtain⟨d1,d2⟩:=zav (a:=at_) hd
 have q0:0≤at_ / slide:=Int.ediv_nonneg h0 (by omega)
 have hr:at_ % slide=at_-at_ / slide*slide:=by
  have:=Int.emod_add_mul_ediv at_ slide
  rw[Int.mul_comm] at this
  omega
 obtain⟨r1,r2⟩:=zav (a:=size-1-at_ % slide) hd
 have rq:0≤(size-1-at_ % slide) / slide:=Int.ediv_nonneg (by omega) (by omega)
 have hN:(stN at_ size slide:Int)=min (at_ / slide+1) ((size-1-at_ % slide) / slide+1):=by
  rw[stN];omega
 generalize hQ:at_ / slide=Q at *
 generalize hV:(size-1-at_ % slide) / slide=V at *
 rw[hN]
 have up:k≤Q↔k*slide≤at_:=by
  constructor
  ·intro h
   have:=Int.mul_le_mul_of_nonneg_right h (by omega:0≤slide)
   omega
  ·intro h
   by_cases hk:k≤Q
   ·exact hk
   ·have:=Int.mul_le_mul_of_nonneg_right (show Q+1≤k by omega) (by omega:0≤slide)
    rw[Int.add_mul] at this
    omega
 have dn:Q-V≤k↔at_<k*slide+size:=by
  have key:(Q-V)*slide=Q*slide-V*slide:=Int.sub_mul ..
  constructor
  ·intro h
   have:=Int.mul_le_mul_of_nonneg_right h (by omega:0≤slide)
   rw[key] at this
   omega
  ·intro h
   by_cases hk:Q-V≤k
   ·exact hk
   ·have:=Int.mul_le_mul_of_nonneg_right (show k≤Q-V-1 by omega) (by omega:0≤slide)
    rw[Int.sub_mul,key] at this
    omega
 constructor
 ·rintro ⟨h1,h2⟩
  exact⟨by omega,up.1 h2,dn.1 (by omega)⟩
 ·rintro ⟨h1,h2,h3⟩
  have hu:=up.2 h2
  have hd':=dn.2 h3
  exact⟨by omega,hu⟩
theorem zsZ{at_ size slide:Int}(hw:wdB size slide)(h0:0≤at_):1≤stN at_ size slide:=by
 have hd:0<slide:=by have:=hw.2.2.1;omega
 obtain⟨d1,d2⟩:=zav (a:=at_) hd
 have q0:0≤at_ / slide:=Int.ediv_nonneg h0 (by omega)
 have:=(znE hw h0 (at_ / slide)).2 ⟨q0,d1,by have:=hw.2.2.2.1;omega⟩
 omega
theorem zvB{a b size slide:Int}(hw:wdB size slide)(k:Int):(dnK a size slide≤k∧k<dnK a size slide+(dnN a b size slide:Int))↔(0≤k∧a<k*slide+size∧k*slide+size≤b∧dnK a size slide≤k):=by
 obtain⟨s1,s2,s3,s4,s5⟩:=hw
 have hd:0<slide:=by omega
 have k0:0≤dnK a size slide:=by
  rw[dnK]
  split
  ·omega
  ·have:0≤(a-size) / slide:=Int.ediv_nonneg (by omega) (by omega)
   omega
 have lo:dnK a size slide≤k→a<k*slide+size:=fun h=>by
  rw[dnK] at h
  split at h
  ·have:=Int.mul_le_mul_of_nonneg_right h (by omega:0≤slide)
   omega
  ·obtain⟨e1,e2⟩:=zav (a:=a-size) hd
   have:=Int.mul_le_mul_of_nonneg_right h (by omega:0≤slide)
   rw[Int.add_mul] at this
   omega
 constructor
 ·rintro ⟨h1,h2⟩
  refine⟨by omega,lo h1,?_,h1⟩
  rw[dnN] at h2
  split at h2
  ·omega
  ·obtain⟨e1,e2⟩:=zav (a:=b-size) hd
   have:=Int.mul_le_mul_of_nonneg_right (show k≤(b-size) / slide by omega) (by omega:0≤slide)
   omega
 ·rintro ⟨h1,h2,h3,h4⟩
  refine⟨h4,?_⟩
  have hk0:=Int.mul_nonneg h1 (by omega:0≤slide)
  rw[dnN,if_neg (by omega)]
  obtain⟨e1,e2⟩:=zav (a:=b-size) hd
  have:k≤(b-size) / slide:=by
   by_cases hc:k≤(b-size) / slide
   ·exact hc
   ·have:=Int.mul_le_mul_of_nonneg_right (show (b-size) / slide+1≤k by omega) (by omega:0≤slide)
    rw[Int.add_mul] at this
    omega
  omega
theorem zsc{a size slide:Int}(hw:wdB size slide)(k:Int):dnK a size slide≤k↔(0≤k∧a<k*slide+size):=by
 obtain⟨s1,s2,s3,s4,s5⟩:=hw
 have hd:0<slide:=by omega
 constructor
 ·intro h
  rw[dnK] at h
  split at h
  ·have:=Int.mul_le_mul_of_nonneg_right h (by omega:0≤slide)
   omega
  ·obtain⟨e1,e2⟩:=zav (a:=a-size) hd
   have:0≤(a-size) / slide:=Int.ediv_nonneg (by omega) (by omega)
   have:=Int.mul_le_mul_of_nonneg_right h (by omega:0≤slide)
   rw[Int.add_mul] at this
   omega
 ·rintro ⟨h1,h2⟩
  rw[dnK]
  split
  ·exact h1
  ·obtain⟨e1,e2⟩:=zav (a:=a-size) hd
   by_cases hc:(a-size) / slide+1≤k
   ·exact hc
   ·have:=Int.mul_le_mul_of_nonneg_right (show k≤(a-size) / slide by omega) (by omega:0≤slide)
    omega
theorem zsp{at_ size slide:Int}(hw:wdB size slide)(h0:0≤at_):dnK at_ size slide=at_ / slide+1-(stN at_ size slide:Int):=by
 have hp:=zsZ hw h0
 have h1:=(znE hw h0 (at_ / slide+1-(stN at_ size slide:Int))).1 ⟨by omega,by omega⟩
 have h2:=(zsc (a:=at_) hw _).2 ⟨h1.1,h1.2.2⟩
 have h3:=(zsc (a:=at_) hw _).1 (Int.le_refl _)
 have hm:dnK at_ size slide*slide≤at_:=by
  have:=Int.mul_le_mul_of_nonneg_right h2 (show 0≤slide by have:=hw.2.2.1;omega)
  omega
 have h4:=(znE hw h0 _).2 ⟨h3.1,hm,h3.2⟩
 omega
theorem zqR{at_ size slide:Int}(hw:wdB size slide)(h0:0≤at_):stN at_ size slide≤10:=by
 obtain⟨s1,s2,s3,s4,s5⟩:=hw
 have hd:0<slide:=by omega
 have hr:=Int.emod_nonneg at_ (by omega:slide≠0)
 have hq:(size-1-at_ % slide) / slide<10:=Int.ediv_lt_of_lt_mul hd (by omega)
 rw[stN]
 omega
theorem ztI{at_ size slide:Int}(hw:wdB size slide)(h0:0≤at_){i:Nat}(h:i<stN at_ size slide):0≤stS at_ size slide+(i:Int)*slide∧stS at_ size slide+(i:Int)*slide≤at_∧at_<stS at_ size slide+(i:Int)*slide+size:=by
 have:=(znE hw h0 (at_ / slide+1-(stN at_ size slide:Int)+(i:Int))).1 ⟨by omega,by omega⟩
 rw[Int.add_mul] at this
 have hnn:=Int.mul_nonneg this.1 (show 0≤slide by have:=hw.2.2.1;omega)
 rw[Int.add_mul] at hnn
 rw[stS]
 exact⟨hnn,this.2.1,this.2.2⟩
structure Ag where
 what:ByteArray
 arg:Ex
 name:ByteArray
structure Qy where
 frm:ByteArray
 whr:Ex
 cols:List Ex
 names:List ByteArray
 group:List ByteArray
 size:Int
 slide:Int
 aggs:List Ag
abbrev Cl:=ByteArray×Int
def readE(ts:List Tok):Option Ex×List Tok:=uE (ts.length*8+8) 0 ts
def zgI(ts:List Tok)(en:Nat):Nat:=match ts with
 | []=>en
 | t::_=>t.2.2
def nuI(l:List UInt8):Int:=(val10 l:Nat)
abbrev zaR:List UInt8:=[115,101,108,101,99,116]
abbrev wAs:List UInt8:=[97,115]
abbrev wFrom:List UInt8:=[102,114,111,109]
abbrev zeP:List UInt8:=[119,104,101,114,101]
abbrev zcd:List UInt8:=[103,114,111,117,112]
abbrev wBy:List UInt8:=[98,121]
abbrev zce:List UInt8:=[119,105,110,100,111,119]
abbrev zgf:List UInt8:=[115,108,105,100,101]
abbrev zcQ:List UInt8:=[99,111,117,110,116]
def thU{α β:Type}(a:Option α×List Tok)(f:α→List Tok→Option β×List Tok):Option β×List Tok:=match a with
 | (some x,rs)=>f x rs
 | (none,rs)=>(none,rs)
def jU(g:List UInt8)(ts:List Tok):Option Unit×List Tok:=match nxT (sgT [g]) ts with
 | some (_,rs)=>(some (),rs)
 | none=>(none,ts)
def nU(ts:List Tok):Option ByteArray×List Tok:=match nxT nmT ts with
 | some (t,rs)=>(some t.2.1,rs)
 | none=>(none,ts)
def isNum(t:Tok):Bool:=decide (t.1=2)
def iU(ts:List Tok):Option Int×List Tok:=match nxT isNum ts with
 | some (t,rs)=>(some (nuI t.2.1.data.toList),rs)
 | none=>(none,ts)
def asU(ts:List Tok):Option ByteArray×List Tok:=thU (jU wAs ts) fun _ rs=>nU rs
def colU(ts:List Tok):Option (Ex×ByteArray)×List Tok:=thU (readE ts) fun x rs=>thU (asU rs) fun n rs=>(some (x,n),rs)
def agB(t:Tok):Bool:=isAg t.2.1.data.toList
def brU(ts:List Tok):Option Ex×List Tok:=thU (jU [40] ts) fun _ rs=>thU (readE rs) fun x rs=>thU (jU [41] rs) fun _ rs=>(some x,rs)
def argU(what:List UInt8)(ts:List Tok):Option Ex×List Tok:=if what=zcQ then (some ex0,ts) else brU ts
def aggU(ts:List Tok):Option Ag×List Tok:=match nxT agB ts with
 | some (t,rs)=>thU (argU t.2.1.data.toList rs) fun x rs=>thU (asU rs) fun n rs=>(some ⟨t.2.1,x,n⟩,rs)
 | none=>(none,ts)
def sevU{α:Type}(part:List Tok→Option α×List Tok):Nat→List α→List Tok→Option (List α)×List Tok
 | 0,_,ts=>(none,ts)
 | k+1,acc,ts=>match part ts with
  | (none,rs)=>(none,rs)
  | (some x,rs)=>match nxT (sgT [[44]]) rs with
   | some (_,rs')=>sevU part k (acc++[x]) rs'
   | none=>(some (acc++[x]),rs)
def nextB(P:Tok→Bool)(ts:List Tok):Bool:=match ts with
 | []=>false
 | t::_=>P t
def whU(ts:List Tok):Option Ex×List Tok:=match nxT (sgT [zeP]) ts with
 | some (_,rs)=>readE rs
 | none=>(some ex0,ts)
def slU(sz:Int)(ts:List Tok):Option Int×List Tok:=match nxT (sgT [zgf]) ts with
 | some (_,rs)=>iU rs
 | none=>(some sz,ts)
def frU(ts:List Tok):Option (ByteArray×Ex)×List Tok:=thU (jU wFrom ts) fun _ rs=>thU (nU rs) fun f rs=>thU (whU rs) fun x rs=>(some (f,x),rs)
def grU(ts:List Tok):Option (List ByteArray×Int×Int)×List Tok :=
 thU (jU zcd ts) fun _ rs=>thU (jU wBy rs) fun _ rs=>thU (sevU nU (rs.length+1) [] rs) fun g rs=>thU (jU zce rs) fun _ rs=>thU (iU rs) fun z rs=>thU (slU z rs) fun s rs=>(some (g,z,s),rs)
def qOneU(ts:List Tok):Option Qy×List Tok:=thU (sevU colU (ts.length+1) [] ts) fun c rs=>thU (frU rs) fun f rs=>(some ⟨f.1,f.2,c.map (·.1),c.map (·.2),[],0,0,[]⟩,rs)
def qTwoU(ts:List Tok):Option Qy×List Tok:=thU (sevU aggU (ts.length+1) [] ts) fun a rs=>thU (frU rs) fun f rs=>thU (grU rs) fun g rs=>(some ⟨f.1,f.2,[],[],g.1,g.2.1,g.2.2,a⟩,rs)
def qU(ts:List Tok):Option Qy×List Tok:=thU (jU zaR ts) fun _ rs=>if nextB agB rs=true then qTwoU rs else qOneU rs
def qyZ:Qy:=⟨⟨#[]⟩,ex0,[],[],[],0,0,[]⟩
def exsQ(q:Qy):List Ex:=q.whr::(q.cols++q.aggs.map (·.arg))
def noOp(x:Ex):Bool:=decide (x.op.data.toList=[])
def ofT(zs:List Cl)(x:Ex):Int×Int:=if (ofP zs x).2.1≠0 then (0,(ofP zs x).2.1) else ((ofP zs x).1,0)
def grT(zs:List Cl)(ahead:List ByteArray)(g:ByteArray):Int×Int :=
 if findN g.data.toList zs<0 then (0,5) else if (ahead.any fun a=>a.data.toList == g.data.toList)=true then (0,7) else ((zs[(findN g.data.toList zs).toNat]?.getD (⟨#[]⟩,0)).2,0)
def agQ(zs:List Cl)(a:Ag):Int×Int :=
 if isAg a.what.data.toList=false then (0,2)
 else if a.what.data.toList=zcQ then (if noOp a.arg=true then (1,0) else (0,3))
 else if (ofP zs a.arg).2.1≠0 then (0,(ofP zs a.arg).2.1)
 else if a.what.data.toList=[115,117,109]∧(ofP zs a.arg).1≠1 then (0,8)
 else ((ofP zs a.arg).1,0)
def zbo(q:Qy):List ByteArray:=q.names++(q.group++q.aggs.map (·.name))
def tyAt(zs:List Cl)(q:Qy)(i:Nat):Int×Int :=
 if i<q.cols.length then ofT zs (q.cols[i]?.getD ex0)
 else if i<q.group.length then grT zs (q.group.take i) (q.group[i]?.getD ⟨#[]⟩)
 else agQ zs (q.aggs[i-q.group.length]?.getD ⟨⟨#[]⟩,ex0,⟨#[]⟩⟩)
def clQ(zs:List Cl)(q:Qy):Nat→List Cl→List ByteArray→List Cl×Int
 | _,out,[]=>(out,0)
 | i,out,n::ns=>if (tyAt zs q i).2≠0 then ([],(tyAt zs q i).2) else clQ zs q (i+1) (out++[(n,(tyAt zs q i).1)]) ns
def togQ(q:Qy):Bool :=
 if q.size≠0 then decide (q.cols.length=0)&&decide (q.names.length=0)
 else decide (q.slide=0)&&(decide (q.aggs.length=0)&&(decide (q.group.length=0)&&decide (q.names.length=q.cols.length)))
def formQ(q:Qy):Int :=
 if togQ q=false then 3
 else if q.size≠0∧¬wdB q.size q.slide then 1
 else if q.cols.length+q.group.length+q.aggs.length=0 then 5
 else if 6<q.cols.length+q.group.length+q.aggs.length then 4
 else 0
def whQ(zs:List Cl)(x:Ex):Int:=if noOp x=true then 0 else if (ofP zs x).2.1≠0 then (ofP zs x).2.1 else if (ofP zs x).1≠2 then 8 else 0
def chQ(zs:List Cl)(q:Qy):List Cl×Int :=
 if schE zs≠0 then ([],schE zs)
 else if formQ q≠0 then ([],formQ q)
 else if whQ zs q.whr≠0 then ([],whQ zs q.whr)
 else if (clQ zs q 0 [] (zbo q)).2≠0 then ([],(clQ zs q 0 [] (zbo q)).2)
 else if schE (clQ zs q 0 [] (zbo q)).1≠0 then ([],schE (clQ zs q 0 [] (zbo q)).1)
 else ((clQ zs q 0 [] (zbo q)).1,0)

theorem zcZ:(Tryz.prog.info? 9).map (fun i=>(i.zero,i.size,i.bytes))=some (some (.string ⟨#[]⟩),1,16):=by kernel_rfl
def StsA(w:World)(v:Value)(ts:List ByteArray):Prop:=∃p c,v=.slice p ts.length c∧(ts.length≤c∧ts.length≤1048576)∧(p=none→c=0)∧∀a,p=some a→ts.length=0∨∃g off,a=⟨g,off,none⟩∧g<w.heap.size∧∀j (h:j<ts.length),w.cell? ⟨g,off+j,none⟩=some (.string ts[j])
theorem StsA.on{w w':World}{v:Value}{ts:List ByteArray}(h:StsA w v ts)(hb:Below w.heap.size w w'):StsA w' v ts:=by
 obtain⟨p,c,e,h1,h2,h3⟩:=h
 refine⟨p,c,e,h1,h2,fun a ha=>?_⟩
 rcases h3 a ha with h0|⟨g,off,e2,h5,h6⟩
 ·exact .inl h0
 ·exact .inr ⟨g,off,e2,by have:=hb.size;omega,fun j hj=>by rw[hb.cell (p:=⟨g,off+j,none⟩) h5];exact h6 j hj⟩
theorem StsA.nil(w:World):StsA w (.slice none 0 0) []:=⟨none,0,rfl,⟨Nat.le_refl _,Nat.zero_le _⟩,fun _=>rfl,fun a h=>nomatch h⟩
theorem zlJ{w:World}{B:Nat}{v:Value}{n:Nat}{ts:List ByteArray}(hn:ts.length=n)(hl:n≤1048576)(h:w.ownsRow B 9 1 v n (ts.map .string)):StsA w v ts:=by
 subst hn
 rcases id h.2 with ⟨rfl,e⟩|⟨g,cap,cur,rfl,hb,hg,hm,hx,hs,ht⟩
 ·exact⟨none,0,by rw[e],⟨by omega,by omega⟩,fun _=>rfl,fun a ha=>nomatch ha⟩
 ·refine⟨some ⟨g,0,none⟩,cap,rfl,⟨by omega,hl⟩,(fun hp=>nomatch hp),fun a ha=>?_⟩
  injection ha with ha
  subst ha
  refine .inr ⟨g,0,rfl,(Array.getElem?_eq_some_iff.1 hg).1,fun j hj=>?_⟩
  have:=h.cells (g:=g) rfl j (.string ts[j]) (by rw[List.getElem?_map,List.getElem?_eq_getElem hj];rfl)
  rw[Go.WideShapes.add_plain] at this
  exact this
theorem zeI{w:World}{q:Option Addr}{n c m:Nat}{bs:List ByteArray}(h:StsA w (.slice q n c) bs)(hm:m<bs.length):∃g off,q=some ⟨g,off,none⟩∧g<w.heap.size∧∀j (h:j<bs.length),w.cell? ⟨g,off+j,none⟩=some (.string bs[j]):=by
 obtain⟨p',c',e,⟨h1,h64⟩,h2,h3⟩:=h
 injection e with e1 e2 e3
 subst e1 e3
 cases q with
 | none=>have:=h2 rfl;omega
 | some a =>
  rcases h3 a rfl with h0|⟨g,off,rfl,h5,h6⟩
  ·omega
  ·exact⟨g,off,rfl,h5,h6⟩
theorem zmB(a:Addr):a.add 0=a:=by cases a;simp[Addr.add]
theorem zru{w:World}{p:Option Addr}{n c l:Nat}{ts:List ByteArray}(h:StsA w (.slice p n c) ts)(hn:ts.length=n)(hl:l≤n):∃p1 c1,(∀W,Sem.run Tryz.prog (Instr.slice 31 (.slice p n c) (some (.int .i64 (l:Int))) none none) W=.ok (.slice p1 (n-l) c1) W)∧StsA w (.slice p1 (n-l) c1) (ts.drop l):=by
 subst hn
 obtain⟨p',c',e,⟨h1,h64⟩,h2,h3⟩:=h
 injection e with e1 e2 e3
 subst e1 e3
 have hr:∀W,Sem.run Tryz.prog (Instr.slice 31 (.slice p ts.length c) (some (.int .i64 (l:Int))) none none) W=.ok (sliced p l ts.length c 1) W:=fun W=>by
  have g0:(0:Int)≤(l:Int):=by omega
  have g1:(l:Int)≤(ts.length:Int):=by omega
  have g2:Sem.run Tryz.prog (Go.sizeOf (Tryz.prog.elem 31)) W=.ok 1 W:=by kernel_rfl
  rw[run_slice_l W 31 p ts.length c (by kernel_rfl) .i64 l g0 g1,g2]
  rfl
 by_cases hcl:c=l
 ·refine⟨p,c-l,fun W=>by rw[hr W,sliced,if_pos hcl],p,c-l,by rw[List.length_drop],⟨by rw[List.length_drop];omega,by rw[List.length_drop];omega⟩,fun hp=>by have:=h2 hp;omega,fun a ha=>.inl (by rw[List.length_drop];omega)⟩
 ·cases p with
  | none=>exact absurd (h2 rfl) (by omega)
  | some a =>
   rcases h3 a rfl with h0|⟨g,off,rfl,h5,h6⟩
   ·exact⟨some (a.add (l*1)),c-l,fun W=>by rw[hr W,sliced,if_neg hcl,Option.map_some],some (a.add (l*1)),c-l,by rw[List.length_drop],⟨by rw[List.length_drop];omega,by rw[List.length_drop];omega⟩,(fun hp=>nomatch hp),fun b hb=>.inl (by rw[List.length_drop];omega)⟩
   refine⟨some ⟨g,off+l*1,none⟩,c-l,fun W=>by rw[hr W,sliced,if_neg hcl,Option.map_some,Go.WideShapes.add_plain],some ⟨g,off+l*1,none⟩,c-l,by rw[List.length_drop],⟨by rw[List.length_drop];omega,by rw[List.length_drop];omega⟩,(fun hp=>nomatch hp),fun a ha=>?_⟩
   injection ha with ha
   subst ha
   refine .inr ⟨g,off+l*1,rfl,h5,fun j hj=>?_⟩
   rw[List.length_drop] at hj
   have:=h6 (l+j) (by omega)
   rw[List.getElem_drop,show off+l*1+j=off+(l+j) by omega]
   exact this
theorem zja{w:World}{p:Option Addr}{n c l:Nat}{ts:List ByteArray}(h:StsA w (.slice p n c) ts)(hn:ts.length=n)(hl:l≤n):∃p1 c1,(∀W,Sem.run Tryz.prog (Instr.slice 31 (.slice p n c) none (some (.int .i64 (l:Int))) none) W=.ok (.slice p1 l c1) W)∧StsA w (.slice p1 l c1) (ts.take l):=by
 subst hn
 obtain⟨p',c',e,⟨h1,h64⟩,h2,h3⟩:=h
 injection e with e1 e2 e3
 subst e1 e3
 have hr:∀W,Sem.run Tryz.prog (Instr.slice 31 (.slice p ts.length c) none (some (.int .i64 (l:Int))) none) W=.ok (sliced p 0 l c 1) W:=fun W=>by
  have g0:(0:Int)≤(l:Int):=by omega
  have g1:(l:Int)≤(c:Int):=by omega
  have g2:Sem.run Tryz.prog (Go.sizeOf (Tryz.prog.elem 31)) W=.ok 1 W:=by kernel_rfl
  rw[run_slice_h W 31 p ts.length c (by kernel_rfl) .i64 l g0 g1,g2]
  rfl
 have hlen:(ts.take l).length=l:=by rw[List.length_take];omega
 refine⟨p,c,fun W=>?_,p,c,by rw[hlen],⟨by omega,by omega⟩,h2,fun a ha=>?_⟩
 ·rw[hr W,sliced]
  cases p with
  | none=>simp
  | some a=>simp[zmB]
 ·rcases h3 a ha with h0|⟨g,off,e2,h5,h6⟩
  ·exact .inl (by omega)
  refine .inr ⟨g,off,e2,h5,fun j hj=>?_⟩
  rw[List.getElem_take]
  exact h6 j (by omega)
theorem zbl{w:World}{ops:Array Oper}{rest:List Oper}{o:Oper}{a:Act}{Q:Exit→Act→World→Prop}(hgd:o.guard=none)(s x:Operand)
  (ho:o.op=.call { callee:=.builtin .append,args:=#[s,x],argTypes:=#[31,31] })
  (base:Nat)(v:Value)(n:Nat)(xs:List ByteArray)(hs:a.eval s=v)(hown:w.ownsRow base 9 1 v n (xs.map .string))
  (u:Value)(ts:List ByteArray)(hx:a.eval x=u)(hst:StsA w u ts)(n':Nat)(cs':List Value)(hn':n+ts.length=n')(hcs:(xs++ts).map .string=cs')(hsm:n'≤1048576)(hbase:base≤w.heap.size)
  (h:∀v' w',w'.ownsRow base 9 1 v' n' cs'→Below base w w'→wpList Tryz.prog ops Q rest (a.put o.dst v') w'):wpList Tryz.prog ops Q (o::rest) a w:=by
 subst hn' hcs
 obtain⟨i0,hi,hz0,hz1,hzz⟩:=info_parts zcZ
 obtain⟨p,c,rfl,h1,h2,h3⟩:=hst
 cases p with
 | none =>
  have hc:=h2 rfl
  subst hc
  have hl:ts.length=0:=by omega
  have:ts=[]:=List.length_eq_zero_iff.1 hl
  subst this
  refine wpList_append_own_none hgd s x 31 ho base 9 i0 1 Tryz.underlying31 hi v n (xs.map .string) hs hown hx (h v w ?_ (Below.refl _ _))
  simpa using hown
 | some ad =>
  refine wpList_append_own w hgd s x 31 ho base 9 i0 (.string ⟨#[]⟩) 1 16 Tryz.underlying31 hi hz0 hz1 hzz rfl (by decide) v n (xs.map .string) hs hown ad ts.length c (ts.map .string) hx (by simp) (fun j y hy=>?_) (fun y hy=>?_) (by unfold maxLen;omega) (by omega) hbase (fun v' w' o1 o2 _=>?_)
  ·rw[List.getElem?_map] at hy
   obtain⟨t,ht,rfl⟩:=Option.map_eq_some_iff.1 hy
   obtain⟨hj,rfl⟩:=List.getElem?_eq_some_iff.1 ht
   rcases h3 ad rfl with h0|⟨g,off,rfl,h5,h6⟩
   ·omega
   ·rw[Go.WideShapes.add_plain]
    exact h6 j hj
  ·rw[List.mem_map] at hy
   obtain⟨t,_,rfl⟩:=hy
   rfl
  ·refine h v' w' ?_ ((Below.refl _ w).grown o2 hbase (fun j hj=>(hown.lt j hj).1))
   rw[List.map_append];exact o1
theorem zrE(w:World)(s:ByteArray)(g:Nat)(hg:g=w.heap.size):StsA (w.alloc (.cells #[.string s] 9)) (.slice (some ⟨g,0,none⟩) 1 1) [s]:=by
 subst hg
 refine⟨_,1,rfl,⟨Nat.le_refl _,by simp⟩,(fun hp=>nomatch hp),fun a ha=>?_⟩
 injection ha with ha
 subst ha
 refine .inr ⟨w.heap.size,0,rfl,by simp,fun j hj=>?_⟩
 obtain rfl:j=0:=by simp at hj;omega
 rw[World.cell?_alloc_at _ _ _ _ rfl];rfl
theorem zhy{w:World}{v:Value}{ts:List ByteArray}(h:StsA w v ts):∃q c,v=.slice q ts.length c:=by
 obtain⟨p,c,e,-⟩:=h
 exact⟨p,c,e⟩
end Go.Proofs.YtopghagjmdbglaaGreatDoor
