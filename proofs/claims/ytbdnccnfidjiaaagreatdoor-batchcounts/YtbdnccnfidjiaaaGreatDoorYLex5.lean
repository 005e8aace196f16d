/-
  Lex5.
-/
import Derived.Test.YtbdnccnfidjiaaaGreatDoorGyAd
import Derived.Test.YtbdnccnfidjiaaaGreatDoorYLexPure2
import Derived.Test.YtbdnccnfidjiaaaGreatDoorGyAh
import Derived.Test.YtbdnccnfidjiaaaGreatDoorGyAe
import Derived.Deep.RegionWith
namespace Go.Proofs.YtbdnccnfidjiaaaGreatDoor
open Go.RowKit
set_option linter.unusedVariables false
set_option linter.unusedSimpArgs false
set_option maxHeartbeats 8000000
def capOk(v:Value):Prop:=match v with
 | .slice _ n c=>n≤c
 | _=>True
theorem zrv{W:World}{base:Nat}{e:TypeId}{size:Nat}{v:Value}{n:Nat}{xs:List Value}(h:W.ownsRow base e size v n xs):capOk v:=by
 rcases h.2 with ⟨rfl,h0⟩|⟨g,cap,cur,rfl,_,_,hcap,_⟩
 ·exact Nat.le_refl _
 ·exact hcap
theorem zfn{w wr:World}(h:Below (w.heap.size+1) (w.alloc (.cells #[.int .i64 0,.int .i64 0] 37)) wr) :
  wr.cell? ⟨w.heap.size,0,none⟩=some (.int .i64 0)∧wr.cell? ⟨w.heap.size,1,none⟩=some (.int .i64 0)∧wr.frozen? ⟨w.heap.size,0,none⟩=false∧wr.frozen? ⟨w.heap.size,1,none⟩=false∧w.heap.size<wr.heap.size:=by
 have hz:=h.size
 simp at hz
 refine⟨?_,?_,?_,?_,by omega⟩
 ·rw[h.cell (p:=⟨w.heap.size,0,none⟩) (Nat.lt_succ_self _),World.cell?_alloc_at _ _ _ _ rfl];rfl
 ·rw[h.cell (p:=⟨w.heap.size,1,none⟩) (Nat.lt_succ_self _),World.cell?_alloc_at _ _ _ _ rfl];rfl
 ·rw[h.frozen (p:=⟨w.heap.size,0,none⟩) (Nat.lt_succ_self _)];simp
 ·rw[h.frozen (p:=⟨w.heap.size,1,none⟩) (Nat.lt_succ_self _)];simp
theorem zck{w wr:World}(h:Below (w.heap.size+1) (w.alloc (.cells #[.int .i64 0,.int .i64 0] 37)) wr):Below w.heap.size w wr :=
 ((Below.refl _ _).alloc (Nat.le_refl _) _).trans (h.mono (Nat.le_succ _))
theorem ziC(s:ByteArray)(w:World)(h:400<s.size) :
  Calls Tryz.prog 20 #[.string s] w fun e w'=>e=.returned (.tuple #[.slice none 0 0,.agg #[.int .i64 4,.int .i64 0]])∧Below w.heap.size w w':=by
 have hz:(400:Int)<(s.size:Int):=by omega
 go_enter Tryz.func20,Tryz.ntmps20
 go_wp2
 refine bodyPost_ret (v:=.tuple #[.slice none 0 0,.agg #[.int .i64 4,.int .i64 0]]) (by simp[results,Tryz.results20,go_sem]) rfl ⟨rfl,?_⟩
 exact (Below.refl _ _).alloc (Nat.le_refl _) _
set_option maxRecDepth 20000 in
theorem ziD(s:ByteArray)(w:World)(henv:Env w)(hw:SG w)(h400:s.size≤400) :
  Calls Tryz.prog 20 #[.string s] w fun e w'=>(∃v,e=.returned (.tuple #[v,.agg #[.int .i64 (lexS (s.size+1) 0 s.data.toList []).2.1,.int .i64 ((lexS (s.size+1) 0 s.data.toList []).2.2:Nat)]])∧ziL w' v (lexS (s.size+1) 0 s.data.toList []).1∧capOk v)∧Below w.heap.size w w':=by
 obtain⟨R,E,P,hR⟩:∃R E P,lexS (s.size+1) 0 s.data.toList []=(R,E,P):=⟨_,_,_,rfl⟩
 rw[hR]
 simp only
 obtain⟨i0,hi,hz0,hz1,hz2⟩:=info_parts zoJ
 have hz:¬(400:Int)<(s.size:Int):=by omega
 have hgo:goN blB s.data.toList≤s.size:=by have:=zcW blB s.data.toList;simpa using this
 obtain⟨A0,hA0⟩:∃A,goN blB s.data.toList=A:=⟨_,rfl⟩
 have cB:=fun W=>zcX s W (by unfold maxLen;omega)
 have HR0:Hid ((R,E,P)=lexA (s.size+1) A0 (s.data.toList.drop A0) []):=by
  show _=_
  rw[←hR,lexS,hA0,Nat.zero_add]
 rw[hA0] at hgo cB
 clear hR hA0
 go_enter Tryz.func20,Tryz.ntmps20
 go_wp2_with (go_at_call 41;refine (cB _).mono ?_;rintro e w' ⟨rfl,rfl⟩)
 go_loopg [4,5,6,7,8] (s.size+1) (fun gg s4 s5 _ _ _ wr=>∃(a:Nat) (acc:List Tok),s5=.int .i64 a∧a≤s.size∧s.size-a<gg∧wr.ownsRow (w.heap.size+1) 78 3 s4 acc.length (zaI acc)∧Aside (Below (w.heap.size+1) (w.alloc (.cells #[.int .i64 0,.int .i64 0] 37)) wr)∧Hid ((R,E,P)=lexA gg a (s.data.toList.drop a) acc)∧acc.length≤a)
 case atStart=>exact⟨A0,[],rfl,hgo,by omega,World.ownsRow_nil _ _ _ _,(show Aside _ from Below.refl _ _),HR0,Nat.zero_le _⟩
 case round =>
  obtain⟨a,acc,rfl,ha,hg,hown,BW,HR,hacc⟩:=hrel
  obtain⟨vp,vc,rfl⟩:=zaa hown
  obtain⟨g',rfl⟩:∃g',gk=g'+1:=⟨gk-1,by omega⟩
  clear HR0 cB
  by_cases hlt:a<s.size
  ·have hltz:(a:Int)<(s.size:Int):=by omega
   obtain⟨X,hX,hX1,hX2⟩:=zhP s a ha
   have hne:s.data.toList.drop a≠[]:=by rw[zaC s a hlt];simp
   have HX1:Hid (X.data.toList=s.data.toList.drop a):=hX1
   have BW0:=zck BW.out
   have cT:=zeO X wr (henv.on BW0) (hw.on BW0) (by omega) (by omega)
   clear hX1 BW0
   have HNE:Hid (s.data.toList.drop a≠[]):=hne
   clear hne
   go_wp2_with fail
   refine cT.mono ?_
   rintro e w1 ⟨⟨k,n,h,rfl,HT⟩,b1⟩
   have B1:=BW.out.trans (b1.mono (by have:=BW.out.size;simpa using this))
   have o1:=zac hown b1
   clear b1 hown cT BW
   have ht:tokAt (s.data.toList.drop a)=(k,n,h):=by rw[←HX1.out];exact HT.out
   by_cases h0:h=0
   ·subst h0
    obtain⟨hn1,hn2⟩:=zbY ht
    have hn3:a+n≤s.size:=by rw[List.length_drop] at hn2;simp at hn2;omega
    obtain⟨Y,hY,hY1,hY2⟩:=zmx s a (a+n) (by omega) hn3
    obtain⟨Z,hZ,hZ1,hZ2⟩:=zhP s (a+n) hn3
    have hYz:∀W:World,Sem.run Tryz.prog (Instr.slice 9 (.string s) (some (.int .i64 (a:Int))) (some (.int .i64 ((a:Int)+(n:Int)))) none) W=.ok (.string Y) W:=by
     have e:((a+n:Nat):Int)=(a:Int)+(n:Int):=by omega
     rw[e] at hY;exact hY
    have hZz:∀W:World,Sem.run Tryz.prog (Instr.slice 9 (.string s) (some (.int .i64 ((a:Int)+(n:Int)))) none none) W=.ok (.string Z) W:=by
     have e:((a+n:Nat):Int)=(a:Int)+(n:Int):=by omega
     rw[e] at hZ;exact hZ
    have hYe:Y=⟨((s.data.toList.drop a).take n).toArray⟩:=zbI (by rw[hY1,show a+n-a=n from by omega])
    have HR2:Hid ((R,E,P)=lexS g' (a+n) (s.data.toList.drop (a+n)) (acc++[(k,Y,a)])):=by
     show _=_
     rw[HR.out,zoQ g' a _ acc HNE.out ht,←hYe,List.drop_drop]
    have hgz:goN blB Z.data.toList≤s.size-(a+n):=by have:=zcW blB Z.data.toList;simp at this;omega
    obtain⟨G,hG⟩:∃G,goN blB Z.data.toList=G:=⟨_,rfl⟩
    have cB2:=fun W=>zcX Z W (by unfold maxLen;omega)
    rw[hG] at cB2 hgz
    have HR3:Hid ((R,E,P)=lexA g' (a+n+G) (s.data.toList.drop (a+n+G)) (acc++[(k,Y,a)])):=by
     show _=_
     rw[HR2.out,lexS,←hZ1,hG,hZ1,List.drop_drop]
    clear HR HR2 hY hZ hY1 hZ1 hYe hG ht HT hn2
    go_wp2_with fail
    refine (zbj Y _ (by omega)).mono ?_
    rintro e w2 ⟨rfl,b2⟩
    have B2:=B1.trans (b2.mono (by have:=B1.size;simpa using this))
    have o2:=zac o1 b2
    clear b2 o1 B1
    go_wp2_with (at_builtin;refine wpList_append_own _ rfl _ _ 69 rfl (w.heap.size+1) 78 i0 (.agg #[.int .i64 0,.string ⟨#[]⟩,.int .i64 0]) 3 32 Tryz.underlying69 hi hz0 hz1 hz2 rfl (by decide) _ _ _ rfl (o2.alloc _) ⟨w2.heap.size,0,none⟩ 1 1 [.int .i64 k,.string Y,.int .i64 (a:Int)] rfl rfl ?c1 ?c2 ?c3 ?c4 ?c5 ?_)
    case c1 =>
     intro i u hu
     rw[Go.WideShapes.add_plain]
     match i,hu with
     | 0,hu=>simp at hu;subst hu;rw[World.cell?_alloc_at _ _ _ _ (by simp)];rfl
     | 1,hu=>simp at hu;subst hu;rw[World.cell?_alloc_at _ _ _ _ (by simp)];rfl
     | 2,hu=>simp at hu;subst hu;rw[World.cell?_alloc_at _ _ _ _ (by simp)];rfl
    case c2 =>
     intro u hu
     simp at hu
     rcases hu with rfl|rfl|rfl<;>rfl
    case c3=>unfold maxLen;omega
    case c4=>omega
    case c5=>have:=B2.size;simp at this ⊢;omega
    ·intro v' w3 hown' hgrow _
     have RR:=zrO o2 B2 (by have:=B2.size;simp at this;omega) hown' hgrow
     clear hown' hgrow o2
     go_wp2_with fail
     refine (cB2 _).mono ?_
     rintro e w4 ⟨rfl,hq4⟩
     obtain rfl:w3=w4:=hq4.symm
     go_wp2
     go_roundg g'
     case measure=>omega
     case rel=>exact⟨a+n+G,acc++[(k,Y,a)],by go_num,by omega,by omega,RR.1,RR.2,HR3,by rw[List.length_append,List.length_singleton];omega⟩
   ·have hF:(R,E,P)=([],h,a):=by rw[HR.out,zoO g' a _ acc HNE.out ht h0]
    have he:=Prod.mk.inj hF
    obtain⟨rfl,he⟩:=he
    obtain⟨rfl,rfl⟩:=Prod.mk.inj he
    have hz0:(E != 0)=true:=by simpa using h0
    obtain⟨q0,q1,q2,q3,ql⟩:=zfn B1
    clear HR ht HT h0 hF he o1
    go_wp2
    refine bodyPost_ret (v:=.tuple #[.slice none 0 0,.agg #[.int .i64 E,.int .i64 (P:Nat)]]) (by simp[results,Tryz.results20,go_sem,q0,q1]) rfl ⟨⟨_,rfl,zfv _,Nat.le_refl _⟩,?_⟩
    exact ((zck B1).setCell (Nat.le_refl _) _).setCell (Nat.le_refl _) _
  ·have hltz:¬(a:Int)<(s.size:Int):=by omega
   have hF:(R,E,P)=(acc,0,0):=by
    have h:=HR.out
    rw[List.drop_eq_nil_of_le (by simp;omega),zoP] at h
    exact h
   obtain⟨rfl,he⟩:=Prod.mk.inj hF
   obtain⟨rfl,rfl⟩:=Prod.mk.inj he
   obtain⟨q0,q1,q2,q3,ql⟩:=zfn BW.out
   clear HR hF he
   go_wp2
   refine bodyPost_ret (v:=.tuple #[.slice vp R.length vc,.agg #[.int .i64 0,.int .i64 0]]) (by simp[results,Tryz.results20,go_sem,q0,q1]) rfl ⟨⟨_,rfl,?_,zrv hown⟩,?_⟩
   ·exact zpf (zkf (zkf hown 0 (.int .i64 0)) 1 (.int .i64 0))
   ·exact ((zck BW.out).setCell (Nat.le_refl _) _).setCell (Nat.le_refl _) _
theorem zkZ(s:ByteArray)(w:World)(henv:Env w)(hw:SG w) :
  Calls Tryz.prog 20 #[.string s] w fun e w'=>(∃v,e=.returned (.tuple #[v,.agg #[.int .i64 (zaY s.data.toList).2.1,.int .i64 ((zaY s.data.toList).2.2:Nat)]])∧ziL w' v (zaY s.data.toList).1∧capOk v)∧Below w.heap.size w w':=by
 have hl:s.data.toList.length=s.size:=by simp
 by_cases h:400<s.size
 ·rw[zaY,if_pos (by omega)]
  exact (ziC s w h).mono fun e w' hh=>⟨⟨_,hh.1,zfv _,Nat.le_refl _⟩,hh.2⟩
 ·rw[zaY,if_neg (by omega),hl]
  exact ziD s w henv hw (by omega)
theorem zla(s:ByteArray)(R:List Tok)(E:Int)(P:Nat)(w:World)(henv:Env w)(hw:SG w)(h:zaY s.data.toList=(R,E,P)) :
  Calls Tryz.prog 20 #[.string s] w fun e w'=>(∃v,e=.returned (.tuple #[v,.agg #[.int .i64 E,.int .i64 (P:Nat)]])∧ziL w' v R∧capOk v)∧Below w.heap.size w w':=by
 have:=zkZ s w henv hw
 rw[h] at this
 exact this
end Go.Proofs.YtbdnccnfidjiaaaGreatDoor
