/-
  AgQ, AgR, AgS, AgY, AgJ.
-/
import Derived.Test.YtbdnccnfidjiaaaGreatDoorGyAv
import Derived.Test.YtbdnccnfidjiaaaGreatDoorGyAh
import Derived.Test.YtbdnccnfidjiaaaGreatDoorGyAc
namespace Go.Proofs.YtbdnccnfidjiaaaGreatDoor
open Go.RowKit
set_option linter.unusedVariables false
set_option linter.unusedSimpArgs false
set_option maxHeartbeats 8000000
structure PtsAt(w:World)(g:Nat)(cur:Array Value)(ps:List Pt):Prop where
 blk:Blk w g cur 292
 len:ps.length*6≤cur.size
 part:∀i (h:i<ps.length),∃q c,zbo w g (i*6) ps[i] q c
theorem zmG{w w':World}{g:Nat}{cur:Array Value}{v:Value}{ws:List Int}(hb:Blk w g cur 292)(h:TotA w v ws)(hk:Kp (·=g) w w'):TotA w' v ws :=
 h.keep fun k cs hc=>hk.kept k (lt_of_block hc) (fun e=>by
  subst e
  unfold Blk at hb
  rw[hb] at hc
  injection hc with hc
  injection hc with _ hc _
  exact absurd hc (by decide))
theorem PtsAt.on{w w':World}{g:Nat}{cur:Array Value}{ps:List Pt}(h:PtsAt w g cur ps)(hb:Below w.heap.size w w'):PtsAt w' g cur ps :=
 ⟨h.blk.on hb,h.len,fun i hi=>by obtain⟨q,c,hp⟩:=h.part i hi;exact⟨q,c,hp.on hb⟩⟩
theorem PtsAt.keep{w w':World}{g:Nat}{cur:Array Value}{ps:List Pt}{S:Nat→Prop}(h:PtsAt w g cur ps)(hk:Kp S w w')(hg:¬S g)(hS:∀(k:Nat) (cs:Array Value),S k→w.heap[k]?=some (Obj.cells cs 262 (0,0))→False):PtsAt w' g cur ps:=by
 refine⟨h.blk.kp hk hg,h.len,fun i hi=>?_⟩
 obtain⟨q,c,c0,c1,c2,c3,c4,c5,t,lt⟩:=h.part i hi
 have k:∀o,w'.cell? ⟨g,o,none⟩=w.cell? ⟨g,o,none⟩:=fun o=>hk.cell o lt hg
 exact⟨q,c,by rw[k];exact c0,by rw[k];exact c1,by rw[k];exact c2,by rw[k];exact c3,by rw[k];exact c4,by rw[k];exact c5,t.keep (fun b cs hc=>hk.kept b (lt_of_block hc) (fun e=>hS b cs e hc)),by have:=hk.size;omega⟩
theorem PtsAt.upd{w w':World}{g:Nat}{cur cur':Array Value}{ps:List Pt}(h:PtsAt w g cur ps){i:Nat}(hi:i<ps.length)(hb:Blk w' g cur' 292)(hs:cur'.size=cur.size)(hc:∀j,¬(i*6≤j∧j<i*6+6)→cur'[j]?=cur[j]?){p':Pt}{q:Option Addr}{c:Nat}(hp:zbo w' g (i*6) p' q c)(hk:Kp (·=g) w w'):PtsAt w' g cur' (ps.set i p'):=by
 refine⟨hb,by rw[List.length_set,hs];exact h.len,fun j hj=>?_⟩
 rw[List.length_set] at hj
 rw[List.getElem_set]
 by_cases hij:i=j
 ·subst hij
  rw[if_pos rfl]
  exact⟨q,c,hp⟩
 ·rw[if_neg hij]
  obtain⟨q,c,c0,c1,c2,c3,c4,c5,t,lt⟩:=h.part j hj
  have k:∀o,o<6→w'.cell? ⟨g,j*6+o,none⟩=w.cell? ⟨g,j*6+o,none⟩:=fun o ho=>by rw[hb.cell,h.blk.cell,hc _ (by omega)]
  refine⟨q,c,?_,by rw[k 1 (by omega)];exact c1,by rw[k 2 (by omega)];exact c2,by rw[k 3 (by omega)];exact c3,by rw[k 4 (by omega)];exact c4,by rw[k 5 (by omega)];exact c5,zmG h.blk t hk,by have:=hk.size;omega⟩
  have:=k 0 (by omega)
  rw[Nat.add_zero] at this
  rw[this];exact c0
theorem zhH:∀(vs:List Value) (cs:Array Value) (o j:Nat),¬(o≤j∧j<o+vs.length)→(putA cs o vs)[j]?=cs[j]?
 | [],_,_,_,_=>rfl
 | v::vs,cs,o,j,h=>by
  rw[putA,zhH vs _ _ _ (by simp at h;omega),Array.getElem?_setIfInBounds_ne (by simp at h;omega)]
theorem zhI:∀(vs:List Value) (cs:Array Value) (o:Nat),(putA cs o vs).size=cs.size
 | [],_,_=>rfl
 | v::vs,cs,o=>by rw[putA,zhI vs];simp
theorem zns:∀(vs:List Value) (cs:Array Value) (o j:Nat) (h:j<vs.length),o+vs.length≤cs.size→(putA cs o vs)[o+j]?=some vs[j]
 | [],_,_,_,h,_=>absurd h (by simp)
 | v::vs,cs,o,0,_,hs=>by
  rw[putA,zhH vs _ _ _ (by omega),Nat.add_zero,Array.getElem?_setIfInBounds_self_of_lt (by simp at hs;omega)]
  rfl
 | v::vs,cs,o,j+1,h,hs=>by
  have:=zns vs (cs.setIfInBounds o v) (o+1) j (by simpa using h) (by simp at hs ⊢;omega)
  rw[putA,show o+(j+1)=o+1+j by omega,this]
  rfl
theorem zsi{w w2:World}{g:Nat}{cur:Array Value}{ps:List Pt}{i:Nat}{p:Pt}{q:Option Addr}{c:Nat}(h:PtsAt w g cur ps)(hi:i<ps.length)(hp:zbo w g (i*6) p q c)(hb:Below w.heap.size w w2){rq:Option Addr}{rc:Nat}{ws':List Int}(ht:TotA w2 (.slice rq ws'.length rc) ws') :
  PtsAt (w2.setCell ⟨g,i*6+2,none⟩ (.slice rq ws'.length rc)) g (cur.setIfInBounds (i*6+2) (.slice rq ws'.length rc)) (ps.set i { p with ws:=ws' })∧Kp (·=g) w (w2.setCell ⟨g,i*6+2,none⟩ (.slice rq ws'.length rc)):=by
 have h2:=h.on hb
 have p2:=hp.on hb
 have hlen:=h.len
 have hK:Kp (·=g) w2 (w2.setCell ⟨g,i*6+2,none⟩ (.slice rq ws'.length rc)):=(Kp.refl _ _).set _ _ (fun _=>rfl)
 refine⟨h2.upd hi (h2.blk.set _ _) (by simp) (fun j hj=>by rw[Array.getElem?_setIfInBounds_ne (by omega)]) (p':={ p with ws:=ws' }) (q:=rq) (c:=rc) ?_ hK,(Kp.of_below hb).trans hK⟩
 obtain⟨c0,c1,c2,c3,c4,c5,t,lt⟩:=p2
 refine⟨?_,?_,?_,?_,?_,?_,zmG h2.blk ht hK,by simpa [World.setCell] using lt⟩
 ·rw[zfc (by omega)];exact c0
 ·rw[zfc (by omega)];exact c1
 ·exact zqh c2
 ·rw[zfc (by omega)];exact c3
 ·rw[zfc (by omega)];exact c4
 ·rw[zfc (by omega)];exact c5
set_option maxRecDepth 20000 in
theorem zkx(g:Nat)(cur:Array Value)(ps:List Pt)(i:Nat)(hi:i<ps.length)(p:Pt)(hpi:ps[i]'hi=p)(o:Pt)(q2:Option Addr)(c2:Nat)(w:World)(h:PtsAt w g cur ps)(kp:OkPt p)(ko:OkPt o)(ht:TotA w (.slice q2 o.ws.length c2) o.ws)(hx:p.wh=wSum) :
  Calls Tryz.prog 222 #[.pointer (some ⟨g,i*6,none⟩),.agg #[.string o.what,.int .i64 o.kind,.slice q2 o.ws.length c2,.int .i64 o.best.1,.int .i64 o.best.2.1,.string o.best.2.2]] w fun e w'=>e=.returned (.tuple #[])∧(∃cur',Aside (PtsAt w' g cur' (ps.set i (tkP p o))))∧Aside (Kp (·=g) w w'):=by
 obtain⟨q,c,hp⟩:=h.part i hi
 rw[hpi] at hp
 have h0:=hp.c0
 have h2:=hp.c2
 have hl:=hp.lt
 have hq:(p.what.toList == [115,117,109])=true:=zcy hx
 have HP:Aside (PtsAt w g cur ps):=h
 have HI:Hid (i<ps.length):=hi
 have HPI:Aside (zbo w g (i*6) p q c):=hp
 have HTK:Hid (tkP p o={ p with ws:=shW (sumW p.ws o.ws) }):=by show _=_;rw[tkP,if_pos hx]
 have cP:=fun (W:World) (hW:Below w.heap.size w W)=>zpj (.slice q p.ws.length c) (.slice q2 o.ws.length c2) p.ws o.ws W (hp.tot.on hW) (ht.on hW) kp.ws.2.2 ko.ws.2.2
 have hd0:∀o1:Obj,(w.alloc o1).cell? ⟨g,i*6,none⟩=some (.string p.what):=fun o1=>by rw[(alB w o1).cell (p:=⟨g,i*6,none⟩) hl];exact h0
 have hd2:∀o1:Obj,(w.alloc o1).cell? ⟨g,i*6+2,none⟩=some (.slice q p.ws.length c):=fun o1=>by rw[(alB w o1).cell (p:=⟨g,i*6+2,none⟩) hl];exact h2
 clear h hp kp ko ht h0 h2 hpi hx
 have hgs:g≠w.heap.size:=by omega
 go_enter Tryz.func222,Tryz.ntmps222
 go_wp2
 go_region_with (go_at_call 234;refine (cP _ (Below.drew (alB w _))).mono ?_;rintro e w2 ⟨⟨r,rfl,T2⟩,B2⟩;obtain⟨rq,rc,rfl,_⟩:=T2.form;have B3:Below w.heap.size w w2:=(Below.drew (alB w _)).trans (B2.mono (by simp));have hfz:w2.frozen? ⟨g,i*6+2,none⟩=false:=(HP.out.blk.on B3).frozen _;have hce:w2.cell? ⟨g,i*6+2,none⟩=some (.slice q p.ws.length c):=(HPI.out.on B3).c2)
 all_goals
  have hend:=zsi HP.out HI.out HPI.out B3 T2
  rw[←HTK.out] at hend
  have HEN:Aside _:=hend
  clear hend T2
  go_wp2
  go_end0
  exact⟨rfl,⟨_,HEN.out.1⟩,HEN.out.2⟩
theorem znV{w w2 w3:World}{g:Nat}{cur:Array Value}{ps:List Pt}{i:Nat}{p:Pt}{q:Option Addr}{c:Nat}(h:PtsAt w g cur ps)(hi:i<ps.length)(hp:zbo w g (i*6) p q c)(hb:Below w.heap.size w w2){v:V3}(hB:Blk w3 g (putA cur (i*6+3) [.int .i64 v.1,.int .i64 v.2.1,.string v.2.2]) 292)(hk:But g w2 w3) :
  PtsAt w3 g (putA cur (i*6+3) [.int .i64 v.1,.int .i64 v.2.1,.string v.2.2]) (ps.set i { p with best:=v })∧Kp (·=g) w w3:=by
 have h2:=h.on hb
 have p2:=hp.on hb
 have hlen:=h.len
 have hK:Kp (·=g) w2 w3:=Kp.of_but hk rfl
 refine⟨h2.upd hi hB (zhI _ _ _) (fun j hj=>by rw[zhH _ _ _ _ (by simp;omega)]) (p':={ p with best:=v }) (q:=q) (c:=c) ?_ hK,(Kp.of_below hb).trans hK⟩
 obtain⟨c0,c1,c2,c3,c4,c5,t,lt⟩:=p2
 have k:∀o,o<i*6+3→w3.cell? ⟨g,o,none⟩=w2.cell? ⟨g,o,none⟩:=fun o ho=>by rw[hB.cell,h2.blk.cell,zhH _ _ _ _ (by omega)]
 have e:∀j (hj:j<3),w3.cell? ⟨g,i*6+3+j,none⟩=some ([.int .i64 v.1,.int .i64 v.2.1,.string v.2.2]:List Value)[j]:=fun j hj=>by rw[hB.cell,zns _ _ _ _ hj (by simp;omega)]
 refine⟨by rw[k _ (by omega)];exact c0,by rw[k _ (by omega)];exact c1,by rw[k _ (by omega)];exact c2,e 0 (by decide),e 1 (by decide),e 2 (by decide),zmG h2.blk t hK,by have:=hk.size;omega⟩
theorem zkr(w:World)(o:Pt)(q2:Option Addr)(c2:Nat)(ht:TotA w (.slice q2 o.ws.length c2) o.ws):zbo (w.alloc (.cells #[.string o.what,.int .i64 o.kind,.slice q2 o.ws.length c2,.int .i64 o.best.1,.int .i64 o.best.2.1,.string o.best.2.2] 292)) w.heap.size 0 o q2 c2:=by
 have P:=zab w #[.string o.what,.int .i64 o.kind,.slice q2 o.ws.length c2,.int .i64 o.best.1,.int .i64 o.best.2.1,.string o.best.2.2] 292
 exact⟨P.cell 0,P.cell 1,P.cell 2,P.cell 3,P.cell 4,P.cell 5,ht.on (alB _ _),P.lt⟩
set_option maxRecDepth 20000 in
theorem zdN(g:Nat)(cur:Array Value)(ps:List Pt)(i:Nat)(hi:i<ps.length)(p:Pt)(hpi:ps[i]'hi=p)(o:Pt)(q2:Option Addr)(c2:Nat)(w:World)(h:PtsAt w g cur ps)(kp:OkPt p)(ko:OkPt o)(ht:TotA w (.slice q2 o.ws.length c2) o.ws)(hkk:o.kind=p.kind)(hx:p.wh=zaH∨p.wh=wMost) :
  Calls Tryz.prog 222 #[.pointer (some ⟨g,i*6,none⟩),.agg #[.string o.what,.int .i64 o.kind,.slice q2 o.ws.length c2,.int .i64 o.best.1,.int .i64 o.best.2.1,.string o.best.2.2]] w fun e w'=>e=.returned (.tuple #[])∧(∃cur',Aside (PtsAt w' g cur' (ps.set i (tkP p o))))∧Aside (Kp (·=g) w w'):=by
 obtain⟨q,c,hp⟩:=h.part i hi
 rw[hpi] at hp
 have h0:=hp.c0
 have hl:=hp.lt
 have hq0:(p.what.toList == [115,117,109])=false:=zbq (show p.what.data.toList≠_ by rcases hx with hx|hx<;>rw[show p.what.data.toList=_ from hx]<;>decide)
 have HP:Aside (PtsAt w g cur ps):=h
 have HI:Hid (i<ps.length):=hi
 have HPI:Aside (zbo w g (i*6) p q c):=hp
 have hxs:p.wh≠wSum:=by rcases hx with hx|hx<;>rw[hx]<;>decide
 have HTK:Hid (tkP p o=if zaS o p=true then { p with best:=o.best } else p):=by show _=_;rw[tkP,if_neg hxs,if_pos hx]
 have HSET:Hid (ps.set i p=ps):=by show _=_;rw[←hpi,List.set_getElem_self]
 have HB:=zkr w o q2 c2 ht
 have cA:=zik w.heap.size 0 g (i*6) o p q2 q c2 c _ HB (hp.on (alB _ _)) ko kp hkk
 have hd0:∀o1:Obj,(w.alloc o1).cell? ⟨g,i*6,none⟩=some (.string p.what):=fun o1=>by rw[(alB w o1).cell (p:=⟨g,i*6,none⟩) hl];exact h0
 have hw:((p.what.toList == [108,101,97,115,116])=true)∨((p.what.toList == [108,101,97,115,116])=false∧(p.what.toList == [109,111,115,116])=true):=by
  rcases hx with hx|hx
  ·exact .inl (zcy hx)
  ·exact .inr ⟨zbq (show p.what.data.toList≠_ by rw[show p.what.data.toList=_ from hx];decide),zcy hx⟩
 have B1:=alB w (.cells #[.string o.what,.int .i64 o.kind,.slice q2 o.ws.length c2,.int .i64 o.best.1,.int .i64 o.best.2.1,.string o.best.2.2] 292)
 clear h hp kp ko ht h0 hpi hx hxs HB hkk
 have hgs:g≠w.heap.size:=by omega
 cases hA:zaS o p
 ·rw[hA] at cA
  have HT:=HTK.out
  rw[hA,if_neg (by decide)] at HT
  rw[HT,HSET.out]
  clear HTK HT hA
  rcases hw with hw|⟨hw1,hw2⟩
  all_goals
   go_enter Tryz.func222,Tryz.ntmps222
   go_wp2_with fail
   refine cA.mono ?_
   rintro e w2 ⟨rfl,B2⟩
   have B3:Aside (Below w.heap.size w w2):=B1.trans (B2.mono B1.size)
   clear cA B2
   go_wp2
   go_end0
   exact⟨rfl,⟨cur,HP.out.on B3.out⟩,(show Aside _ from Kp.of_below B3.out)⟩
 ·rw[hA] at cA
  have HT:=HTK.out
  rw[hA,if_pos rfl] at HT
  rw[HT]
  clear HTK HT hA
  rcases hw with hw|⟨hw1,hw2⟩
  all_goals
   go_enter Tryz.func222,Tryz.ntmps222
   go_wp2_with fail
   refine cA.mono ?_
   rintro e w2 ⟨rfl,B2⟩
   have B3:Below w.heap.size w w2:=B1.trans (B2.mono B1.size)
   have PB:Blk w2 w.heap.size _ _:=(zab w _ _).on B2
   have PG:Blk w2 g cur 292:=HP.out.blk.on B3
   have hsz:i*6+3+3≤cur.size:=by have:=HP.out.len;have:=HI.out;omega
   clear cA B2
   go_wp2_with (first
    | (refine zaj rfl 28 _ rfl w.heap.size 3 rfl _ _ PB [.int .i64 o.best.1,.int .i64 o.best.2.1,.string o.best.2.2] (fun j v hv=>by match j,hv with
      | 0,hv=>exact hv
      | 1,hv=>exact hv
      | 2,hv=>exact hv
      | j+3,hv=>simp at hv) _ Tryz.underlying28 rfl zcJ ?_)
    | (refine zah rfl 28 _ _ rfl g (i*6+3) #[.int .i64 o.best.1,.int .i64 o.best.2.1,.string o.best.2.2] rfl rfl _ _ PG hsz zcJ (zpc _ _ _) ?_;intro W3 P5 K5))
   have hend:Aside _:=znV HP.out HI.out HPI.out B3 P5 K5
   clear P5 K5 PB PG B3
   go_wp2
   go_end0
   exact⟨rfl,⟨_,hend.out.1⟩,hend.out.2⟩
theorem zgI(g:Nat)(cur:Array Value)(ps:List Pt)(i:Nat)(hi:i<ps.length)(p:Pt)(hpi:ps[i]'hi=p)(o:Pt)(q2:Option Addr)(c2:Nat)(w:World)(h:PtsAt w g cur ps)(hx:p.wh=zaN) :
  Calls Tryz.prog 222 #[.pointer (some ⟨g,i*6,none⟩),.agg #[.string o.what,.int .i64 o.kind,.slice q2 o.ws.length c2,.int .i64 o.best.1,.int .i64 o.best.2.1,.string o.best.2.2]] w fun e w'=>e=.returned (.tuple #[])∧(∃cur',Aside (PtsAt w' g cur' (ps.set i (tkP p o))))∧Aside (Kp (·=g) w w'):=by
 obtain⟨q,c,hp⟩:=h.part i hi
 rw[hpi] at hp
 have h0:=hp.c0
 have hl:=hp.lt
 have HT:tkP p o=p:=by rw[tkP,if_neg (by rw[hx];decide),if_neg (by rw[hx];decide)]
 have HSET:ps.set i p=ps:=by rw[←hpi,List.set_getElem_self]
 rw[HT,HSET]
 have hq0:(p.what.toList == [115,117,109])=false:=zbq (show p.what.data.toList≠_ by rw[show p.what.data.toList=_ from hx];decide)
 have hq1:(p.what.toList == [108,101,97,115,116])=false:=zbq (show p.what.data.toList≠_ by rw[show p.what.data.toList=_ from hx];decide)
 have hq2:(p.what.toList == [109,111,115,116])=false:=zbq (show p.what.data.toList≠_ by rw[show p.what.data.toList=_ from hx];decide)
 have hd0:∀o1:Obj,(w.alloc o1).cell? ⟨g,i*6,none⟩=some (.string p.what):=fun o1=>by rw[(alB w o1).cell (p:=⟨g,i*6,none⟩) hl];exact h0
 have HP:Aside (PtsAt w g cur ps):=h
 clear HT HSET hx hp hpi h0 h
 go_enter Tryz.func222,Tryz.ntmps222
 go_wp2
 go_end0
 exact⟨rfl,⟨cur,HP.out.on (alB _ _)⟩,(show Aside _ from Kp.of_below (alB _ _))⟩
theorem zkw(g:Nat)(cur:Array Value)(ps:List Pt)(i:Nat)(hi:i<ps.length)(p:Pt)(hpi:ps[i]'hi=p)(o:Pt)(q2:Option Addr)(c2:Nat)(w:World)(h:PtsAt w g cur ps)(kp:OkPt p)(ko:OkPt o)(ht:TotA w (.slice q2 o.ws.length c2) o.ws)(hkk:o.kind=p.kind) :
  Calls Tryz.prog 222 #[.pointer (some ⟨g,i*6,none⟩),.agg #[.string o.what,.int .i64 o.kind,.slice q2 o.ws.length c2,.int .i64 o.best.1,.int .i64 o.best.2.1,.string o.best.2.2]] w fun e w'=>e=.returned (.tuple #[])∧(∃cur',Aside (PtsAt w' g cur' (ps.set i (tkP p o))))∧Aside (Kp (·=g) w w'):=by
 rcases zfu kp.ag with hx|hx|hx|hx
 ·exact zgI g cur ps i hi p hpi o q2 c2 w h hx
 ·exact zkx g cur ps i hi p hpi o q2 c2 w h kp ko ht hx
 ·exact zdN g cur ps i hi p hpi o q2 c2 w h kp ko ht hkk (.inl hx)
 ·exact zdN g cur ps i hi p hpi o q2 c2 w h kp ko ht hkk (.inr hx)
structure AccAt(w:World)(a:Nat)(v:Value)(rows:Int)(ps:List Pt):Prop where
 blk:Blk w a #[.int .i64 rows,v] 284
 pts:(ps=[]∧v=.slice none 0 0)∨∃g c cur,v=.slice (some ⟨g,0,none⟩) ps.length c∧PtsAt w g cur ps
def accS(a:Nat)(v:Value)(k:Nat):Prop:=k=a∨v.ownBlock=some k
theorem AccAt.on{w w':World}{a:Nat}{v:Value}{rows:Int}{ps:List Pt}(h:AccAt w a v rows ps)(hb:Below w.heap.size w w'):AccAt w' a v rows ps:=by
 refine⟨h.blk.on hb,?_⟩
 rcases h.pts with h|⟨g,c,cur,e,h⟩
 ·exact .inl h
 ·exact .inr ⟨g,c,cur,e,h.on hb⟩
theorem AccAt.cell1{w:World}{a:Nat}{v:Value}{rows:Int}{ps:List Pt}(h:AccAt w a v rows ps):w.cell? ⟨a,1,none⟩=some v:=h.blk.cell 1
theorem AccAt.cell0{w:World}{a:Nat}{v:Value}{rows:Int}{ps:List Pt}(h:AccAt w a v rows ps):w.cell? ⟨a,0,none⟩=some (.int .i64 rows):=h.blk.cell 0
theorem AccAt.form{w:World}{a:Nat}{v:Value}{rows:Int}{ps:List Pt}(h:AccAt w a v rows ps):∃q c,v=.slice q ps.length c:=by
 rcases h.pts with ⟨rfl,e⟩|⟨g,c,cur,e,_⟩
 ·exact⟨_,_,e⟩
 ·exact⟨_,_,e⟩
theorem AccAt.at{w:World}{a:Nat}{v:Value}{rows:Int}{ps:List Pt}(h:AccAt w a v rows ps){i:Nat}(hi:i<ps.length):∃g c cur,v=.slice (some ⟨g,0,none⟩) ps.length c∧PtsAt w g cur ps:=by
 rcases h.pts with ⟨rfl,e⟩|h
 ·simp at hi
 ·exact h
theorem zfa{w:World}{a b:Nat}{cs ds:Array Value}{t u:TypeId}(h:Blk w a cs t)(k:Blk w b ds u)(hn:t≠u):a≠b:=fun e=>by
 subst e
 unfold Blk at h k
 rw[h] at k
 injection k with k
 injection k with _ k _
 exact hn k
theorem AccAt.keep{w w':World}{a:Nat}{v:Value}{rows:Int}{ps:List Pt}{S:Nat→Prop}(h:AccAt w a v rows ps)(hk:Kp S w w')(hS:∀k,accS a v k→¬S k)(hu:∀(k:Nat) (cs:Array Value),S k→w.heap[k]?=some (Obj.cells cs 262 (0,0))→False):AccAt w' a v rows ps:=by
 refine⟨h.blk.kp hk (hS a (.inl rfl)),?_⟩
 rcases h.pts with h|⟨g,c,cur,e,h⟩
 ·exact .inl h
 ·exact .inr ⟨g,c,cur,e,h.keep hk (hS g (.inr (by rw[e];rfl))) hu⟩
def fstE:List Int→Int
 | []=>0
 | e::r=>if e≠0 then e else fstE r
theorem zne{L:List Int}{k:Nat}(h:k<L.length):fstE (L.drop k)=if L[k]≠0 then L[k] else fstE (L.drop (k+1)):=by
 rw[List.drop_eq_getElem_cons h,fstE]
theorem zjs(f:FuncId)(hent:∀(args:Array Value) (W:World),Sem.run Tryz.prog (callFunc f args) W=.ok (.enter f args) W)(caps:Array Value)(a:Nat)(q:Option Addr)(n c:Nat)(L:List Int)(hL:L.length=n)(hn:n≤6)(St:Nat→World→Prop)(Fin:World→Prop)(w:World)(h0:St 0 w)
  (hcell:∀i W,St i W→W.cell? ⟨a,1,none⟩=some (.slice q n c))(hq:0<n→∃g,q=some ⟨g,0,none⟩)
  (step:∀(g i:Nat) (W:World) (hi:i<L.length),q=some ⟨g,0,none⟩→St i W→Calls Tryz.prog f (#[.int .i64 (i:Int),.pointer (some ⟨g,i*6,none⟩)]++caps) W fun e w'=>e=.returned (errV L[i])∧Aside (if L[i]=0 then St (i+1) w' else Fin w'))
  (hfin:∀W,St n W→Fin W)(E:Int)(hE:fstE L=E) :
  Calls Tryz.prog 198 #[.pointer (some ⟨a,0,none⟩),.func (.func f) #[] caps] w fun e w'=>e=.returned (errV E)∧Aside (if E=0 then St n w' else Fin w'):=by
 have HC:Aside (∀i W,St i W→W.cell? ⟨a,1,none⟩=some (.slice q n c)):=hcell
 have HQ:Aside (0<n→∃g,q=some ⟨g,0,none⟩):=hq
 have HS:Aside _:=step
 have HF:Aside _:=hfin
 have HL:Hid (L.length=n):=hL
 have HE:Hid (fstE (L.drop 0)=E):=hE
 have H0:Aside (St 0 w):=h0
 have hc0:=hcell 0 w h0
 obtain⟨PST,hPST⟩:∃PST:Ending→World→Prop,(fun (e:Ending) (w':World)=>e=.returned (errV E)∧Aside (if E=0 then St n w' else Fin w'))=PST:=⟨_,rfl⟩
 have HPE:Hid (∀e w',(e=.returned (errV E)∧Aside (if E=0 then St n w' else Fin w'))→PST e w'):=by
  intro e w' h
  rw[←hPST]
  exact h
 rw[hPST]
 clear hPST hcell hq step hfin hL hE h0
 go_enter Tryz.func198,Tryz.ntmps198
 go_wp2
 go_loopg [5,6,12] n (fun gg _ _ s12 wr=>∃kk:Nat,kk≤n∧n-kk≤gg∧s12=.int .i64 kk∧Aside (St kk wr)∧Hid (fstE (L.drop kk)=E))
 case atStart=>exact⟨0,Nat.zero_le _,by omega,rfl,H0,HE⟩
 case round =>
  obtain⟨kk,hkk,hg,rfl,SR,HER⟩:=hrel
  clear H0 HE hc0
  by_cases hlt:kk<n
  ·have hltz:(kk:Int)<(n:Int):=by omega
   have h0z:(0:Int)≤(kk:Int):=by omega
   have hkl:kk<L.length:=by rw[HL.out];exact hlt
   obtain⟨g,rfl⟩:=HQ.out (by omega)
   have hcr:=HC.out kk wr SR.out
   have cS:=HS.out g kk wr hkl rfl SR.out
   have hfe:=HER.out
   rw[zne hkl] at hfe
   by_cases hz:L[kk]=0
   ·rw[if_neg (fun h=>h hz)] at hfe
    have cS:Calls Tryz.prog f (#[.int .i64 (kk:Int),.pointer (some ⟨g,kk*6,none⟩)]++caps) wr fun e w'=>e=.returned .nilIface∧Aside (St (kk+1) w'):=cS.mono fun e w' hh=>⟨by rw[hh.1,hz];rfl,by have:=hh.2.out;rw[if_pos hz] at this;exact this⟩
    have HFE:Hid (fstE (L.drop (kk+1))=E):=hfe
    clear hfe hz HER
    go_wp2_with fail
    refine cS.mono ?_
    rintro e w2 ⟨rfl,S2⟩
    clear cS
    go_wp2
    go_roundg (n-(kk+1))
    case measure=>omega
    case rel=>exact⟨kk+1,by omega,by omega,by go_num,S2,HFE⟩
   ·rw[if_pos hz] at hfe
    have hE0:¬E=0:=by rw[←hfe];exact hz
    have hV:errV E=.iface 35 (.int .i64 E):=by rw[errV,if_neg hE0]
    have cS:Calls Tryz.prog f (#[.int .i64 (kk:Int),.pointer (some ⟨g,kk*6,none⟩)]++caps) wr fun e w'=>e=.returned (.iface 35 (.int .i64 E))∧Aside (Fin w'):=cS.mono fun e w' hh=>⟨by rw[hh.1,hfe,hV],by have:=hh.2.out;rw[if_neg hz] at this;exact this⟩
    have HV:Hid _:=hV
    have HE0:Hid _:=hE0
    clear hfe hz HER hV hE0
    go_wp2_with fail
    refine cS.mono ?_
    rintro e w2 ⟨rfl,S2⟩
    clear cS
    go_wp2
    exact HPE.out _ _ ⟨by rw[HV.out];rfl,by rw[if_neg HE0.out];exact S2⟩
  ·have hltz:¬(kk:Int)<(n:Int):=by omega
   obtain rfl:kk=n:=by omega
   have hE0:E=0:=by rw[←HER.out,List.drop_eq_nil_of_le (by rw[HL.out];exact Nat.le_refl _)];rfl
   have HE0:Hid _:=hE0
   clear hE0
   go_wp2
   exact HPE.out _ _ ⟨by rw[HE0.out];rfl,by rw[if_pos HE0.out];exact SR⟩
theorem zgZ(x y:Int)(w:World)(hx:0≤x∧x≤1000000)(hy:0≤y∧y≤1000000) :
  Calls Tryz.prog 221 #[.int .i64 x,.int .i64 y] w fun e w'=>e=.returned (.int .i64 (x+y))∧w'=w:=by
 have c:=ztx x y w (by omega) (by omega) (by omega)
 go_enter Tryz.func221,Tryz.ntmps221
 go_wp2_with fail
 refine c.mono ?_
 rintro e w1 ⟨rfl,rfl⟩
 clear c
 go_wp2
 go_ret
 exact⟨rfl,rfl⟩
def tkN(ps:List Pt)(o:Nat→Pt)(k:Nat):List Pt:=ps.mapIdx fun i p=>if i<k then tkP p (o i) else p
theorem zbr(ps:List Pt)(o:Nat→Pt)(k:Nat):(tkN ps o k).length=ps.length:=by simp[tkN]
theorem zpA(ps:List Pt)(o:Nat→Pt):tkN ps o 0=ps:=by
 apply List.ext_getElem
 ·simp[tkN]
 ·intro i h1 h2
  simp[tkN]
theorem zkW(ps:List Pt)(o:Nat→Pt)(k i:Nat)(h:i<ps.length):(tkN ps o k)[i]'(by rw[zbr];exact h)=if i<k then tkP ps[i] (o i) else ps[i]:=by simp[tkN]
theorem zso(ps:List Pt)(o:Nat→Pt)(k:Nat)(h:k<ps.length):(tkN ps o k).set k (tkP ps[k] (o k))=tkN ps o (k+1):=by
 apply List.ext_getElem
 ·simp[tkN]
 ·intro i h1 h2
  have hi:i<ps.length:=by rw[zbr] at h2;exact h2
  rw[List.getElem_set,zkW ps o (k+1) i hi]
  by_cases hki:k=i
  ·subst hki;rw[if_pos rfl,if_pos (by omega)]
  ·rw[if_neg hki,zkW ps o k i hi]
   by_cases h3:i<k
   ·rw[if_pos h3,if_pos (by omega)]
   ·rw[if_neg h3,if_neg (by omega)]
theorem Kp.mono_set{S:Nat→Prop}{w w1:World}{g:Nat}(h:Kp (·=g) w w1)(hs:S g):Kp S w w1:=h.mono fun k _ e=>by subst e;exact hs
theorem AccAt.setPts{w w':World}{a g:Nat}{v:Value}{rows:Int}{ps ps':List Pt}{cur':Array Value}{c:Nat}(h:AccAt w a v rows ps)(hv:v=.slice (some ⟨g,0,none⟩) ps.length c)(hl:ps'.length=ps.length)(hp:PtsAt w' g cur' ps')(hk:Kp (·=g) w w')(hag:a≠g):AccAt w' a v rows ps' :=
 ⟨h.blk.kp hk hag,.inr ⟨g,c,cur',by rw[hl];exact hv,hp⟩⟩
theorem AccAt.ne{w:World}{a g:Nat}{cur:Array Value}{v:Value}{rows:Int}{ps ps':List Pt}(h:AccAt w a v rows ps)(hp:PtsAt w g cur ps'):a≠g:=zfa h.blk hp.blk (by decide)
theorem AccAt.setRows{w:World}{a:Nat}{v:Value}{rows:Int}{ps:List Pt}(h:AccAt w a v rows ps)(r:Int):AccAt (w.setCell ⟨a,0,none⟩ (.int .i64 r)) a v r ps:=by
 refine⟨by simpa using h.blk.set 0 (.int .i64 r),?_⟩
 rcases h.pts with h'|⟨g,c,cur,e,h'⟩
 ·exact .inl h'
 ·refine .inr ⟨g,c,cur,e,h'.keep (S:=(·=a)) ((Kp.refl _ _).set _ _ (fun _=>rfl)) (fun e=>(h.ne h') e.symm) (fun k cs hk hc=>?_)⟩
  subst hk
  exact zfa h.blk (show Blk w k cs 262 from hc) (by decide) rfl
set_option maxRecDepth 20000 in
theorem zhX(f:FuncId)(hent:∀(args:Array Value) (W:World),Sem.run Tryz.prog (callFunc f args) W=.ok (.enter f args) W)(caps:Array Value)(a:Nat)(v:Value)(rows m:Int)(ps:List Pt)(o:Nat→Pt)(w:World)(hA:AccAt w a v rows ps)(hn:ps.length≤6)(hr:0≤rows∧rows≤1000000)(hm:1≤m∧m≤1000000)
  (kp:∀p∈ps,OkPt p)(ko:∀i,i<ps.length→OkPt (o i))(hkk:∀i (h:i<ps.length),(o i).kind=ps[i].kind)
  (hof:∀(i:Nat) (W:World) (R:Int),i<ps.length→AccAt W a v R (tkN ps o i)→Kp (accS a v) w W→Calls Tryz.prog f (#[.int .i64 (i:Int)]++caps) W fun e w'=>(∃q c,e=.returned (.agg #[.string (o i).what,.int .i64 (o i).kind,.slice q (o i).ws.length c,.int .i64 (o i).best.1,.int .i64 (o i).best.2.1,.string (o i).best.2.2])∧Aside (TotA w' (.slice q (o i).ws.length c) (o i).ws))∧Below W.heap.size W w') :
  Calls Tryz.prog 201 #[.pointer (some ⟨a,0,none⟩),.int .i64 m,.func (.func f) #[] caps] w fun e w'=>e=.returned (.tuple #[])∧Aside (AccAt w' a v (rows+m) (tkN ps o ps.length))∧Aside (Kp (accS a v) w w'):=by
 have hc0:=hA.cell0
 have hfz:=hA.blk.frozen 0
 have hal:=hA.blk.lt
 have c0:=zgZ rows m w hr ⟨by omega,hm.2⟩
 have hmz:¬m=0:=by omega
 have hmb:(m == 0)=false:=by simpa using hmz
 obtain⟨q,c,rfl⟩:=hA.form
 have hA1:Aside (AccAt (w.setCell ⟨a,0,none⟩ (.int .i64 (rows+m))) a (.slice q ps.length c) (rows+m) ps):=hA.setRows (rows+m)
 have hK1:Aside (Kp (accS a (.slice q ps.length c)) w (w.setCell ⟨a,0,none⟩ (.int .i64 (rows+m)))):=(Kp.refl _ _).set _ _ (fun _=>.inl rfl)
 have hc1:(w.setCell ⟨a,0,none⟩ (.int .i64 (rows+m))).cell? ⟨a,1,none⟩=some (.slice q ps.length c):=hA1.out.cell1
 have HF:Aside _:=hof
 have HKP:Aside (∀p∈ps,OkPt p):=kp
 have HKO:Aside _:=ko
 have HKK:Aside _:=hkk
 obtain⟨n,hnn⟩:∃n,ps.length=n:=⟨_,rfl⟩
 have HN:Hid (ps.length=n):=hnn
 rw[hnn] at hc1 hn ⊢
 rw[hnn] at hA1 hK1 HF
 have HA0:Aside _:=hA
 clear hA hof kp ko hkk hnn hr hm
 go_enter Tryz.func201,Tryz.ntmps201
 go_wp2_with fail
 refine c0.mono ?_
 rintro e w1 ⟨rfl,rfl⟩
 clear c0
 go_wp2
 go_loopg [6,23] n (fun gg _ s21 wr=>∃kk:Nat,kk≤n∧n-kk≤gg∧s21=.int .i64 kk∧Aside (AccAt wr a (.slice q n c) (rows+m) (tkN ps o kk))∧Aside (Kp (accS a (.slice q n c)) w1 wr))
 case atStart=>exact⟨0,Nat.zero_le _,by omega,rfl,by rw[zpA];exact hA1,hK1⟩
 case round =>
  obtain⟨kk,hkk,hg,rfl,AR,KR⟩:=hrel
  clear hA1 hK1 hc1 HA0 hc0 hfz
  by_cases hlt:kk<n
  ·have hltz:(kk:Int)<(n:Int):=by omega
   have h0z:(0:Int)≤(kk:Int):=by omega
   have hki:kk<ps.length:=by rw[HN.out];exact hlt
   have hkt:kk<(tkN ps o kk).length:=by rw[zbr];exact hki
   obtain⟨g,c',cur,hve,PT⟩:=AR.out.at hkt
   rw[zbr,HN.out] at hve
   injection hve with hq1 hq2 hq3
   subst hq1 hq3
   have hag:=AR.out.ne PT
   have hcr:=AR.out.cell1
   have cF:=HF.out kk wr.drew (rows+m) hlt (AR.out.on (Below.drew (Below.refl _ _))) KR.out.drew
   obtain⟨p,hpe⟩:∃p,ps[kk]=p:=⟨_,rfl⟩
   have hpt:(tkN ps o kk)[kk]'hkt=p:=by rw[zkW ps o kk kk hki,if_neg (by omega),hpe]
   have hokp:OkPt p:=HKP.out p (by rw[←hpe];exact List.getElem_mem _)
   have hoko:=HKO.out kk hki
   have hkko:=HKK.out kk hki
   rw[hpe] at hkko
   have hset:=zso ps o kk hki
   rw[hpe] at hset
   generalize o kk=ok at cF hoko hkko hset
   have cT:=fun (w2:World) (q2:Option Addr) (c2:Nat) (T2:TotA w2 (.slice q2 ok.ws.length c2) ok.ws) (P2:PtsAt w2 g cur (tkN ps o kk))=>zkw g cur (tkN ps o kk) kk hkt p hpt ok q2 c2 w2 P2 hokp hoko T2 hkko
   rw[hset] at cT
   have HPT:Aside _:=PT
   have HAG:Hid (a≠g):=hag
   clear hset hkko hoko hokp hpt hpe hq2 PT hag
   go_wp2
   go_region_with (first
    | (go_at_call 222;refine (cT _ _ _ T2.out P2.out).mono ?_;rintro e w3 ⟨rfl,⟨cur',P3⟩,K3⟩)
    | (refine cF.mono ?_;rintro e w2 ⟨⟨q2,c2,rfl,T2⟩,B2⟩;have A2:Aside (AccAt w2 a (.slice (some ⟨g,0,none⟩) n c) (rows+m) (tkN ps o kk)):=(AR.out.on (Below.drew (Below.refl _ _))).on B2;have P2:Aside (PtsAt w2 g cur (tkN ps o kk)):=(HPT.out.on (Below.drew (Below.refl _ _))).on B2;have K2:Aside (Kp (accS a (.slice (some ⟨g,0,none⟩) n c)) w1 w2):=(KR.out.drew).on B2;have hc2:=A2.out.cell1))
   all_goals
    have A3:Aside (AccAt w3 a (.slice (some ⟨g,0,none⟩) n c) (rows+m) (tkN ps o (kk+1))):=A2.out.setPts (by rw[zbr,HN.out]) (by rw[zbr,zbr]) P3.out K3.out HAG.out
    have K4:Aside (Kp (accS a (.slice (some ⟨g,0,none⟩) n c)) w1 w3):=K2.out.trans (K3.out.mono_set (.inr rfl))
    clear A2 P2 K2 P3 K3 B2 T2
    go_wp2
    go_roundg (n-(kk+1))
    case measure=>omega
    case rel=>exact⟨kk+1,by omega,by omega,by go_num,A3,K4⟩
  ·have hltz:¬(kk:Int)<(n:Int):=by omega
   obtain rfl:kk=n:=by omega
   go_wp2
   go_end0
   exact⟨rfl,by first|exact AR|(rw[HN.out];exact AR),KR⟩
theorem zol:∀(args:Array Value) (W:World),Sem.run Tryz.prog (callFunc 199 args) W=.ok (.enter 199 args) W:=fun args W=>by kernel_rfl
theorem zom:∀(args:Array Value) (W:World),Sem.run Tryz.prog (callFunc 202 args) W=.ok (.enter 202 args) W:=fun args W=>by kernel_rfl
structure OkA(rows:Int)(p:Pt):Prop where
 ok:OkPt p
 lo:-(rows*9223372036854775808)≤sv p.ws
 hi:sv p.ws≤rows*9223372036854775808
theorem zhN:Short []:=fun a t e _=>by simp at e
theorem zkM(x:Int):Short [x]:=fun a t e hn=>by
 have h1:=congrArg List.length e
 rw[List.length_append,List.length_singleton,List.length_singleton] at h1
 have h2:a.length=0:=by omega
 exact absurd (List.length_eq_zero_iff.1 h2) hn
theorem znn{p:Pt}{v:V3}(h:OkPt p)(hc:ckPt p v=0)(hb:inB v.2.1):OkA 1 (oneP p v):=by
 obtain⟨e1,e2⟩:=zbO p v
 have hw:(oneP p v).wh=p.wh:=by unfold Pt.wh;rw[e1]
 have base:∀(ws:List Int) (best:V3),wdR ws∧Short ws∧ws.length≤900→(best.1=0∧best=noV∨best.1=p.kind∧chk best.1 best.2.1 best.2.2.data.toList=0∧inB best.2.1)→OkPt ⟨p.what,p.kind,ws,best⟩:=fun ws best h1 h2=>⟨h.ag,h.kn,h.ks,h1,h2⟩
 have hnil:wdR []∧Short []∧([]:List Int).length≤900:=⟨fun x hx=>absurd hx (by simp),zhN,by simp⟩
 have hno:noV.1=0∧noV=noV∨noV.1=p.kind∧chk noV.1 noV.2.1 noV.2.2.data.toList=0∧inB noV.2.1:=.inl ⟨rfl,rfl⟩
 unfold oneP
 split
 ·have hs:=zsk v.2.1 hb
  unfold inB at hb
  refine⟨base _ _ ⟨fun x hx=>?_,zkM _,by simp⟩ hno,by rw[hs];omega,by rw[hs];omega⟩
  have:x=v.2.1 % 18446744073709551616:=by simpa using hx
  omega
 ·split
  ·rename_i hx
   refine⟨base _ _ hnil (.inr ?_),by show _≤(0:Int);omega,by show (0:Int)≤_;omega⟩
   unfold ckPt at hc
   rw[if_neg (by rcases hx with hx|hx<;>rw[hx]<;>decide)] at hc
   by_cases h1:chk v.1 v.2.1 v.2.2.data.toList=0
   ·rw[if_neg (fun h=>h h1)] at hc
    by_cases h2:v.1=p.kind
    ·exact⟨h2,h1,hb⟩
    ·rw[if_pos h2] at hc;omega
   ·rw[if_pos h1] at hc;exact absurd hc h1
  ·exact⟨base _ _ hnil hno,by show _≤(0:Int);omega,by show (0:Int)≤_;omega⟩
theorem ztD{r s:Int}{p o:Pt}(h:OkA r p)(k:OkA s o)(hk:o.kind=p.kind)(hr:0≤r)(hs:0≤s)(hrs:r+s≤100000):OkA (r+s) (tkP p o):=by
 have hlo:=h.lo
 have hhi:=h.hi
 have klo:=k.lo
 have khi:=k.hi
 have same:OkA (r+s) p:=⟨h.ok,by omega,by omega⟩
 unfold tkP
 split
 ·obtain⟨s1,s2,s3⟩:=zkR p.ws o.ws h.ok.ws.1 k.ok.ws.1
  obtain⟨t1,t2,t3,t4⟩:=zrT (sumW p.ws o.ws) s2 (by intro e;rw[e] at s3;simp at s3)
  have hsv:sv (shW (sumW p.ws o.ws))=sv p.ws+sv o.ws:=by rw[t1,s1]
  refine⟨⟨h.ok.ag,h.ok.kn,h.ok.ks,⟨t3,t2,?_⟩,h.ok.best⟩,by show _≤sv (shW _);rw[hsv];omega,by show sv (shW _)≤_;rw[hsv];omega⟩
  have:=zmw _ t3 t2 (by rw[hsv];omega)
  show (shW _).length≤900
  omega
 ·split
  ·split
   ·exact⟨⟨h.ok.ag,h.ok.kn,h.ok.ks,h.ok.ws,by have:=k.ok.best;rw[hk] at this;exact this⟩,same.lo,same.hi⟩
   ·exact same
  ·exact same
def adE(ps:List Pt)(vs:List V3):Int:=if vs.length≠ps.length then 3 else fstE (List.zipWith ckPt ps vs)
def adP(ps:List Pt)(vs:List V3):List Pt:=tkN ps (fun i=>oneP (ps.getD i ⟨⟨#[]⟩,0,[],noV⟩) (vs.getD i noV)) ps.length
theorem zcG:∀{L:List Int},fstE L=0→∀e∈L,e=0
 | [],_=>by simp
 | e::r,h=>by
  rw[fstE] at h
  by_cases h0:e=0
  ·rw[if_neg (fun k=>k h0)] at h
   intro x hx
   rcases List.mem_cons.1 hx with rfl|hx
   ·exact h0
   ·exact zcG h x hx
  ·rw[if_pos h0] at h;exact absurd h h0
theorem znH(g i:Nat)(p:Pt)(q:Option Addr)(c:Nat)(L:Nat)(vq:Option Addr)(vc:Nat)(vs:List V3)(w:World)(hp:zbo w g (i*6) p q c)(hL:w.cell? ⟨L,0,none⟩=some (.slice vq vs.length vc))(hv:zaf w vq vs)(hi:i<vs.length)(hn:vs.length≤6)(hsz:zbt vs)(E:Int)(hE:ckPt p vs[i]=E) :
  Calls Tryz.prog 199 #[.int .i64 (i:Int),.pointer (some ⟨g,i*6,none⟩),.pointer (some ⟨L,0,none⟩)] w fun e w'=>e=.returned (errV E)∧Below w.heap.size w w':=by
 rcases hv with h0|⟨vb,vo,rfl,hvl,hv⟩
 ·omega
 obtain⟨v0,v1,v2⟩:=hv i hi
 have hs:=(hsz vs[i] (List.getElem_mem _)).1
 have cC:=ziv g (i*6) p.what p.kind vs[i].1 vs[i].2.1 vs[i].2.2 w hp.c0 hp.c1 hp.lt hs E hE
 have hlt:(i:Int)<(vs.length:Int):=by omega
 have h0z:(0:Int)≤(i:Int):=by omega
 clear hv hp hE hsz
 generalize vs[i]=V at *
 generalize vs.length=n at *
 obtain⟨t,k,s⟩:=V
 go_enter Tryz.func199,Tryz.ntmps199
 go_wp2_with fail
 refine cC.mono ?_
 rintro e w1 ⟨rfl,B1⟩
 clear cC
 go_wp2
 go_ret
 exact⟨rfl,B1⟩
theorem zks(w:World){w2:World}(hb:Below (w.alloc (.cells #[.string ⟨#[]⟩,.int .i64 0,.slice none 0 0,.int .i64 0,.int .i64 0,.string ⟨#[]⟩] 292)).heap.size (w.alloc (.cells #[.string ⟨#[]⟩,.int .i64 0,.slice none 0 0,.int .i64 0,.int .i64 0,.string ⟨#[]⟩] 292)) w2):Blk w2 w.heap.size #[.string ⟨#[]⟩,.int .i64 0,.slice none 0 0,.int .i64 0,.int .i64 0,.string ⟨#[]⟩] 292:=(zab w _ _).on hb
set_option maxRecDepth 20000 in
theorem znI(a g i n:Nat)(c:Nat)(p:Pt)(q:Option Addr)(pc:Nat)(LA LV:Nat)(vq:Option Addr)(vc:Nat)(vs:List V3)(w:World)(hp:zbo w g (i*6) p q pc)(hag:isAg p.wh=true)(hLA:w.cell? ⟨LA,0,none⟩=some (.pointer (some ⟨a,0,none⟩)))(ha:w.cell? ⟨a,1,none⟩=some (.slice (some ⟨g,0,none⟩) n c))(hLV:w.cell? ⟨LV,0,none⟩=some (.slice vq vs.length vc))(hv:zaf w vq vs)(hi:i<vs.length)(hin:i<n)(hn:vs.length≤6)(hl1:LA<w.heap.size)(hl2:LV<w.heap.size)(hl3:a<w.heap.size)(hs:p.wh=zaH∨p.wh=wMost→vs[i].2.2.size≤281474976710656) :
  Calls Tryz.prog 202 #[.int .i64 (i:Int),.pointer (some ⟨LA,0,none⟩),.pointer (some ⟨LV,0,none⟩)] w fun e w'=>(∃q c,e=.returned (.agg #[.string (oneP p vs[i]).what,.int .i64 (oneP p vs[i]).kind,.slice q (oneP p vs[i]).ws.length c,.int .i64 (oneP p vs[i]).best.1,.int .i64 (oneP p vs[i]).best.2.1,.string (oneP p vs[i]).best.2.2])∧Aside (TotA w' (.slice q (oneP p vs[i]).ws.length c) (oneP p vs[i]).ws))∧Below w.heap.size w w':=by
 rcases hv with h0|⟨vb,vo,rfl,hvl,hv⟩
 ·omega
 obtain⟨v0,v1,v2⟩:=hv i hi
 have b1:=alB w (.cells #[.string ⟨#[]⟩,.int .i64 0,.slice none 0 0,.int .i64 0,.int .i64 0,.string ⟨#[]⟩] 292)
 have p1:=hp.on b1
 have cO:=zmk g (i*6) p vs[i] (World.drew _) (p1.on (Below.drew (Below.refl _ _))).c0 (p1.on (Below.drew (Below.refl _ _))).c1 (p1.on (Below.drew (Below.refl _ _))).lt hag hs
 simp only[partW] at cO
 have hlt:(i:Int)<(vs.length:Int):=by omega
 have hlt2:(i:Int)<(n:Int):=by omega
 have h0z:(0:Int)≤(i:Int):=by omega
 have hn6:(i:Int)≤6:=by omega
 have d0:∀o1:Obj,(w.alloc o1).cell? ⟨LA,0,none⟩=some (.pointer (some ⟨a,0,none⟩)):=fun o1=>by rw[(alB w o1).cell (p:=⟨LA,0,none⟩) hl1];exact hLA
 have d1:∀o1:Obj,(w.alloc o1).cell? ⟨LV,0,none⟩=some (.slice (some ⟨vb,vo,none⟩) vs.length vc):=fun o1=>by rw[(alB w o1).cell (p:=⟨LV,0,none⟩) hl2];exact hLV
 have d2:∀o1:Obj,(w.alloc o1).cell? ⟨a,1,none⟩=some (.slice (some ⟨g,0,none⟩) n c):=fun o1=>by rw[(alB w o1).cell (p:=⟨a,1,none⟩) hl3];exact ha
 have d3:∀o1:Obj,(w.alloc o1).cell? ⟨vb,vo+i*3,none⟩=some (.int .i64 vs[i].1):=fun o1=>by rw[(alB w o1).cell (p:=⟨vb,_,none⟩) hvl];exact v0
 have d4:∀o1:Obj,(w.alloc o1).cell? ⟨vb,vo+i*3+1,none⟩=some (.int .i64 vs[i].2.1):=fun o1=>by rw[(alB w o1).cell (p:=⟨vb,_,none⟩) hvl];exact v1
 have d5:∀o1:Obj,(w.alloc o1).cell? ⟨vb,vo+i*3+2,none⟩=some (.string vs[i].2.2):=fun o1=>by rw[(alB w o1).cell (p:=⟨vb,_,none⟩) hvl];exact v2
 clear hv hp hs p1 hag v0 v1 v2 hLA hLV ha
 generalize oneP p vs[i]=o at *
 generalize vs[i]=V at *
 generalize vs.length=m at *
 obtain⟨t,k,s⟩:=V
 obtain⟨ox,okd,ows,⟨ot,on,os⟩⟩:=o
 simp only at *
 generalize ows.length=ol at *
 go_enter Tryz.func202,Tryz.ntmps202
 go_wp2
 go_region_with (go_at_call 203;refine cO.mono ?_;rintro e w2 ⟨⟨oq,oc,rfl,T2⟩,B2⟩;have B2':=(Below.drew (Below.refl _ _)).trans B2;have P2:=zks w B2';have c0:=P2.cell 0;have c1:=P2.cell 1;have c2:=P2.cell 2;have c3:=P2.cell 3;have c4:=P2.cell 4;have c5:=P2.cell 5;have cf:=P2.frozen;simp at c0 c1 c2 c3 c4 c5;clear B2)
 all_goals
  have K6:But w.heap.size w2 ((((((w2.setCell ⟨w.heap.size,0,none⟩ (.string ox)).setCell ⟨w.heap.size,1,none⟩ (.int .i64 okd)).setCell ⟨w.heap.size,2,none⟩ (.slice oq ol oc)).setCell ⟨w.heap.size,3,none⟩ (.int .i64 ot)).setCell ⟨w.heap.size,4,none⟩ (.int .i64 on)).setCell ⟨w.heap.size,5,none⟩ (.string os)):=But.cells [.string ox,.int .i64 okd,.slice oq ol oc,.int .i64 ot,.int .i64 on,.string os] 0 _ (But.refl _ _)
  have T6:Aside _:=zmG P2 T2.out (Kp.of_but (S:=(·=w.heap.size)) K6 rfl)
  have B6:Aside _:=(b1.trans (B2'.mono b1.size)).trans K6.below
  clear K6 T2 B2' P2 b1
  go_wp2
  exact bodyPost_ret (v:=.agg #[.string ox,.int .i64 okd,.slice oq ol oc,.int .i64 ot,.int .i64 on,.string os]) (by simp[results,Tryz.results202,go_sem,World.cell?_setCell_other,World.cell?_setCell_same,c0,c1,c2,c3,c4,c5]) rfl ⟨⟨oq,oc,rfl,T6⟩,B6.out⟩
structure AccOk(rows:Int)(ps:List Pt):Prop where
 len:ps.length≤6
 lo:0≤rows
 hi:rows≤10000
 ok:∀p∈ps,OkA rows p
theorem AccAt.ownlt{w:World}{a:Nat}{v:Value}{rows:Int}{ps:List Pt}(h:AccAt w a v rows ps):∀k,accS a v k→k<w.heap.size:=fun k hk=>by
 rcases hk with rfl|hk
 ·exact h.blk.lt
 ·rcases h.pts with ⟨_,e⟩|⟨g,c,cur,e,hp⟩
  ·rw[e] at hk;simp[Value.ownBlock] at hk
  ·rw[e] at hk
   have:g=k:=by simpa [Value.ownBlock] using hk
   subst this
   exact hp.blk.lt
theorem zpM{ps:List Pt}{vs:List V3}{i:Nat}(h1:i<ps.length)(h2:i<vs.length)(h:i<(List.zipWith ckPt ps vs).length):(List.zipWith ckPt ps vs)[i]=ckPt ps[i] vs[i]:=by simp
theorem adO{ps:List Pt}{vs:List V3}{i:Nat}(h1:i<ps.length)(h2:i<vs.length):oneP (ps.getD i ⟨⟨#[]⟩,0,[],noV⟩) (vs.getD i noV)=oneP ps[i] vs[i]:=by
 rw[List.getD_eq_getElem?_getD,List.getD_eq_getElem?_getD,List.getElem?_eq_getElem h1,List.getElem?_eq_getElem h2]
 rfl
theorem zaf.kp{S:Nat→Prop}{w w':World}{q:Option Addr}{vs:List V3}(h:zaf w q vs)(hk:Kp S w w')(hs:vs.length=0∨∀b o,q=some ⟨b,o,none⟩→¬S b):zaf w' q vs:=by
 rcases h with h|⟨b,off,e,hl,h⟩
 ·exact .inl h
 rcases hs with hs|hs
 ·exact .inl hs
 ·refine .inr ⟨b,off,e,by have:=hk.size;omega,fun j hj=>?_⟩
  obtain⟨h1,h2,h3⟩:=h j hj
  have hn:=hs b off e
  exact⟨by rw[hk.cell _ hl hn];exact h1,by rw[hk.cell _ hl hn];exact h2,by rw[hk.cell _ hl hn];exact h3⟩
structure AdBx(w:World)(LA LV a:Nat)(vq:Option Addr)(vn vc:Nat):Prop where
 ca:w.cell? ⟨LA,0,none⟩=some (.pointer (some ⟨a,0,none⟩))
 cv:w.cell? ⟨LV,0,none⟩=some (.slice vq vn vc)
 la:LA<w.heap.size
 lv:LV<w.heap.size
theorem AdBx.on{w w':World}{LA LV a:Nat}{vq:Option Addr}{vn vc:Nat}(h:AdBx w LA LV a vq vn vc)(hb:Below w.heap.size w w'):AdBx w' LA LV a vq vn vc :=
 ⟨by rw[hb.cell (p:=⟨LA,0,none⟩) h.la];exact h.ca,by rw[hb.cell (p:=⟨LV,0,none⟩) h.lv];exact h.cv,by have:=hb.size;have:=h.la;omega,by have:=hb.size;have:=h.lv;omega⟩
theorem AdBx.kp{S:Nat→Prop}{w w':World}{LA LV a:Nat}{vq:Option Addr}{vn vc:Nat}(h:AdBx w LA LV a vq vn vc)(hk:Kp S w w')(h1:¬S LA)(h2:¬S LV):AdBx w' LA LV a vq vn vc :=
 ⟨by rw[hk.cell 0 h.la h1];exact h.ca,by rw[hk.cell 0 h.lv h2];exact h.cv,by have:=hk.size;have:=h.la;omega,by have:=hk.size;have:=h.lv;omega⟩
theorem znJ(a:Nat)(q:Option Addr)(c:Nat)(rows:Int)(ps:List Pt)(vq:Option Addr)(vc:Nat)(vs:List V3)(LA LV:Nat)(w:World)(hA:AccAt w a (.slice q ps.length c) rows ps)(hn:ps.length≤6)(hlen:vs.length=ps.length)(hv:zaf w vq vs)(hsz:zbt vs)(hb:AdBx w LA LV a vq vs.length vc)(E:Int)(hE:fstE (List.zipWith ckPt ps vs)=E) :
  Calls Tryz.prog 198 #[.pointer (some ⟨a,0,none⟩),.func (.func 199) #[] #[.pointer (some ⟨LV,0,none⟩)]] w fun e w'=>e=.returned (errV E)∧Aside (Below w.heap.size w w'):=by
 have hzl:(List.zipWith ckPt ps vs).length=ps.length:=by simp[hlen]
 refine (zjs 199 zol #[.pointer (some ⟨LV,0,none⟩)] a q ps.length c (List.zipWith ckPt ps vs) hzl hn (fun _ W=>Below w.heap.size w W) (fun W=>Below w.heap.size w W) w (Below.refl _ _) (fun i W hW=>(hA.on hW).cell1) (fun h0=>?_) (fun g i W hi hq hW=>?_) (fun W hW=>hW) E hE).mono fun e w' hh=>⟨hh.1,by have:=hh.2.out;split at this<;>exact this⟩
 ·obtain⟨g,c',cur,e,_⟩:=hA.at h0
  injection e with e
  exact⟨g,e⟩
 ·have hi1:i<ps.length:=by omega
  have hi2:i<vs.length:=by omega
  obtain⟨g',c',cur,e,hP⟩:=(hA.on hW).at hi1
  injection e with e
  rw[hq] at e
  injection e with e
  injection e with e
  subst e
  obtain⟨pq,pc,hp⟩:=hP.part i hi1
  have:=znH g i ps[i] pq pc LV vq vc vs W hp (hb.on hW).cv (hv.on hW) hi2 (by omega) hsz _ (zpM hi1 hi2 hi).symm
  refine this.mono fun e w' hh=>⟨hh.1,?_⟩
  have hB:Below w.heap.size w w':=hW.trans (hh.2.mono hW.size)
  show ite _ _ _
  split<;>exact hB
theorem znK(a:Nat)(q:Option Addr)(c:Nat)(rows:Int)(ps:List Pt)(vq:Option Addr)(vc:Nat)(vs:List V3)(LA LV:Nat)(w:World)(hA:AccAt w a (.slice q ps.length c) rows ps)(hok:AccOk rows ps)(hlen:vs.length=ps.length)(hv:zaf w vq vs)(hsz:zbt vs)(hvd:vs.length=0∨∀b o,vq=some ⟨b,o,none⟩→¬accS a (.slice q ps.length c) b)(hb:AdBx w LA LV a vq vs.length vc)(hA1:¬accS a (.slice q ps.length c) LA)(hA2:¬accS a (.slice q ps.length c) LV)(hE:fstE (List.zipWith ckPt ps vs)=0) :
  Calls Tryz.prog 201 #[.pointer (some ⟨a,0,none⟩),.int .i64 1,.func (.func 202) #[] #[.pointer (some ⟨LA,0,none⟩),.pointer (some ⟨LV,0,none⟩)]] w fun e w'=>e=.returned (.tuple #[])∧Aside (AccAt w' a (.slice q ps.length c) (rows+1) (adP ps vs))∧Aside (Kp (accS a (.slice q ps.length c)) w w'):=by
 have hck:∀i (h1:i<ps.length) (h2:i<vs.length),ckPt ps[i] vs[i]=0:=fun i h1 h2=>by
  have hl:i<(List.zipWith ckPt ps vs).length:=by simp;omega
  rw[←zpM h1 h2 hl]
  exact zcG hE _ (List.getElem_mem _)
 have hsm:∀i (h1:i<ps.length) (h2:i<vs.length),ps[i].wh=zaH∨ps[i].wh=wMost→vs[i].2.2.size≤281474976710656:=fun i h1 h2 hx=>by
  have hc:=hck i h1 h2
  unfold ckPt at hc
  rw[if_neg (by rcases hx with hx|hx<;>rw[hx]<;>decide)] at hc
  by_cases h3:chk vs[i].1 vs[i].2.1 vs[i].2.2.data.toList=0
  ·have:=zcQ h3
   simp at this
   omega
  ·rw[if_pos h3] at hc;exact absurd hc h3
 unfold adP
 have h1:=hok.lo
 have h2:=hok.hi
 refine zhX 202 zom _ a _ rows 1 ps _ w hA hok.len (by omega) (by omega) (fun p hp=>(hok.ok p hp).ok) (fun i hi=>?_) (fun i hi=>?_) (fun i W R hi hAW hKW=>?_)
 ·have hi2:i<vs.length:=by omega
  rw[adO hi hi2]
  exact (znn (hok.ok _ (List.getElem_mem _)).ok (hck i hi hi2) (hsz _ (List.getElem_mem _)).2).ok
 ·have hi2:i<vs.length:=by omega
  rw[adO hi hi2]
  exact (zbO _ _).2
 ·have hi2:i<vs.length:=by omega
  simp only[adO hi hi2]
  have hit:i<(tkN ps (fun i=>oneP (ps.getD i ⟨⟨#[]⟩,0,[],noV⟩) (vs.getD i noV)) i).length:=by rw[zbr];exact hi
  obtain⟨g,c',cur,e,hP⟩:=hAW.at hit
  obtain⟨pq,pc,hp⟩:=hP.part i hit
  rw[zkW ps _ i i hi,if_neg (by omega)] at hp
  have hc1:=hAW.cell1
  rw[e,zbr] at hc1
  have hbW:=hb.kp hKW hA1 hA2
  exact znI a g i ps.length c' ps[i] pq pc LA LV vq vc vs W hp (hok.ok _ (List.getElem_mem _)).ok.ag hbW.ca hc1 hbW.cv (hv.kp hKW hvd) hi2 hi (by have:=hok.len;omega) hbW.la hbW.lv hAW.blk.lt (hsm i hi hi2)
set_option maxRecDepth 20000 in
theorem zpR(a:Nat)(v:Value)(rows:Int)(ps:List Pt)(vq:Option Addr)(vc:Nat)(vs:List V3)(w:World)(hA:AccAt w a v rows ps)(hok:AccOk rows ps)(hlim:rows+1≤10000)(hv:zaf w vq vs)(hsz:zbt vs)(hvl:vs.length≤maxLen)(hvd:vs.length=0∨∀b o,vq=some ⟨b,o,none⟩→¬accS a v b)(E:Int)(hE:adE ps vs=E) :
  Calls Tryz.prog 174 #[.pointer (some ⟨a,0,none⟩),.slice vq vs.length vc] w fun e w'=>e=.returned (errV E)∧Aside (if E=0 then AccAt w' a v (rows+1) (adP ps vs) else AccAt w' a v rows ps)∧Aside (Kp (accS a v) w w'):=by
 have hal:=hA.blk.lt
 have hc1:=hA.cell1
 obtain⟨q,c,rfl⟩:=hA.form
 obtain⟨PST,hPST⟩:∃PST:Ending→World→Prop,(fun (e:Ending) (w':World)=>e=.returned (errV E)∧Aside (if E=0 then AccAt w' a (.slice q ps.length c) (rows+1) (adP ps vs) else AccAt w' a (.slice q ps.length c) rows ps)∧Aside (Kp (accS a (.slice q ps.length c)) w w'))=PST:=⟨_,rfl⟩
 have HPE:Hid (∀e w',(e=.returned (errV E)∧Aside (if E=0 then AccAt w' a (.slice q ps.length c) (rows+1) (adP ps vs) else AccAt w' a (.slice q ps.length c) rows ps)∧Aside (Kp (accS a (.slice q ps.length c)) w w'))→PST e w'):=by
  intro e w' h
  rw[←hPST]
  exact h
 rw[hPST]
 clear hPST
 have B1:=al2 w (.cells #[.pointer (some ⟨a,0,none⟩)] 252) (.cells #[.slice vq vs.length vc] 42)
 have d1:∀o1 o2:Obj,((w.alloc o1).alloc o2).cell? ⟨a,1,none⟩=some (.slice q ps.length c):=fun o1 o2=>by rw[(al2 w o1 o2).cell (p:=⟨a,1,none⟩) hal];exact hc1
 have hmx:(vs.length:Int)≤9223372036854775807:=by unfold maxLen at hvl;omega
 have hpx:(ps.length:Int)≤6:=by have:=hok.len;omega
 by_cases hlen:vs.length=ps.length
 ·have hE2:fstE (List.zipWith ckPt ps vs)=E:=by rw[←hE,adE,if_neg (fun h=>h hlen)]
  have HBX:Aside (AdBx ((w.alloc (.cells #[.pointer (some ⟨a,0,none⟩)] 252)).alloc (.cells #[.slice vq vs.length vc] 42)) w.heap.size (w.heap.size+1) a vq vs.length vc):=by
   refine⟨?_,?_,by simp;omega,by simp⟩
   ·rw[((Below.refl _ _).alloc (B:=(w.alloc (.cells #[.pointer (some ⟨a,0,none⟩)] 252)).heap.size) (Nat.le_refl _) _).cell (p:=⟨w.heap.size,0,none⟩) (by simp),World.cell?_alloc_at _ _ _ _ rfl];rfl
   ·rw[World.cell?_alloc_at _ _ _ _ (by simp)];rfl
  have hn1:¬accS a (.slice q ps.length c) w.heap.size:=fun h=>by have:=hA.ownlt _ h;omega
  have hn2:¬accS a (.slice q ps.length c) (w.heap.size+1):=fun h=>by have:=hA.ownlt _ h;omega
  have cE:=fun (W:World) (hW:Below w.heap.size w W) (hb:AdBx W w.heap.size (w.heap.size+1) a vq vs.length vc)=>znJ a q c rows ps vq vc vs w.heap.size (w.heap.size+1) W (hA.on hW) hok.len hlen (hv.on hW) hsz hb E hE2
  have cT:=fun (W:World) (hW:Below w.heap.size w W) (hb:AdBx W w.heap.size (w.heap.size+1) a vq vs.length vc) (h0:E=0)=>znK a q c rows ps vq vc vs w.heap.size (w.heap.size+1) W (hA.on hW) hok hlen (hv.on hW) hsz hvd hb hn1 hn2 (hE2.trans h0)
  have hne:((ps.length:Int) != (ps.length:Int))=false:=by simp
  have HA:Aside _:=hA
  clear hE hE2 hv hsz hvd hok hA hc1 hn1 hn2
  rw[hlen] at HBX cE cT hmx ⊢
  clear hlen B1
  generalize ps.length=PN at *
  go_enter Tryz.func174,Tryz.ntmps174
  go_wp2
  go_quiet (fail)
  obtain⟨W1,hW1⟩:∃W1,((w.alloc (.cells #[.pointer (some ⟨a,0,none⟩)] 252)).alloc (.cells #[.slice vq PN vc] 42)).drewN nq=W1:=⟨_,rfl⟩
  have BX1:Aside (AdBx W1 w.heap.size (w.heap.size+1) a vq PN vc):=by rw[←hW1];exact HBX.out.on (below_drewN (Below.refl _ _) _)
  have BW1:Aside (Below w.heap.size w W1):=by rw[←hW1];exact below_drewN (al2 w _ _) _
  rw[hW1]
  clear hW1 HBX d1
  have e1:=BX1.out.ca
  have e2:=BX1.out.cv
  have cE1:=cE W1 BW1.out BX1.out
  clear cE
  by_cases hE0:E=0
  ·have cT0:=fun W hW hb=>cT W hW hb hE0
   have HE0:Hid (E=0):=hE0
   rw[hE0,show errV 0=.nilIface from rfl] at cE1
   clear hE0 cT
   go_wp2_with fail
   refine cE1.mono ?_
   rintro e W2 ⟨rfl,B2⟩
   have BX2:=BX1.out.on B2.out
   have BW2:Below w.heap.size w W2:=BW1.out.trans (B2.out.mono BW1.out.size)
   have e3:=BX2.ca
   have cT2:=cT0 W2 BW2 BX2
   have HBW2:Aside _:=BW2
   clear cT0 cE1 e1 e2 BX2 BX1 BW1 B2 BW2
   go_wp2_with fail
   refine cT2.mono ?_
   rintro e W3 ⟨rfl,A3,K3⟩
   have K4:Aside (Kp (accS a (.slice q PN c)) w W3):=(Kp.of_below HBW2.out).trans K3.out
   clear cT2 e3 K3
   go_wp2
   exact HPE.out _ _ ⟨by rw[HE0.out];rfl,by rw[if_pos HE0.out];exact A3,K4⟩
  ·have hV:errV E=.iface 35 (.int .i64 E):=by rw[errV,if_neg hE0]
   rw[hV] at cE1
   have HV:Hid _:=hV
   have HE0:Hid _:=hE0
   clear hV hE0 cT
   go_wp2_with fail
   refine cE1.mono ?_
   rintro e W2 ⟨rfl,B2⟩
   have BW2:Aside (Below w.heap.size w W2):=BW1.out.trans (B2.out.mono BW1.out.size)
   clear cE1 e1 e2 BX1 BW1 B2
   go_wp2
   exact HPE.out _ _ ⟨by rw[HV.out];rfl,by rw[if_neg HE0.out];exact HA.out.on BW2.out,(show Aside _ from Kp.of_below BW2.out)⟩
 ·have hE3:E=3:=by rw[←hE,adE,if_pos hlen]
  have hne:((vs.length:Int) != (ps.length:Int))=true:=by simp;omega
  subst hE3
  have HA:Aside _:=hA
  clear hE hlen hv hsz hvd hok hA hc1
  generalize vs.length=VN at *
  generalize ps.length=PN at *
  go_enter Tryz.func174,Tryz.ntmps174
  go_wp2
  go_quiet (fail)
  go_wp2
  exact HPE.out _ _ ⟨rfl,by rw[if_neg (by decide)];exact (HA.out.on (below_drewN B1 _)),(show Aside _ from Kp.of_below (below_drewN B1 _))⟩
def zbE(ps os:List Pt):Prop:=ps.length=os.length∧∀i (h1:i<ps.length) (h2:i<os.length),ps[i].what=os[i].what∧ps[i].kind=os[i].kind
end Go.Proofs.YtbdnccnfidjiaaaGreatDoor
