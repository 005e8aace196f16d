/-
  AdC, AdW.
-/
import Derived.Test.YtbdnccnfidjiaaaGreatDoorGyBb
import Derived.Test.YtbdnccnfidjiaaaGreatDoorGyBa
import Derived.Deep.RegionWith
import Derived.Deep.LoopGhost
import Derived.BigQuiet
import Derived.Test.YtbdnccnfidjiaaaGreatDoorYPuW
import Derived.Test.YtbdnccnfidjiaaaGreatDoorGyAl
import Derived.Test.YtbdnccnfidjiaaaGreatDoorGyAi
import Derived.Test.YtbdnccnfidjiaaaGreatDoorGyBe
namespace Go.Proofs.YtbdnccnfidjiaaaGreatDoor
open Go.RowKit
set_option linter.unusedVariables false
set_option linter.unusedSimpArgs false
set_option maxHeartbeats 8000000
section
open Go.BigFrame
set_option maxRecDepth 20000 in
theorem zox{w:World}{base:Nat}{ps0:List Pt}{gb:Nat}{s:Gs}{last:Int}{ov:Value}{xs:List Wm}(h:GrAt w base ps0 gb s last ov xs){kt:List Int}{c:Nat}(hW:WOk kt c (xs.map Wm.pl))(hn:xs.length≤1000)(hm:kt.length≤1000)(fr:Int)(gB kB:Nat)(kq:Option Addr)(kc:Nat)(ls:List V3)(hl:OkK kt ls)(hv:zaf w kq ls)
  (hgB:w.cell? ⟨gB,0,none⟩=some (.pointer (some ⟨gb,0,none⟩)))(hkB:w.cell? ⟨kB,0,none⟩=some (.slice kq ls.length kc)) :
  Calls Tryz.prog 139 #[.int .i64 fr,.pointer (some ⟨gB,0,none⟩),.pointer (some ⟨kB,0,none⟩)] w fun e w'=>e=.returned (.bool (wFull ls (xs.map Wm.pl) fr))∧Below w.heap.size w w':=by
 have hr:xs.Pairwise fun a b=>a.fr<b.fr:=by
  have:=hW.rise
  rw[List.pairwise_map] at this
  exact this
 obtain⟨xs1,xs2,hs,h1,h2,h3⟩:=zcM (·.fr) fr xs hr
 have hF:=gfind h hn fr xs1 xs2 hs h1 h2
 have hw:=ziJ (l1:=xs1.map Wm.pl) (l2:=xs2.map Wm.pl) (fr:=fr) ls (fun x hx=>by obtain⟨y,hy,rfl⟩:=List.mem_map.1 hx;exact h1 y hy) (fun x hx=>by
  rw[←List.map_tail] at hx
  obtain⟨y,hy,rfl⟩:=List.mem_map.1 hx
  exact h3 y hy)
 rw[←List.map_append,←hs] at hw
 have hgBl:gB<w.heap.size:=by
  rcases Nat.lt_or_ge gB w.heap.size with h|h
  ·exact h
  ·simp[World.cell?,Array.getElem?_eq_none h] at hgB
 have hkBl:kB<w.heap.size:=by
  rcases Nat.lt_or_ge kB w.heap.size with h|h
  ·exact h
  ·simp[World.cell?,Array.getElem?_eq_none h] at hkB
 have hgl:gb<w.heap.size:=by obtain⟨C,c1,-⟩:=h.blk;exact c1.lt
 have hc16:=h.c16
 have dd:∀W:World,Below W.heap.size W W.drew:=fun W=>(Below.refl _ _).drew
 by_cases hF0:hdF fr xs2=true
 ·obtain⟨x,t,rfl⟩:∃x t,xs2=x::t:=by
   cases xs2 with
   | nil=>simp[hdF] at hF0
   | cons y t=>exact⟨y,t,rfl⟩
  have hx0:x.fr=fr:=by simpa [hdF] using hF0
  have hxm:x∈xs:=by rw[hs];exact List.mem_append_right _ (List.mem_cons_self ..)
  have hg:=hW.ok _ (List.mem_map_of_mem hxm)
  have hwf:wFull ls (xs.map Wm.pl) fr=!gRoom ls (x.gs.map Gm.pl):=by
   rw[hw]
   show (x.fr == fr&&!gRoom ls (x.gs.map Gm.pl))=_
   simp[hx0]
  rw[hwf]
  obtain⟨g,cc,hov,hgl1,-⟩:=h.row_some (by rw[hs,List.length_append,List.length_cons];omega)
  have hK:xs1.length<xs.length:=by rw[hs,List.length_append,List.length_cons];omega
  have hpt:=h.ptr hov hK
  have hgx:xs.getD xs1.length dwm=x:=by rw[hs,List.getD_eq_getElem?_getD,List.getElem?_append_right (Nat.le_refl _),Nat.sub_self];rfl
  rw[hgx,Wm.p] at hpt
  rw[hov] at hc16
  have hkeys:(∀g∈x.gs,OkK kt g.key)∧(x.gs.Pairwise fun g h=>keyC g.key h.key<0)∧x.gs.length≤1000:=by
   refine⟨fun g hgm=>(hg.ok _ (List.mem_map_of_mem hgm)).1,?_,?_⟩
   ·have:=hg.rise
    rw[Wm.pl,List.pairwise_map] at this
    exact this
   ·have:=hg.few
    rw[Wm.pl,List.length_map] at this
    omega
  have cR:=fun W (hb:Below w.heap.size w W)=>wroom ((h.wm x hxm).on hb) hkeys.1 hkeys.2.1 hkeys.2.2 hm kq kc ls hl (hv.on hb)
  rw[hF0] at hF
  generalize gRoom ls (x.gs.map Gm.pl)=R at *
  obtain⟨K,hK0⟩:∃K,xs1.length=K:=⟨_,rfl⟩
  obtain⟨N,hN⟩:∃N,xs.length=N:=⟨_,rfl⟩
  rw[hK0] at hF hK hpt
  rw[hN] at hK hc16 hn
  have hKz:(K:Int)<(N:Int):=by omega
  have hK0z:(0:Int)≤(K:Int):=by omega
  have HX:∀W,Below w.heap.size w W→W.cell? ⟨gB,0,none⟩=some (.pointer (some ⟨gb,0,none⟩))∧W.cell? ⟨kB,0,none⟩=some (.slice kq ls.length kc)∧W.cell? ⟨gb,16,none⟩=some (.slice (some ⟨g,0,none⟩) N cc)∧W.cell? ⟨g,K,none⟩=some (.pointer (some ⟨x.z,0,none⟩)):=fun W hb =>
   ⟨by rw[hb.cell (p:=⟨gB,0,none⟩) hgBl];exact hgB,by rw[hb.cell (p:=⟨kB,0,none⟩) hkBl];exact hkB,by rw[hb.cell (p:=⟨gb,16,none⟩) hgl];exact hc16,by rw[hb.cell (p:=⟨g,K,none⟩) hgl1];exact hpt⟩
  have HXA:Aside _:=HX
  have HR:Aside _:=cR
  clear h hW hr hs h1 h2 h3 hw hwf hkeys hg hxm hov hgx hc16 hpt hF0 hkB cR HX hv hl hK0 hN hx0
  generalize ls.length=M at *
  go_enter Tryz.func139,Tryz.ntmps139
  go_wp2_with fail
  refine hF.mono ?_
  rintro e w1 ⟨rfl,b1⟩
  obtain⟨c1,c2,c3,c4⟩:=HXA.out w1 b1
  have hb1:b1.size=b1.size:=rfl
  have cR1:=HR.out _ (b1.trans ((dd w1).mono b1.size))
  have HB1:Aside _:=b1
  clear hF hgB b1 hb1
  go_wp2
  go_region_with (go_at_call 141;refine cR1.mono ?_;rintro e w2 ⟨rfl,b2⟩)
  all_goals
   have hB:Below w.heap.size w w2:=(HB1.out.trans ((dd w1).mono HB1.out.size)).trans (b2.mono (HB1.out.size))
   clear cR1 b2
   go_wp2
   go_ret
   exact⟨rfl,hB⟩
 ·have hF1:hdF fr xs2=false:=by simpa using hF0
  have hwf:wFull ls (xs.map Wm.pl) fr=false:=by
   rw[hw]
   cases xs2 with
   | nil=>rfl
   | cons x t =>
    show (x.fr == fr&&_)=false
    have:(x.fr == fr)=false:=hF1
    rw[this,Bool.false_and]
  rw[hwf,]
  rw[hF1] at hF
  clear h hW hr hs h1 h2 h3 hw hwf hc16 hF0 hF1 hv hl
  go_enter Tryz.func139,Tryz.ntmps139
  go_wp2_with fail
  refine hF.mono ?_
  rintro e w1 ⟨rfl,b1⟩
  have hgB1:w1.cell? ⟨gB,0,none⟩=some (.pointer (some ⟨gb,0,none⟩)):=by rw[b1.cell (p:=⟨gB,0,none⟩) hgBl];exact hgB
  clear hF
  have hB:Below w.heap.size w w1.drew:=b1.trans ((dd w1).mono b1.size)
  go_wp2
  go_region
  all_goals
   go_wp2
   go_ret
   exact⟨rfl,hB⟩
theorem zps:(Tryz.prog.info? 92).map (·.size)=some 9:=by kernel_rfl
theorem ld_sv{W:World}{b:Nat}{s:Gs}{last:Int}{ov:Value}{C:Array Value}(hb:Blk W b C 141)(hC:GrC s last ov C) :
  ∀{ops:Array Oper} {rest:List Oper} {op:Oper} {a:Act} {Q:Exit→Act→World→Prop} (hgd:op.guard=none) (x:Operand) (ho:op.op=.load 92 x) (hx:a.eval x=.pointer (some ⟨b,0,none⟩)),wpList Tryz.prog ops Q rest (a.put op.dst (.agg s.SC)) W→wpList Tryz.prog ops Q (op::rest) a W :=
 fun hgd x ho hx h=>zaj hgd 92 x ho b 0 hx C _ hb s.SC.toList (fun j v hv=>by rw[Nat.zero_add];exact hC.sv.2 j v (by simpa using hv)) _ Tryz.underlying92 rfl (by rw[Array.length_toList,hC.sv.1];exact zps) h
theorem GrAt.kps{w w' w'':World}{base:Nat}{gb:Nat}{ov ov':Value}{xs xs':List Wm}(k1:Kp (GrS gb ov xs) w w')(k2:Kp (GrS gb ov' xs') w' w'')(hf:∀k,GrS gb ov' xs' k→GrS gb ov xs k∨w.heap.size≤k):Kp (GrS gb ov xs) w w'' :=
 ⟨k1.low.trans k2.low,fun k hk hn=>by rw[k2.kept k (by have:=k1.size;omega) (fun h=>(hf k h).elim hn (fun h=>by omega)),k1.kept k hk hn]⟩
def zaR(w w':World)(base:Nat)(ps0:List Pt)(gb:Nat)(s:Gs)(last:Int)(ov:Value)(xs:List Wm)(l:List PW):Prop:=∃ov' xs',GrAt w' base ps0 gb s last ov' xs'∧xs'.map Wm.pl=l∧Kp (GrS gb ov xs) w w'∧(∀k,GrS gb ov' xs' k→GrS gb ov xs k∨w.heap.size≤k)
theorem zaR.same{w w':World}{base:Nat}{ps0:List Pt}{gb:Nat}{s:Gs}{last:Int}{ov:Value}{xs:List Wm}(h:GrAt w base ps0 gb s last ov xs)(hb:Below w.heap.size w w'):zaR w w' base ps0 gb s last ov xs (xs.map Wm.pl) :=
 ⟨ov,xs,h.on hb,rfl,Kp.of_below hb,fun k hk=>.inl hk⟩
theorem zaR.step{w wr w5:World}{base:Nat}{ps0:List Pt}{gb:Nat}{s:Gs}{last:Int}{ov ov':Value}{xs xs':List Wm}{l:List PW}(hk:Kp (GrS gb ov xs) w wr)(hf:∀k,GrS gb ov' xs' k→GrS gb ov xs k∨w.heap.size≤k)
  (h:∃ov2 xs2,GrAt w5 base ps0 gb s last ov2 xs2∧xs2.map Wm.pl=l∧Kp (GrS gb ov' xs') wr w5∧(∀k,GrS gb ov2 xs2 k→GrS gb ov' xs' k∨wr.heap.size≤k)):zaR w w5 base ps0 gb s last ov xs l:=by
 obtain⟨ov2,xs2,h1,h2,h3,h4⟩:=h
 refine⟨ov2,xs2,h1,h2,GrAt.kps (base:=base) hk h3 hf,fun k hk2=>?_⟩
 rcases h4 k hk2 with h|h
 ·exact hf k h
 ·exact .inr (by have:=hk.size;omega)
theorem zaR.behind{w w4 w5:World}{base:Nat}{ps0:List Pt}{gb:Nat}{s:Gs}{last:Int}{ov:Value}{xs:List Wm}{l:List PW}(hb:Below w.heap.size w w4)(h:zaR w4 w5 base ps0 gb s last ov xs l):zaR w w5 base ps0 gb s last ov xs l:=by
 obtain⟨ov2,xs2,h1,h2,h3,h4⟩:=h
 have:=hb.size
 refine⟨ov2,xs2,h1,h2,(Kp.of_below hb).trans h3,fun k hk=>(h4 k hk).imp id (fun h=>by omega)⟩
theorem zki{w w4 wr:World}{gb:Nat}{ov ov':Value}{xs xs':List Wm}{q:Option Addr}{l:List V3}(hS:∀k,GrS gb ov xs k→k<w.heap.size)(hv:zaf w4 q l)(hn:l.length=0∨∃b off,q=some ⟨b,off,none⟩∧w.heap.size≤b)(hk:Kp (GrS gb ov xs) w4 wr)(hf:∀k,GrS gb ov' xs' k→GrS gb ov xs k∨w4.heap.size≤k):zaf wr q l∧(l.length=0∨∀b o,q=some ⟨b,o,none⟩→¬GrS gb ov' xs' b):=by
 have h1:l.length=0∨∀b o,q=some ⟨b,o,none⟩→¬GrS gb ov xs b:=by
  rcases hn with h|⟨b,off,e,hb⟩
  ·exact .inl h
  ·refine .inr fun b' o' e' hs=>?_
   rw[e] at e'
   injection e' with e'
   injection e' with e' _
   subst e'
   have:=hS b hs
   omega
 refine⟨zdp hv hk h1,?_⟩
 rcases h1 with h|h
 ·exact .inl h
 ·rcases hv with h0|⟨b,off,e,hlb,-⟩
  ·exact .inl h0
  ·refine .inr fun b' o' e' hs=>?_
   rw[e] at e'
   injection e' with e'
   injection e' with e' _
   subst e'
   rcases hf b hs with h2|h2
   ·exact h b off e h2
   ·omega
set_option maxRecDepth 20000 in
theorem zoy{w W1:World}{S0:Nat→Prop}{base:Nat}{ps0:List Pt}{gb:Nat}{s:Gs}{last:Int}{ov:Value}{xs:List Wm}(h:GrAt w base ps0 gb s last ov xs)(hb1:Bts S0 gb W1 w)(hbase:base=W1.heap.size){kt:List Int}{c:Nat}(hW:WOk kt c (xs.map Wm.pl))(u:Value)(fs:List Int)(hu:IntA w u fs)(hun:∀k,u.ownBlock=some k→¬GrS gb ov xs k)(hfl:fs.length≤10)(hc:c+11≤10000)(hm:kt.length≤1000)(a b:Int)(hab:b-a+1≤1000)(hxr:∀x∈xs.map Wm.pl,a≤x.1∧x.1≤b)(hfr:∀f∈fs,a≤f∧f≤b)(hfd:fs.Nodup)
  (rq:Option Addr)(rc:Nat)(rs:List V3)(hr:zaf w rq rs)(hrd:rs.length=0∨∀b o,rq=some ⟨b,o,none⟩→¬GrS gb ov xs b)(hrl:rs.length≤1000)(p:Option Addr)(pc:Nat)(ns:List Nat)(hp:s.pv=.slice p ns.length pc)(hnl:ns.length≤1000)(hPl:∀W,Bts S0 gb W1 W→zaZ W p ns)(hi:∀i∈ns,i<rs.length)(hkey:OkK kt (keyP rs ns))
  (T:List V3)(P:Bool)(E:Int)(hT:∀W,Bts S0 gb W1 W→zaf W rq rs→Calls Tryz.prog 66 #[.agg s.SC,.slice rq rs.length rc] W fun e w'=>(∃u,e=.returned (.tuple #[u,.bool P,errV E])∧Aside (FrV W.heap.size w' u T))∧Below W.heap.size W w')
  (hTo:E=0→P=true→zbt T∧T.length≤maxLen∧adE ps0 T=0)
  (hN:∀W,Bts S0 gb W1 W→Calls Tryz.prog 195 #[s.av,s.tv] W fun e w'=>∃a v,e=.returned (.tuple #[.pointer (some ⟨a,0,none⟩),.nilIface])∧Aside (AcAt w' a v ps0 []∧(∀k,accS a v k→W.heap.size≤k))∧Below W.heap.size W w') :
  Calls Tryz.prog 107 #[.pointer (some ⟨gb,0,none⟩),u,.slice rq rs.length rc] w fun e w'=>e=.returned (errV (adW fs (T,P,E) (keyP rs ns) (xs.map Wm.pl)).2)∧Aside (zaR w w' base ps0 gb s last ov xs (adW fs (T,P,E) (keyP rs ns) (xs.map Wm.pl)).1):=by
 have hlt:=h.lt
 have hgl:gb<w.heap.size:=by have:=hb1.size;omega
 have bA:=alB w (.cells #[.pointer (some ⟨gb,0,none⟩)] 97)
 have butOn:∀W,Below w.heap.size w W→Bts S0 gb W1 W:=fun W hb=>hb1.on hb
 have cT:=hT _ (butOn _ bA) (hr.on bA)
 have hGB:∀W,Below (w.heap.size+1) (w.alloc (.cells #[.pointer (some ⟨gb,0,none⟩)] 97)) W→W.cell? ⟨w.heap.size,0,none⟩=some (.pointer (some ⟨gb,0,none⟩))∧Below w.heap.size w W:=fun W hb=>⟨by rw[hb.cell (p:=⟨w.heap.size,0,none⟩) (by show w.heap.size<_;omega)];simp,bA.trans (hb.mono (by omega))⟩
 obtain⟨C,hC1,hC2⟩:=(h.on bA).blk
 have hld:=@ld_sv _ _ _ _ _ _ hC1 hC2
 have HBASE:Hid (base=W1.heap.size):=hbase
 have hbw:base≤w.heap.size:=by have:=hb1.size;omega
 have H:Aside _:=h
 have HB1:Aside _:=hb1
 have HW:Aside (WOk kt c (xs.map Wm.pl)):=hW
 have HU:Aside (IntA w u fs∧∀k,u.ownBlock=some k→¬GrS gb ov xs k):=⟨hu,hun⟩
 have HX:Aside ((∀x∈xs.map Wm.pl,a≤x.1∧x.1≤b)∧(∀f∈fs,a≤f∧f≤b)∧fs.Nodup):=⟨hxr,hfr,hfd⟩
 have HR:Aside (zaf w rq rs∧(rs.length=0∨∀b o,rq=some ⟨b,o,none⟩→¬GrS gb ov xs b)):=⟨hr,hrd⟩
 have HPL:Aside _:=hPl
 have HI:Aside _:=hi
 have HKEY:Aside (OkK kt (keyP rs ns)):=hkey
 have HTO:Aside _:=hTo
 have HN:Aside _:=hN
 have HBO:Aside _:=butOn
 have HPV:Hid (s.pv=.slice p ns.length pc):=hp
 have HNL:Hid (ns.length≤1000∧rs.length≤1000∧kt.length≤1000):=⟨hnl,hrl,hm⟩
 obtain⟨RS,hRS⟩:∃RS,rs.length=RS:=⟨_,rfl⟩
 have HRS:Hid (rs.length=RS):=hRS
 rw[hRS] at cT ⊢
 clear hbase
 clear h hb1 hW hu hun hxr hfr hfd hr hrd hPl hi hkey hTo hN hT butOn hp hRS hC1 hC2 hnl hrl hm
 by_cases hE:E=0
 ·subst hE
  cases P
  ·rw[show adW fs (T,false,0) (keyP rs ns) (xs.map Wm.pl)=(xs.map Wm.pl,0) from by rw[adW,if_neg (by simp),if_pos rfl]]
   rw[show errV 0=.nilIface from rfl] at cT ⊢
   go_enter Tryz.func107,Tryz.ntmps107
   go_wp2_with (refine hld rfl _ rfl rfl ?_)
   go_wp2_with fail
   refine cT.mono ?_
   rintro e w1 ⟨⟨v,rfl,HF⟩,b1⟩
   obtain⟨g1,B1⟩:=hGB w1 (b1.mono (by simp))
   have HB2:Aside (Below w.heap.size w w1):=B1
   clear cT hld b1 B1
   go_wp2
   go_ret
   exact⟨rfl,(show Aside _ from zaR.same H.out HB2.out)⟩
  ·rw[show errV 0=.nilIface from rfl] at cT
   obtain⟨FUL,hFUL⟩:∃FUL,fs.any (wFull (keyP rs ns) (xs.map Wm.pl))=FUL:=⟨_,rfl⟩
   have HFUL:Hid (fs.any (wFull (keyP rs ns) (xs.map Wm.pl))=FUL):=hFUL
   have had:adW fs (T,true,0) (keyP rs ns) (xs.map Wm.pl)=if FUL=true then (xs.map Wm.pl,4) else (adL (keyP rs ns) T fs (xs.map Wm.pl),0):=by
    rw[adW,if_neg (by simp),if_neg (by simp),hFUL]
   rw[had]
   clear had hFUL
   go_enter Tryz.func107,Tryz.ntmps107
   go_wp2_with (refine hld rfl _ rfl rfl ?_)
   go_wp2_with fail
   refine cT.mono ?_
   rintro e w1 ⟨⟨v,rfl,HF⟩,b1⟩
   obtain⟨g1,B1⟩:=hGB w1 (b1.mono (by simp))
   have hsz1:=B1.size
   have hsz1b:w.heap.size+1≤w1.heap.size:=by have:=b1.size;simpa using this
   obtain⟨tq,tc,hv0,hT1,hT2⟩:=HF.out
   subst hv0
   have HTV:Aside (zaf w1 tq T∧(T.length=0∨∃b off,tq=some ⟨b,off,none⟩∧(w.alloc (.cells #[.pointer (some ⟨gb,0,none⟩)] 97)).heap.size≤b)):=⟨hT1,hT2⟩
   have hc10:w1.cell? ⟨gb,10,none⟩=some (.slice p ns.length pc):=by
    obtain⟨C,hC1,hC2⟩:=(H.out.on B1).blk
    rw[hC1.cell,hC2.c10,HPV.out]
   have cK:=key_s gb p rq pc rc ns rs w1 hc10 (by have:=HNL.out.1;omega) (by have:=HNL.out.2.1;omega) (HPL.out w1 (HBO.out w1 B1)) (HR.out.1.on B1) HI.out
   rw[HRS.out] at cK
   have HB2:Aside (Below w.heap.size w w1):=B1
   clear cT hld b1 B1 hT1 hT2 HF
   obtain⟨TL,hTL⟩:∃TL,T.length=TL:=⟨_,rfl⟩
   have HTL:Hid (T.length=TL):=hTL
   rw[hTL]
   clear hTL
   go_wp2_with fail
   refine cK.mono ?_
   rintro e w2 ⟨⟨kv,rfl,HKV⟩,b2⟩
   obtain⟨kq,kc,rfl⟩:=zaa HKV.out
   have B2:Below w.heap.size w w2:=HB2.out.trans (b2.mono hsz1)
   obtain⟨NL,hNLq⟩:∃NL,ns.length=NL:=⟨_,rfl⟩
   have HNLq:Hid (ns.length=NL):=hNLq
   rw[hNLq]
   have hkl2:(keyP rs ns).length=ns.length:=by rw[keyP,List.length_map]
   have HKL:Hid ((keyP rs ns).length=NL):=by show _=_;rw[hkl2];exact hNLq
   have hsz2:=B2.size
   have hgw2:w2.cell? ⟨w.heap.size,0,none⟩=some (.pointer (some ⟨gb,0,none⟩)):=by rw[b2.cell (p:=⟨w.heap.size,0,none⟩) (show w.heap.size<w1.heap.size by omega)];exact g1
   have hwl2:w.heap.size<w2.heap.size:=by have:=b2.size;omega
   have HKV2:Aside (zaf w2 kq (keyP rs ns)):=zdL hkl2 HKV.out
   have HKF:Aside (ns.length=0∨∃b off,kq=some ⟨b,off,none⟩∧w1.heap.size≤b):=zru HKV.out
   clear cK hNLq hkl2 HKV
   obtain⟨up,uc,hu0,hu1,hu2,hu3⟩:=HU.out.1
   subst hu0
   obtain⟨FN,hFN⟩:∃FN,fs.length=FN:=⟨_,rfl⟩
   have HFN:Hid (fs.length=FN):=hFN
   rw[hFN] at hfl hu1 ⊢
   have HUC:Aside _:=hu3
   have HUN:Aside (up=none→uc=0):=hu2
   have hfz:(FN:Int)≤10:=by omega
   have hS0:∀k,GrS gb ov xs k→k<w.heap.size:=fun k hk=>by
    rcases H.out.in_ k hk with h|h
    ·omega
    ·exact h.2
   have hnx:xs.length≤1000:=by
    have:=zeE (xs.map Wm.pl) a b HW.out.rise HX.out.1
    rw[List.length_map] at this
    omega
   have b3:=alB w2 (.cells #[.slice kq NL kc] 42)
   have B3:Below w.heap.size w (w2.alloc (.cells #[.slice kq NL kc] 42)):=B2.trans (b3.mono hsz2)
   have hg3:∀W,Below (w2.heap.size+1) (w2.alloc (.cells #[.slice kq NL kc] 42)) W→W.cell? ⟨w.heap.size,0,none⟩=some (.pointer (some ⟨gb,0,none⟩))∧W.cell? ⟨w2.heap.size,0,none⟩=some (.slice kq NL kc):=fun W hb=>by
    refine⟨?_,?_⟩
    ·rw[hb.cell (p:=⟨w.heap.size,0,none⟩) (show w.heap.size<w2.heap.size+1 by omega),b3.cell (p:=⟨w.heap.size,0,none⟩) hwl2];exact hgw2
    ·rw[hb.cell (p:=⟨w2.heap.size,0,none⟩) (show w2.heap.size<w2.heap.size+1 by omega)];simp
   have cC:=zfi 139 (fun args W=>by kernel_rfl) #[.pointer (some ⟨w.heap.size,0,none⟩),.pointer (some ⟨w2.heap.size,0,none⟩)] _ fs (wFull (keyP rs ns) (xs.map Wm.pl)) _ (HU.out.1.on B3) (fun t _ W hb=>by
    have hb':Below (w2.heap.size+1) (w2.alloc (.cells #[.slice kq NL kc] 42)) W:=by simpa using hb
    obtain⟨q1,q2⟩:=hg3 W hb'
    have:=zox ((H.out.on B3).on hb) HW.out hnx HNL.out.2.2 t w.heap.size w2.heap.size kq kc (keyP rs ns) HKEY.out ((HKV2.out.on b3).on hb) q1 (by rw[HKL.out];exact q2)
    exact this)
   rw[HFUL.out,hFN] at cC
   have HB3:Aside (Below w.heap.size w (w2.alloc (.cells #[.slice kq NL kc] 42))):=B3
   have HG3:Aside _:=hg3
   have HS0:Aside _:=hS0
   have HKV3:Aside (zaf (w2.alloc (.cells #[.slice kq NL kc] 42)) kq (keyP rs ns)):=HKV2.out.on b3
   have HTV3:Aside (zaf (w2.alloc (.cells #[.slice kq NL kc] 42)) tq T):=(HTV.out.1.on b2).on b3
   clear hg3 hS0 hu2 hu3 B3 b3 b2 B2 g1 hgw2 hFN
   go_wp2_with fail
   refine cC.mono ?_
   rintro e w4 ⟨rfl,b4⟩
   have b4':Below (w2.heap.size+1) (w2.alloc (.cells #[.slice kq NL kc] 42)) w4:=by simpa using b4
   have HB4:Aside (Below w.heap.size w w4):=HB3.out.trans (b4.mono HB3.out.size)
   obtain⟨q1,q2⟩:=HG3.out w4 b4'
   have hsz4:w2.heap.size+1≤w4.heap.size:=by have:=b4'.size;simpa using this
   have HKV4:Aside (zaf w4 kq (keyP rs ns)):=HKV3.out.on b4
   have HTV4:Aside (zaf w4 tq T):=HTV3.out.on b4
   have HQ:Aside (w4.cell? ⟨w.heap.size,0,none⟩=some (.pointer (some ⟨gb,0,none⟩))∧w4.cell? ⟨w2.heap.size,0,none⟩=some (.slice kq NL kc)):=⟨q1,q2⟩
   clear cC b4 b4' HG3 HB3 HKV3 HTV3 q1 q2
   cases FUL
   ·have hFT:=HFUL.out
    have htk:=fun kk (hkk:kk<fs.length)=>znG HKEY.out T fs c (xs.map Wm.pl) HW.out HX.out.1 HX.out.2.1 HX.out.2.2 hFT kk hkk
    have HTK:Aside _:=htk
    obtain⟨T1,T2,T3⟩:=HTO.out (by first|rfl|trivial) (by first|rfl|trivial)
    have HT3:Aside (zbt T∧T.length≤maxLen∧adE ps0 T=0):=⟨T1,T2,T3⟩
    clear hFT htk T1 T2 T3
    go_wp2
    go_loopg [13,14,42] FN (fun gg _ _ s42 wr=>∃kk:Nat,kk≤FN∧FN-kk≤gg∧s42=.int .i64 (kk:Int)∧Aside (zaR w4 wr base ps0 gb s last ov xs (adL (keyP rs ns) T (fs.take kk) (xs.map Wm.pl))))
    case atStart=>exact⟨0,Nat.zero_le _,by omega,rfl,(show Aside _ from zaR.same (H.out.on HB4.out) (Below.refl _ _))⟩
    case round =>
     obtain⟨kk,hkk,hg,rfl,HA⟩:=hrel
     by_cases hlt2:kk<FN
     ·have hltz:(kk:Int)<(FN:Int):=by omega
      have h0z:(0:Int)≤(kk:Int):=by omega
      have hkf:kk<fs.length:=by rw[HFN.out];exact hlt2
      have hcap:uc≠0:=by omega
      cases up with
      | none=>exact absurd (HUN.out rfl) hcap
      | some ad =>
      obtain⟨g,off,rfl,hgl2,hce⟩:=HUC.out ad rfl
      have hck:=hce kk hkf
      have hgn:¬GrS gb ov xs g:=HU.out.2 g rfl
      obtain⟨ov',xs',A1,A2,A3,A4⟩:=HA.out
      have hB4:=HB4.out
      have hszw:=hB4.size
      have hsr:=A3.size
      have hS0:=HS0.out
      have hck':wr.cell? ⟨g,off+kk,none⟩=some (.int .i64 fs[kk]):=by rw[A3.cell _ (by omega) hgn,hB4.cell (p:=⟨g,off+kk,none⟩) hgl2];exact hck
      have hg':wr.cell? ⟨w.heap.size,0,none⟩=some (.pointer (some ⟨gb,0,none⟩)):=by rw[A3.cell _ (by omega) (fun h=>by have:=hS0 _ h;omega)];exact HQ.out.1
      have hk':wr.cell? ⟨w2.heap.size,0,none⟩=some (.slice kq NL kc):=by rw[A3.cell _ (by omega) (fun h=>by have:=hS0 _ h;omega)];exact HQ.out.2
      obtain⟨K1,K2⟩:=zki (w:=w) hS0 HKV4.out (HKF.out.imp (fun h=>by rw[HKL.out,←HNLq.out];exact h) (fun ⟨b,o,e,h⟩=>⟨b,o,e,by omega⟩)) A3 A4
      obtain⟨V1,V2⟩:=zki (w:=w) hS0 HTV4.out (HTV.out.2.imp id (fun ⟨b,o,e,h⟩=>⟨b,o,e,by simp at h;omega⟩)) A3 A4
      obtain⟨t1,t2,-⟩:=HTK.out kk hkf
      have hbase:=HBASE.out
      have hbr:Bts S0 gb W1 wr:=GrAt.but (HBO.out w4 hB4) A3 (fun k hk=>by
       rcases H.out.in_ k hk with h|h
       ·exact .inl h
       ·exact .inr (by omega)) (by omega)
      have hn':xs'.length≤1000:=by
       have hri:=t1.rise
       have:=zeE (adL (keyP rs ns) T (fs.take kk) (xs.map Wm.pl)) a b hri t2
       rw[←A2,List.length_map] at this
       omega
      have cP:=zrI A1 hbr hbase (c:=c+kk) (by rw[A2];exact t1) (by omega) hn' HNL.out.2.2 fs[kk] kq kc (keyP rs ns) HKEY.out K1 K2 tq tc T V1 V2 HT3.out.1 HT3.out.2.1 HT3.out.2.2 HN.out
      rw[HKL.out,HTL.out] at cP
      have HSN:Hid (adL (keyP rs ns) T (fs.take (kk+1)) (xs.map Wm.pl)=wAdd (keyP rs ns) T fs[kk] (adL (keyP rs ns) T (fs.take kk) (xs.map Wm.pl))):=by
       show _=_
       rw[List.take_succ_eq_append_getElem hkf,znF]
      rw[A2] at cP
      have HA34:Aside (Kp (GrS gb ov xs) w4 wr∧∀k,GrS gb ov' xs' k→GrS gb ov xs k∨w4.heap.size≤k):=⟨A3,A4⟩
      clear hbase hce hck hgn A1 A2 A3 A4 hB4 hszw hsr hS0 K1 K2 V1 V2 t1 t2 hbr hn' HA
      generalize fs[kk]=f at *
      go_wp2_with fail
      refine cP.mono ?_
      rintro e w5 ⟨rfl,HP⟩
      have HA5:Aside (zaR w4 w5 base ps0 gb s last ov xs (adL (keyP rs ns) T (fs.take (kk+1)) (xs.map Wm.pl))):=by
       rw[HSN.out]
       exact zaR.step HA34.out.1 HA34.out.2 HP.out
      clear cP HP HA34 HSN hck' hg' hk'
      go_wp2
      go_roundg (FN-(kk+1))
      case measure=>omega
      case rel=>exact⟨kk+1,by omega,by omega,by go_num,HA5⟩
     ·have hltz:¬(kk:Int)<(FN:Int):=by omega
      have HAF:Aside (zaR w wr base ps0 gb s last ov xs (adL (keyP rs ns) T fs (xs.map Wm.pl))):=by
       have h:=HA.out
       rw[List.take_of_length_le (by rw[HFN.out];omega)] at h
       exact zaR.behind HB4.out h
      clear HA
      go_wp2
      go_ret
      exact⟨rfl,HAF⟩
   ·have HF4:Aside (zaR w w4 base ps0 gb s last ov xs (xs.map Wm.pl)):=zaR.same H.out HB4.out
    go_wp2
    go_ret
    exact⟨rfl,HF4⟩
 ·rw[show adW fs (T,P,E) (keyP rs ns) (xs.map Wm.pl)=(xs.map Wm.pl,E) from by rw[adW,if_pos hE]]
  rw[show errV E=.iface 35 (.int .i64 E) from if_neg hE] at cT ⊢
  go_enter Tryz.func107,Tryz.ntmps107
  go_wp2_with (refine hld rfl _ rfl rfl ?_)
  go_wp2_with fail
  refine cT.mono ?_
  rintro e w1 ⟨⟨v,rfl,HF⟩,b1⟩
  obtain⟨g1,B1⟩:=hGB w1 (b1.mono (by simp))
  have HB2:Aside (Below w.heap.size w w1):=B1
  clear cT hld b1 B1
  go_wp2
  go_ret
  exact⟨rfl,(show Aside _ from zaR.same H.out HB2.out)⟩
end
end Go.Proofs.YtbdnccnfidjiaaaGreatDoor
