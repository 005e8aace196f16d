/-
  PuW, GpQ, AdC, CfI, KyS, EvV, EvP, EvAp, RowChk.
-/
import Derived.Test.YtopghagjmdbglaaGreatDoorGyAp
import Derived.Test.YtopghagjmdbglaaGreatDoorGyAq
import Derived.Deep.CutBlock
import Derived.Deep.DeepCutAuto
import Derived.Deep.RegionWith
import Derived.Deep.LoopGhost
import Derived.BigQuiet
import Derived.Test.YtopghagjmdbglaaGreatDoorGyAk
import Derived.Test.YtopghagjmdbglaaGreatDoorGyAn
import Derived.Deep.QuietTactic
import Derived.Test.YtopghagjmdbglaaGreatDoorGyAh
import Derived.Test.YtopghagjmdbglaaGreatDoorGyAi
import Derived.RowKit
import Derived.Test.YtopghagjmdbglaaGreatDoorGyAa
import Derived.Test.YtopghagjmdbglaaGreatDoorGyAj
import Derived.Test.YtopghagjmdbglaaGreatDoorGyAm
import Derived.Test.YtopghagjmdbglaaGreatDoorGyAl
namespace Go.Proofs.YtopghagjmdbglaaGreatDoor
open Go.RowKit
set_option linter.unusedVariables false
set_option linter.unusedSimpArgs false
set_option maxHeartbeats 8000000
set_option maxRecDepth 20000
section
open Go.BigFrame
theorem zsg{w W1:World}{S0:Nat→Prop}{base:Nat}{ps0:List Pt}{gb:Nat}{s:Gs}{last:Int}{ov:Value}{xs:List Wm}(h:GrAt w base ps0 gb s last ov xs)(hb1:Bts S0 gb W1 w)(hbase:base=W1.heap.size){kt:List Int}{c:Nat}(hW:WOk kt c (xs.map Wm.pl))(hc:c+1≤10000)(hn:xs.length≤1000)(hm:kt.length≤1000)(fr:Int)(kq:Option Addr)(kc:Nat)(ls:List V3)(hl:OkK kt ls)(hv:zah w kq ls)(hkd:ls.length=0∨∀b o,kq=some ⟨b,o,none⟩→¬GrS gb ov xs b)
  (vq:Option Addr)(vc:Nat)(vs:List V3)(hvv:zah w vq vs)(hvd:vs.length=0∨∀b o,vq=some ⟨b,o,none⟩→¬GrS gb ov xs b)(hvs:zbK vs)(hvl:vs.length≤maxLen)(hE:adE ps0 vs=0)
  (hN:∀W,Bts S0 gb W1 W→Calls Tryz.prog 200 #[s.av,s.tv] W fun e w'=>∃a v,e=.returned (.tuple #[.pointer (some ⟨a,0,none⟩),.nilIface])∧Aside (AcAt w' a v ps0 []∧(∀k,accS a v k→W.heap.size≤k))∧Below W.heap.size W w') :
  Calls Tryz.prog 148 #[.pointer (some ⟨gb,0,none⟩),.int .i64 fr,.slice kq ls.length kc,.slice vq vs.length vc] w fun e w'=>e=.returned .nilIface∧Aside (∃ov' xs',GrAt w' base ps0 gb s last ov' xs'∧xs'.map Wm.pl=wAdd ls vs fr (xs.map Wm.pl)∧Kp (GrS gb ov xs) w w'∧(∀k,GrS gb ov' xs' k→GrS gb ov xs k∨w.heap.size≤k)):=by
 obtain⟨xs1,xs2,hs,h1,h2,h3⟩:=zcY (·.fr) fr xs (by
  have:=hW.rise
  rw[List.pairwise_map] at this
  exact this)
 have hF:=gfind h hn fr xs1 xs2 hs h1 h2
 have hlt:=h.lt
 have hgl:gb<w.heap.size:=by have:=hb1.size;omega
 have H:Aside _:=h
 have HB1:Aside _:=hb1
 have hbw:base≤w.heap.size:=by have:=hb1.size;omega
 have hin:=h.in_
 have hpl1:∀g∈xs1.map Wm.pl,g.1<fr:=fun g hg=>by obtain⟨y,hy,rfl⟩:=List.mem_map.1 hg;exact h1 y hy
 have hkeys:∀x∈xs,(∀g∈x.gs,OkK kt g.key)∧(x.gs.Pairwise fun g h=>keyC g.key h.key<0)∧x.gs.length≤1000∧∀g∈x.gs,g.rs.length+1≤10000:=fun x hx=>by
  have hg:=hW.ok _ (List.mem_map_of_mem hx)
  refine⟨fun g hgm=>(hg.ok _ (List.mem_map_of_mem hgm)).1,?_,?_,fun g hgm=>by have:=(hg.ok _ (List.mem_map_of_mem hgm)).2;have:g.rs.length≤c:=this;omega⟩
  ·have:=hg.rise
   rw[Wm.pl,List.pairwise_map] at this
   exact this
  ·have:=hg.few
   rw[Wm.pl,List.length_map] at this
   omega
 have HIN:Aside _:=hin
 have HKEYS:Aside _:=hkeys
 have HV:Aside (zah w kq ls∧zah w vq vs):=⟨hv,hvv⟩
 have HKD:Aside _:=hkd
 have HVD:Aside _:=hvd
 have HN:Aside _:=hN
 have H123:Aside ((∀g∈xs1,g.fr<fr)∧(∀g∈xs2,fr≤g.fr)∧(∀a∈xs2.tail,fr<a.fr)∧∀g∈xs1.map Wm.pl,g.1<fr):=⟨h1,h2,h3,hpl1⟩
 have HL:Aside (OkK kt ls∧zbK vs):=⟨hl,hvs⟩
 have HS:Hid (xs=xs1++xs2):=hs
 obtain⟨K,hK⟩:∃K,xs1.length=K:=⟨_,rfl⟩
 have HK:Hid (xs1.length=K):=hK
 have hKn:K≤1000:=by have:=congrArg List.length hs;rw[List.length_append] at this;omega
 have HE:Hid (adE ps0 vs=0):=hE
 have HM:Hid (kt.length≤1000):=hm
 have HN0:Hid (xs.length≤1000):=hn
 obtain⟨F,hF0⟩:∃F,hdF fr xs2=F:=⟨_,rfl⟩
 have HF0:Hid (hdF fr xs2=F):=hF0
 rw[hF0,hK] at hF
 obtain⟨LS,hLS⟩:∃LS,ls.length=LS:=⟨_,rfl⟩
 have HLS:Hid (ls.length=LS):=hLS
 obtain⟨VS,hVS⟩:∃VS,vs.length=VS:=⟨_,rfl⟩
 have HVS:Hid (vs.length=VS):=hVS
 rw[hVS] at hvl
 rw[hLS,hVS]
 clear h hb1 hin hpl1 hkeys hv hvv hkd hvd hN h1 h2 h3 hl hvs hs hK hE hm hn hF0 hLS hVS hW hc
 go_enter Tryz.func148,Tryz.ntmps148
 go_wp2_with fail
 refine hF.mono ?_
 rintro e w1 ⟨rfl,B1⟩
 clear hF
 go_upto_if 20 with fail
 go_cut [9] (fun s9 wx=>s9=.int .i64 (K:Int)∧Aside (∃ov4 x xs2',PuMid w wx base ps0 gb s last fr kt ls ov xs xs1 ov4 x xs2'))
 case first=>as_aux_lemma =>
  have G1:=H.out.on B1
  cases F
  ·obtain⟨oq,oc,hov⟩:=zaa G1.row
   obtain⟨N,hN⟩:∃N,xs.length=N:=⟨_,rfl⟩
   have HXN:Hid (xs.length=N):=hN
   rw[hN] at hov
   subst hov
   have hKN:K≤N:=by have:=congrArg List.length HS.out;rw[List.length_append,HK.out,hN] at this;omega
   have hN1:N≤1000:=by rw[←hN];exact HN0.out
   have hc16:=G1.c16
   have B4:Below w1.heap.size w1 ((w1.alloc (.cells #[.int .i64 fr,.slice none 0 0] 182)).alloc (.cells #[.pointer (some ⟨w1.heap.size,0,none⟩)] 152)):=(alB w1 _).alloc (by simp) _
   have G4:=G1.on B4
   have eZ:Blk ((w1.alloc (.cells #[.int .i64 fr,.slice none 0 0] 182)).alloc (.cells #[.pointer (some ⟨w1.heap.size,0,none⟩)] 152)) w1.heap.size #[.int .i64 fr,.slice none 0 0] 182:=(zac _ _ _).on (alB _ _)
   have eR:Blk ((w1.alloc (.cells #[.int .i64 fr,.slice none 0 0] 182)).alloc (.cells #[.pointer (some ⟨w1.heap.size,0,none⟩)] 152)) (w1.heap.size+1) #[.pointer (some ⟨w1.heap.size,0,none⟩)] 152:=by
    have:=zac (w1.alloc (.cells #[.int .i64 fr,.slice none 0 0] 182)) #[.pointer (some ⟨w1.heap.size,0,none⟩)] 152
    simpa using this
   have hrow4:=G4.row
   rw[hN] at hrow4
   have hs1:=B1.size
   have hown1:=zdW G1.row
   have cI:=ziN base oq N oc K (xs.map Wm.p) (w1.heap.size+1) (.pointer (some ⟨w1.heap.size,0,none⟩)) _ hrow4 (fun u hu=>by obtain⟨y,_,rfl⟩:=List.mem_map.1 hu;rfl) eR (fun e=>by have:=(hown1 _ e).2;omega) rfl hKN (by omega) (by simp;omega)
   obtain⟨C,hC1,hC2⟩:=G4.blk
   have hog:(Value.slice oq N oc).ownBlock≠some gb:=fun e=>by
    have:=(zdW G4.row _ e).1;omega
   have hlt':gb<w1.heap.size:=by omega
   have HX:Aside _:=G4
   have HEZ:Aside (Blk ((w1.alloc (.cells #[.int .i64 fr,.slice none 0 0] 182)).alloc (.cells #[.pointer (some ⟨w1.heap.size,0,none⟩)] 152)) w1.heap.size #[.int .i64 fr,.slice none 0 0] 182):=eZ
   have HC1:Aside (Blk ((w1.alloc (.cells #[.int .i64 fr,.slice none 0 0] 182)).alloc (.cells #[.pointer (some ⟨w1.heap.size,0,none⟩)] 152)) gb C 110):=hC1
   have h16:=hC2.c16
   clear eZ eR hC1 hC2 G4 G1 hrow4 hN
   go_wp2_with fail
   refine cI.mono ?_
   rintro r w5 ⟨q',c',rfl,HO,HK5,HB5⟩
   have c5b:=HC1.out.kp HK5.out hog
   have c5:=c5b.cell 16
   have f5:=c5b.frozen 16
   rw[h16] at c5
   clear cI c5b
   go_wp2
   go_meet
   case rel =>
    refine⟨rfl,(show Aside _ from ⟨.slice q' (N+1) c',⟨w1.heap.size,fr,.slice none 0 0,[]⟩,xs2,?_⟩)⟩
    obtain⟨g1,g2,g3,g4⟩:=H123.out
    have hnf:∀g∈xs2,fr<g.fr:=fun g hg=>by
     have hf:=HF0.out
     cases xs2 with
     | nil=>cases hg
     | cons y t =>
      have:=g2 y (List.mem_cons_self ..)
      have hne:y.fr≠fr:=by simpa [hdF] using hf
      rcases List.mem_cons.1 hg with rfl|hg
      ·omega
      ·exact g3 g hg
    have G4':=HX.out
    have hO:=HO.out
    have hin:=HIN.out
    rw[HS.out] at G4' hO hin
    rw[←HK.out,ztO.1,ztO.2] at hO
    have hNl:N=(xs1++xs2).length:=by rw[←HXN.out,HS.out]
    obtain⟨r1,r2⟩:=GrAt.ins G4' HEZ.out (by omega) (fun k hk e=>by rcases hin k hk with h|h<;>omega) HK5.out (by rw[←hNl];exact hO) (HB5.out.imp id (fun e=>⟨_,e,Nat.le_refl _⟩))
    refine⟨r1,rfl,⟨by simp,by simp,by simp,by simp⟩,fun vs=>?_,?_,fun k hk=>?_,?_⟩
    ·rw[HS.out,List.map_append,zdn _ _ _ _ _ g4,zlB _ _ _ _ (fun x hx=>by obtain⟨y,hy,rfl⟩:=List.mem_map.1 hx;exact hnf y hy)]
     rfl
    ·rw[HS.out]
     exact (Kp.of_below (B1.trans (B4.mono hs1))).trans r2
    ·rcases hk with hk|hk|⟨x,hx,hk⟩
     ·exact .inl (.inl hk)
     ·rcases HB5.out with h|h
      ·exact .inl (.inr (.inl (h.symm.trans hk)))
      ·rw[h] at hk
       injection hk with hk
       right
       simp at hk
       omega
     ·rcases List.mem_append.1 hx with hx|hx
      ·exact .inl (.inr (.inr ⟨x,by rw[HS.out];exact List.mem_append_left _ hx,hk⟩))
      ·rcases List.mem_cons.1 hx with rfl|hx
       ·right
        rcases hk with hk|hk|⟨g,hg,_⟩
        ·have hk:k=w1.heap.size:=hk
         omega
        ·have hk:(Value.slice none 0 0).ownBlock=some k:=hk
         simp[Value.ownBlock] at hk
        ·cases hg
       ·exact .inl (.inr (.inr ⟨x,by rw[HS.out];exact List.mem_append_right _ hx,hk⟩))
    ·rw[List.length_append] at hNl
     rw[List.length_append,List.length_cons];omega
  ·have HG1:Aside _:=G1
   clear G1
   go_wp2
   go_meet
   case rel =>
    obtain⟨g1,g2,g3,g4⟩:=H123.out
    obtain⟨x,t,hx⟩:∃x t,xs2=x::t:=by
     have hf:=HF0.out
     cases xs2 with
     | nil=>simp[hdF] at hf
     | cons y t=>exact⟨y,t,rfl⟩
    have hf:=HF0.out
    have hS:=HS.out
    subst hx
    have hfr:x.fr=fr:=by simpa [hdF] using hf
    have hG:=HG1.out
    rw[hS] at hG
    have hxm:x∈xs:=by rw[hS];exact List.mem_append_right _ (List.mem_cons_self ..)
    refine⟨rfl,(show Aside _ from ⟨ov,x,t,hG,hfr,HKEYS.out x hxm,fun vs=>?_,Kp.of_below B1,fun k hk=>.inl (by rw[hS];exact hk),by rw[←hS];have:=HN0.out;omega⟩)⟩
    rw[hS,List.map_append,zdn _ _ _ _ _ g4,List.map_cons,zlZ _ _ _ _ _ (show x.pl.1=fr from hfr),Wm.pl,hfr]
 case rest =>
  rename World=>wc
  obtain⟨rfl,HP⟩:=hcut
  obtain⟨ov4,x,xs2',P⟩:=HP.out
  have G4:=P.at_
  obtain⟨g,c,hg,hgl,hgb⟩:=G4.row_some (by rw[List.length_append,List.length_cons];omega)
  obtain⟨N,hN⟩:∃N,(xs1++x::xs2').length=N:=⟨_,rfl⟩
  have hKN:K<N:=by rw[←hN,List.length_append,List.length_cons,HK.out];omega
  have hN1:N≤1001:=by rw[←hN];exact P.few
  have hpt:=G4.ptr hg (j:=K) (by rw[hN];exact hKN)
  have hgx:(xs1++x::xs2').getD K dwm=x:=by rw[←HK.out,List.getD_eq_getElem?_getD,List.getElem?_append_right (Nat.le_refl _),Nat.sub_self];rfl
  rw[hgx,Wm.p] at hpt
  have hc16:=G4.c16
  rw[hg,hN] at hc16
  obtain⟨C,hC1,hC2⟩:=G4.blk
  have hc11:wc.cell? ⟨gb,11,none⟩=some s.av:=by rw[hC1.cell];exact hC2.c11
  have hc12:wc.cell? ⟨gb,12,none⟩=some s.tv:=by rw[hC1.cell];exact hC2.c12
  have hglc:gb<wc.heap.size:=hC1.lt
  have hwc:=P.kp.size
  have bd:Below wc.heap.size wc wc.drew:=(Below.refl _ _).drew
  have Pd:=P.on bd
  have hbut:Bts S0 gb W1 wc:=GrAt.but HB1.out P.kp (fun k hk=>by rcases HIN.out k hk with h|h;exact .inl h;exact .inr (by omega)) (by omega)
  have hxm:=Pd.at_.wm x (List.mem_append_right _ (List.mem_cons_self ..))
  have hv1:zah wc.drew kq ls:=(zek HV.out.1 P.kp HKD.out).on bd
  have cG:=zjt hxm P.keys.1 P.keys.2.1 P.keys.2.2.1 HM.out kq kc ls HL.out.1 hv1 (by show base≤wc.heap.size;omega) s.av s.tv (fun W hb=>HN.out W (hbut.on (((Below.refl _ wc).drew).trans hb)))
  rw[HLS.out] at cG
  have hKz:(K:Int)<(N:Int):=by omega
  have hK0:(0:Int)≤(K:Int):=by omega
  have HPd:Aside _:=Pd
  have HKR:Aside (∀g∈x.gs,g.rs.length+1≤10000):=P.keys.2.2.2
  have hv2:zah wc.drew vq vs:=(zek HV.out.2 P.kp HVD.out).on bd
  have HV2:Aside (zah wc.drew vq vs):=hv2
  clear hC1 hC2 hxm hv1 hv2 hbut Pd P HP G4 hgx hg hN
  go_upto_region 4 with fail
  go_cut [11,12] (fun s11 s12 wx=>∃gz,s11=.pointer (some ⟨gz,0,none⟩)∧s12=.nilIface∧Aside (∃l1 x' gg l2,gg.z=gz∧zmE wc.drew wx base ps0 x ls l1 x' gg l2))
  case first=>as_aux_lemma =>
   refine zaP 63 16 51 (by kernel_rfl) rfl (by kernel_rfl) _ rfl rfl (fun r wq=>∃gz,r=.tuple #[.pointer (some ⟨gz,0,none⟩),.nilIface]∧∃l1 x' gg l2,gg.z=gz∧zmE wc.drew wq base ps0 x ls l1 x' gg l2) (fun i r=>(#[.pointer (some ⟨gb,0,none⟩),.pointer (some ⟨gb,0,none⟩),.pointer (some ⟨gb,16,none⟩),.slice (some ⟨g,0,none⟩) N c,.int .i64 (K:Int),.pointer (some ⟨g,K,none⟩),.pointer (some ⟨x.z,0,none⟩),.slice kq LS kc,.pointer (some ⟨gb,0,none⟩),.pointer (some ⟨gb,0,none⟩),.pointer (some ⟨gb,11,none⟩),s.av,.pointer (some ⟨gb,0,none⟩),.pointer (some ⟨gb,0,none⟩),.pointer (some ⟨gb,12,none⟩),s.tv]:Array Value).getD i (match i with|17=>r|18=>elemT r 0|19=>elemT r 1|20=>elemT r 0|21=>elemT r 1|_=>undef)) (fun i hi r r2=>by have hi2:i<(#[.pointer (some ⟨gb,0,none⟩),.pointer (some ⟨gb,0,none⟩),.pointer (some ⟨gb,16,none⟩),.slice (some ⟨g,0,none⟩) N c,.int .i64 (K:Int),.pointer (some ⟨g,K,none⟩),.pointer (some ⟨x.z,0,none⟩),.slice kq LS kc,.pointer (some ⟨gb,0,none⟩),.pointer (some ⟨gb,0,none⟩),.pointer (some ⟨gb,11,none⟩),s.av,.pointer (some ⟨gb,0,none⟩),.pointer (some ⟨gb,0,none⟩),.pointer (some ⟨gb,12,none⟩),s.tv]:Array Value).size:=hi;unfold Array.getD;rw[dif_pos hi2,dif_pos hi2]) ?_ ?_ ?_
   ·intro i o d ho hd hic a wq r hw hr hdep hold KK hKK
    rcases i with _|i
    ·cases ho;cases hd
     obtain rfl:=hw (by decide)
     have q0:a.tmps.getD 0 undef=.pointer (some ⟨gb,0,none⟩):=hold 0 rfl
     rw[Array.getD_eq_getD_getElem?] at q0
     unfold Oper.wp execOp
     go_simp
     exact hKK
    rcases i with _|i
    ·cases ho;cases hd
     obtain rfl:=hw (by decide)
     have q35:a.tmps.getD 35 undef=.pointer (some ⟨gb,0,none⟩):=hdep ⟨0,.data⟩ (by simp) rfl (by decide) _ 35 rfl rfl
     rw[Array.getD_eq_getD_getElem?] at q35
     unfold Oper.wp execOp
     go_simp
     exact hKK
    rcases i with _|i
    ·cases ho;cases hd
     obtain rfl:=hw (by decide)
     have q36:a.tmps.getD 36 undef=.pointer (some ⟨gb,0,none⟩):=hdep ⟨1,.data⟩ (by simp) rfl (by decide) _ 36 rfl rfl
     rw[Array.getD_eq_getD_getElem?] at q36
     unfold Oper.wp execOp
     go_simp
     exact hKK
    rcases i with _|i
    ·cases ho;cases hd
     obtain rfl:=hw (by decide)
     have q37:a.tmps.getD 37 undef=.pointer (some ⟨gb,16,none⟩):=hdep ⟨2,.data⟩ (by simp) rfl (by decide) _ 37 rfl rfl
     rw[Array.getD_eq_getD_getElem?] at q37
     unfold Oper.wp execOp
     go_simp
     exact hKK
    rcases i with _|i
    ·cases ho;cases hd
     obtain rfl:=hw (by decide)
     have q9:a.tmps.getD 9 undef=.int .i64 (K:Int):=hold 9 rfl
     rw[Array.getD_eq_getD_getElem?] at q9
     unfold Oper.wp execOp
     go_simp
     exact hKK
    rcases i with _|i
    ·cases ho;cases hd
     obtain rfl:=hw (by decide)
     have q38:a.tmps.getD 38 undef=.slice (some ⟨g,0,none⟩) N c:=hdep ⟨3,.data⟩ (by simp) rfl (by decide) _ 38 rfl rfl
     rw[Array.getD_eq_getD_getElem?] at q38
     have q39:a.tmps.getD 39 undef=.int .i64 (K:Int):=hdep ⟨4,.data⟩ (by simp) rfl (by decide) _ 39 rfl rfl
     rw[Array.getD_eq_getD_getElem?] at q39
     unfold Oper.wp execOp
     go_simp
     exact hKK
    rcases i with _|i
    ·cases ho;cases hd
     obtain rfl:=hw (by decide)
     have q40:a.tmps.getD 40 undef=.pointer (some ⟨g,K,none⟩):=hdep ⟨5,.data⟩ (by simp) rfl (by decide) _ 40 rfl rfl
     rw[Array.getD_eq_getD_getElem?] at q40
     unfold Oper.wp execOp
     go_simp
     exact hKK
    rcases i with _|i
    ·cases ho;cases hd
     obtain rfl:=hw (by decide)
     have q2:a.tmps.getD 2 undef=.slice kq LS kc:=hold 2 rfl
     rw[Array.getD_eq_getD_getElem?] at q2
     unfold Oper.wp execOp
     go_simp
     exact hKK
    rcases i with _|i
    ·cases ho;cases hd
     obtain rfl:=hw (by decide)
     have q0:a.tmps.getD 0 undef=.pointer (some ⟨gb,0,none⟩):=hold 0 rfl
     rw[Array.getD_eq_getD_getElem?] at q0
     unfold Oper.wp execOp
     go_simp
     exact hKK
    rcases i with _|i
    ·cases ho;cases hd
     obtain rfl:=hw (by decide)
     have q43:a.tmps.getD 43 undef=.pointer (some ⟨gb,0,none⟩):=hdep ⟨8,.data⟩ (by simp) rfl (by decide) _ 43 rfl rfl
     rw[Array.getD_eq_getD_getElem?] at q43
     unfold Oper.wp execOp
     go_simp
     exact hKK
    rcases i with _|i
    ·cases ho;cases hd
     obtain rfl:=hw (by decide)
     have q44:a.tmps.getD 44 undef=.pointer (some ⟨gb,0,none⟩):=hdep ⟨9,.data⟩ (by simp) rfl (by decide) _ 44 rfl rfl
     rw[Array.getD_eq_getD_getElem?] at q44
     unfold Oper.wp execOp
     go_simp
     exact hKK
    rcases i with _|i
    ·cases ho;cases hd
     obtain rfl:=hw (by decide)
     have q45:a.tmps.getD 45 undef=.pointer (some ⟨gb,11,none⟩):=hdep ⟨10,.data⟩ (by simp) rfl (by decide) _ 45 rfl rfl
     rw[Array.getD_eq_getD_getElem?] at q45
     unfold Oper.wp execOp
     go_simp
     exact hKK
    rcases i with _|i
    ·cases ho;cases hd
     obtain rfl:=hw (by decide)
     have q0:a.tmps.getD 0 undef=.pointer (some ⟨gb,0,none⟩):=hold 0 rfl
     rw[Array.getD_eq_getD_getElem?] at q0
     unfold Oper.wp execOp
     go_simp
     exact hKK
    rcases i with _|i
    ·cases ho;cases hd
     obtain rfl:=hw (by decide)
     have q47:a.tmps.getD 47 undef=.pointer (some ⟨gb,0,none⟩):=hdep ⟨12,.data⟩ (by simp) rfl (by decide) _ 47 rfl rfl
     rw[Array.getD_eq_getD_getElem?] at q47
     unfold Oper.wp execOp
     go_simp
     exact hKK
    rcases i with _|i
    ·cases ho;cases hd
     obtain rfl:=hw (by decide)
     have q48:a.tmps.getD 48 undef=.pointer (some ⟨gb,0,none⟩):=hdep ⟨13,.data⟩ (by simp) rfl (by decide) _ 48 rfl rfl
     rw[Array.getD_eq_getD_getElem?] at q48
     unfold Oper.wp execOp
     go_simp
     exact hKK
    rcases i with _|i
    ·cases ho;cases hd
     obtain rfl:=hw (by decide)
     have q49:a.tmps.getD 49 undef=.pointer (some ⟨gb,12,none⟩):=hdep ⟨14,.data⟩ (by simp) rfl (by decide) _ 49 rfl rfl
     rw[Array.getD_eq_getD_getElem?] at q49
     unfold Oper.wp execOp
     go_simp
     exact hKK
    rcases i with _|i
    ·exact absurd rfl hic
    rcases i with _|i
    ·cases ho;cases hd
     obtain⟨q51,hpq⟩:=hr (by decide)
     obtain⟨gz,rfl,-⟩:=hpq
     rw[Array.getD_eq_getD_getElem?] at q51
     unfold Oper.wp execOp
     go_simp
     exact hKK
    rcases i with _|i
    ·cases ho;cases hd
     obtain⟨-,hpq⟩:=hr (by decide)
     obtain⟨gz,rfl,-⟩:=hpq
     have q34:a.tmps.getD 34 undef=.tuple #[.pointer (some ⟨gz,0,none⟩),.nilIface]:=hdep ⟨17,.data⟩ (by simp) rfl (by decide) _ 34 rfl rfl
     rw[Array.getD_eq_getD_getElem?] at q34
     unfold Oper.wp execOp
     go_simp
     exact hKK
    rcases i with _|i
    ·cases ho;cases hd
     obtain⟨-,hpq⟩:=hr (by decide)
     obtain⟨gz,rfl,-⟩:=hpq
     have q34:a.tmps.getD 34 undef=.tuple #[.pointer (some ⟨gz,0,none⟩),.nilIface]:=hdep ⟨17,.data⟩ (by simp) rfl (by decide) _ 34 rfl rfl
     rw[Array.getD_eq_getD_getElem?] at q34
     unfold Oper.wp execOp
     go_simp
     exact hKK
    rcases i with _|i
    ·cases ho;cases hd
     obtain⟨-,hpq⟩:=hr (by decide)
     obtain⟨gz,rfl,-⟩:=hpq
     have q52:a.tmps.getD 52 undef=.pointer (some ⟨gz,0,none⟩):=hdep ⟨18,.data⟩ (by simp) rfl (by decide) _ 52 rfl rfl
     rw[Array.getD_eq_getD_getElem?] at q52
     unfold Oper.wp execOp
     go_simp
     exact hKK
    rcases i with _|i
    ·cases ho;cases hd
     obtain⟨-,hpq⟩:=hr (by decide)
     obtain⟨gz,rfl,-⟩:=hpq
     have q53:a.tmps.getD 53 undef=.nilIface:=hdep ⟨19,.data⟩ (by simp) rfl (by decide) _ 53 rfl rfl
     rw[Array.getD_eq_getD_getElem?] at q53
     unfold Oper.wp execOp
     go_simp
     exact hKK
    ·cases ho
   ·intro a hdep hold KK hKK
    have q41:a.tmps.getD 41 undef=.pointer (some ⟨x.z,0,none⟩):=hdep ⟨6,.data⟩ (by simp) rfl _ 41 rfl rfl
    rw[Array.getD_eq_getD_getElem?] at q41
    have q42:a.tmps.getD 42 undef=.slice kq LS kc:=hdep ⟨7,.data⟩ (by simp) rfl _ 42 rfl rfl
    rw[Array.getD_eq_getD_getElem?] at q42
    have q46:a.tmps.getD 46 undef=s.av:=hdep ⟨11,.data⟩ (by simp) rfl _ 46 rfl rfl
    rw[Array.getD_eq_getD_getElem?] at q46
    have q50:a.tmps.getD 50 undef=s.tv:=hdep ⟨15,.data⟩ (by simp) rfl _ 50 rfl rfl
    rw[Array.getD_eq_getD_getElem?] at q50
    unfold Oper.wp execOp
    go_simp
    refine cG.mono ?_
    rintro e w5 ⟨gz,rfl,l1,x',gg,l2,hgz,GP⟩
    exact hKK _ _ ⟨gz,rfl,l1,x',gg,l2,hgz,GP⟩
   ·intro r wq hp vs hvs
    obtain⟨gz,rfl,l1,x',gg,l2,hgz,GP⟩:=hp
    have ev0:vs 0=.pointer (some ⟨gb,0,none⟩):=hvs 0
    have ev1:vs 1=.pointer (some ⟨gb,0,none⟩):=hvs 1
    have ev2:vs 2=.pointer (some ⟨gb,16,none⟩):=hvs 2
    have ev3:vs 3=.slice (some ⟨g,0,none⟩) N c:=hvs 3
    have ev4:vs 4=.int .i64 (K:Int):=hvs 4
    have ev5:vs 5=.pointer (some ⟨g,K,none⟩):=hvs 5
    have ev6:vs 6=.pointer (some ⟨x.z,0,none⟩):=hvs 6
    have ev7:vs 7=.slice kq LS kc:=hvs 7
    have ev8:vs 8=.pointer (some ⟨gb,0,none⟩):=hvs 8
    have ev9:vs 9=.pointer (some ⟨gb,0,none⟩):=hvs 9
    have ev10:vs 10=.pointer (some ⟨gb,11,none⟩):=hvs 10
    have ev11:vs 11=s.av:=hvs 11
    have ev12:vs 12=.pointer (some ⟨gb,0,none⟩):=hvs 12
    have ev13:vs 13=.pointer (some ⟨gb,0,none⟩):=hvs 13
    have ev14:vs 14=.pointer (some ⟨gb,12,none⟩):=hvs 14
    have ev15:vs 15=s.tv:=hvs 15
    have ev16:vs 16=.tuple #[.pointer (some ⟨gz,0,none⟩),.nilIface]:=hvs 16
    have ev17:vs 17=.tuple #[.pointer (some ⟨gz,0,none⟩),.nilIface]:=hvs 17
    have ev18:vs 18=.pointer (some ⟨gz,0,none⟩):=hvs 18
    have ev19:vs 19=.nilIface:=hvs 19
    have ev20:vs 20=.pointer (some ⟨gz,0,none⟩):=hvs 20
    have ev21:vs 21=.nilIface:=hvs 21
    clear hvs
    change Exit.then _ _ Exit.normal (((((((((((((((((((((((_:Act).put (some 35) (vs 0)).put (some 36) (vs 1)).put (some 37) (vs 2)).put (some 38) (vs 3)).put (some 39) (vs 4)).put (some 40) (vs 5)).put (some 41) (vs 6)).put (some 42) (vs 7)).put (some 43) (vs 8)).put (some 44) (vs 9)).put (some 45) (vs 10)).put (some 46) (vs 11)).put (some 47) (vs 12)).put (some 48) (vs 13)).put (some 49) (vs 14)).put (some 50) (vs 15)).put (some 51) (vs 16)).put (some 34) (vs 17)).put (some 52) (vs 18)).put (some 53) (vs 19)).put (some 11) (vs 20)).put (some 12) (vs 21)) _
    rw[ev0,ev1,ev2,ev3,ev4,ev5,ev6,ev7,ev8,ev9,ev10,ev11,ev12,ev13,ev14,ev15,ev16,ev17,ev18,ev19,ev20,ev21]
    clear ev0 ev1 ev2 ev3 ev4 ev5 ev6 ev7 ev8 ev9 ev10 ev11 ev12 ev13 ev14 ev15 ev16 ev17 ev18 ev19 ev20 ev21
    simp only[Act.put,List.setIfInBounds_toArray,List.set_cons_succ,List.set_cons_zero]
    go_wp2
    go_meet
    case rel=>exact⟨gz,rfl,rfl,(show Aside _ from ⟨l1,x',gg,l2,hgz,GP⟩)⟩
  case rest =>
   rename World=>w5
   obtain⟨gz,rfl,rfl,HG⟩:=hcut
   obtain⟨l1,x',gg,l2,hgz,GP⟩:=HG.out
   have hgm:gg∈x'.gs:=by rw[GP.form.2.2];exact List.mem_append_right _ (List.mem_cons_self ..)
   obtain⟨⟨kv,hb1,hb2⟩,hacc,hlow⟩:=GP.at_.gp gg hgm
   rw[hgz] at hb1
   have hc1:w5.cell? ⟨gz,1,none⟩=some (.pointer (some ⟨gg.a,0,none⟩)):=by rw[hb1.cell];rfl
   have hsub:∀k,accS gg.a gg.v k→GrS gb ov xs k∨w.heap.size≤k:=fun k hk=>by
    rcases GP.foot k (.inr (.inr ⟨gg,hgm,hk⟩)) with h|h
    ·exact HPd.out.foot k (.inr (.inr ⟨x,List.mem_append_right _ (List.mem_cons_self ..),h⟩))
    ·have h:wc.heap.size≤k:=h
     exact .inr (by omega)
   have hS5:∀k,(k=x.z∨x.gv.ownBlock=some k)→GrS gb ov xs k∨w.heap.size≤k:=fun k hk=>HPd.out.foot k (.inr (.inr ⟨x,List.mem_append_right _ (List.mem_cons_self ..),hk.imp id .inl⟩))
   have hvd5:vs.length=0∨∀b o,vq=some ⟨b,o,none⟩→¬(b=x.z∨x.gv.ownBlock=some b)∧¬accS gg.a gg.v b:=by
    rcases HVD.out with h|h
    ·exact .inl h
    ·rcases HV.out.2 with h0|⟨b,o,e,hlb,-⟩
     ·exact .inl h0
     ·refine .inr fun b' o' e'=>?_
      rw[e] at e'
      injection e' with e'
      injection e' with e' _
      subst e'
      have hnb:=h b o e
      exact⟨fun hk=>(hS5 b hk).elim hnb (fun h=>by omega),fun hk=>(hsub b hk).elim hnb (fun h=>by omega)⟩
   have hv5:zah w5 vq vs:=zek HV2.out GP.kp (hvd5.imp id (fun h b o e=>(h b o e).1))
   have hrs:gg.rs.length+1≤10000:=by
    rcases GP.rows with h|h
    ·exact HKR.out gg h
    ·rw[h];simp
   have cA:=add_c gg.a gg.v ps0 gg.rs vq vc vs w5 hacc hrs hv5 HL.out.2 (by rw[HVS.out];exact hvl) (hvd5.imp id (fun h b o e=>(h b o e).2))
   rw[HE.out,HVS.out,gdR,if_pos HE.out] at cA
   rw[show errV 0=.nilIface from rfl] at cA
   have HGP:Aside _:=GP
   clear hb1 hb2 hacc hlow GP hv5 hvd5 hS5 hsub hrs HG
   go_wp2_with fail
   refine cA.mono ?_
   rintro e w6 ⟨rfl,hA6,hK6⟩
   have HF:Aside _:=zvv HPd.out HGP.out hA6 hK6
   clear cA hA6 hK6
   go_wp2
   go_ret
   exact⟨rfl,HF⟩
end
def adL(key vs:List V3)(fs:List Int)(l:List PW):List PW:=fs.foldl (fun l f=>wAdd key vs f l) l
def adW(fs:List Int)(tk:List V3×Bool×Int)(key:List V3)(l:List PW):List PW×Int :=
 if tk.2.2≠0 then (l,tk.2.2) else if tk.2.1=false then (l,0) else if fs.any (wFull key l) then (l,4) else (adL key tk.1 fs l,0)
theorem zeE(key vs:List V3){fr fr':Int}(hne:fr'≠fr):∀l:List PW,wFull key (wAdd key vs fr l) fr'=wFull key l fr'
 | []=>by simp[wAdd,wFull];intro h;exact absurd h.symm hne
 | x::t=>by
  rw[wAdd]
  split
  ·have ih:=zeE key vs hne t
   rw[wFull,wFull] at ih
   rw[wFull,wFull,List.any_cons,List.any_cons,ih]
  ·split
   ·rename_i h
    rw[wFull,wFull,List.any_cons,List.any_cons]
    have e1:((x.1 == fr')=false):=by simp;omega
    simp only[e1,Bool.false_and,Bool.false_or]
   ·rw[wFull,wFull,List.any_cons]
    have e1:((fr == fr')=false):=by simp;omega
    simp only[e1,Bool.false_and,Bool.false_or]
theorem zge(key vs:List V3){fr a b:Int}(hf:a≤fr∧fr≤b):∀l:List PW,(∀x∈l,a≤x.1∧x.1≤b)→∀x∈wAdd key vs fr l,a≤x.1∧x.1≤b
 | [],_=>fun x hx=>by rw[wAdd] at hx;rw[List.mem_singleton.1 hx];exact hf
 | y::t,h=>fun x hx=>by
  have hy:=h y (List.mem_cons_self ..)
  have ht:∀x∈t,a≤x.1∧x.1≤b:=fun x hx=>h x (List.mem_cons_of_mem _ hx)
  rw[wAdd] at hx
  split at hx
  ·rcases List.mem_cons.1 hx with rfl|hx
   ·exact hy
   ·exact zge key vs hf t ht x hx
  ·split at hx
   ·rcases List.mem_cons.1 hx with rfl|hx
    ·exact hy
    ·exact ht x hx
   ·rcases List.mem_cons.1 hx with rfl|hx
    ·exact hf
    ·exact h x hx
theorem zoZ(key vs:List V3)(fs:List Int)(f:Int)(l:List PW):adL key vs (fs++[f]) l=wAdd key vs f (adL key vs fs l):=by
 rw[adL,adL,List.foldl_append];rfl
theorem zqi{kt:List Int}{key:List V3}(hk:OkK kt key)(vs:List V3){a b:Int}:∀(fs:List Int) (c:Nat) (l:List PW),WOk kt c l→(∀x∈l,a≤x.1∧x.1≤b)→(∀f∈fs,a≤f∧f≤b)→fs.Nodup→fs.any (wFull key l)=false →
  WOk kt (c+fs.length) (adL key vs fs l)∧(∀x∈adL key vs fs l,a≤x.1∧x.1≤b)
 | [],c,l,h,hr,_,_,_=>⟨h,hr⟩
 | f::fs,c,l,h,hr,hf,hd,hn=>by
  rw[List.any_cons,Bool.or_eq_false_iff] at hn
  obtain⟨hd1,hd2⟩:=List.nodup_cons.1 hd
  have h1:=h.add hk f hn.1 vs
  have h2:=zge key vs (hf f (List.mem_cons_self ..)) l hr
  have h3:fs.any (wFull key (wAdd key vs f l))=false:=by
   rw[List.any_eq_false]
   intro g hg
   rw[zeE key vs (fun e=>hd1 (by rw[←e];exact hg))]
   exact List.any_eq_false.1 hn.2 g hg
  have:=zqi hk vs fs (c+1) (wAdd key vs f l) h1 h2 (fun g hg=>hf g (List.mem_cons_of_mem _ hg)) hd2 h3
  rw[List.length_cons,show c+(fs.length+1)=c+1+fs.length by omega]
  exact this
theorem zpO{kt:List Int}{key:List V3}(hk:OkK kt key)(vs:List V3){a b:Int}(fs:List Int)(c:Nat)(l:List PW)(h:WOk kt c l)(hr:∀x∈l,a≤x.1∧x.1≤b)(hf:∀f∈fs,a≤f∧f≤b)(hd:fs.Nodup)(hn:fs.any (wFull key l)=false)(k:Nat)(hk2:k<fs.length) :
  WOk kt (c+k) (adL key vs (fs.take k) l)∧(∀x∈adL key vs (fs.take k) l,a≤x.1∧x.1≤b)∧wFull key (adL key vs (fs.take k) l) fs[k]=false:=by
 have hsub:(fs.take k).Sublist fs:=List.take_sublist k fs
 have hn1:(fs.take k).any (wFull key l)=false:=by
  rw[List.any_eq_false] at hn ⊢
  exact fun f hf=>hn f (hsub.subset hf)
 have h1:=zqi hk vs (fs.take k) c l h hr (fun f hg=>hf f (hsub.subset hg)) (hd.sublist hsub) hn1
 rw[List.length_take,Nat.min_eq_left (by omega)] at h1
 refine⟨h1.1,h1.2,?_⟩
 have h2:∀(gs:List Int) (l:List PW),fs[k] ∉ gs→wFull key (adL key vs gs l) fs[k]=wFull key l fs[k]:=fun gs=>by
  induction gs with
  | nil=>intro l _;rfl
  | cons g t ih =>
   intro l hg
   rw[List.mem_cons,not_or] at hg
   have:=ih (wAdd key vs g l) hg.2
   rw[adL,List.foldl_cons]
   rw[adL] at this
   rw[this,zeE key vs hg.1]
 rw[h2]
 ·have:=List.any_eq_false.1 hn fs[k] (List.getElem_mem hk2)
  simpa using this
 ·intro hm
  obtain⟨j,hj,e⟩:=List.getElem_of_mem hm
  have hjk:j<k:=by rw[List.length_take] at hj;omega
  rw[List.getElem_take] at e
  have:=(List.getElem_inj hd).1 e
  omega
theorem zjg{l1 l2:List PW}{fr:Int}(key:List V3)(h1:∀x∈l1,x.1<fr)(h3:∀x∈l2.tail,fr<x.1):wFull key (l1++l2) fr=match l2 with
  | []=>false
  | x::_=>x.1 == fr&&!gRoom key x.2:=by
 have no:∀l:List PW,(∀x∈l,x.1≠fr)→(l.any fun x=>x.1 == fr&&!gRoom key x.2)=false:=fun l hl=>by
  rw[List.any_eq_false]
  intro x hx
  have:=hl x hx
  simp[this]
 rw[wFull,List.any_append,no l1 (fun x hx=>by have:=h1 x hx;omega),Bool.false_or]
 cases l2 with
 | nil=>rfl
 | cons x t =>
  rw[List.any_cons,no t (fun y hy=>by have:=h3 y hy;omega),Bool.or_false]
section
open Go.BigFrame
theorem zqA{w:World}{base:Nat}{ps0:List Pt}{gb:Nat}{s:Gs}{last:Int}{ov:Value}{xs:List Wm}(h:GrAt w base ps0 gb s last ov xs){kt:List Int}{c:Nat}(hW:WOk kt c (xs.map Wm.pl))(hn:xs.length≤1000)(hm:kt.length≤1000)(fr:Int)(gB kB:Nat)(kq:Option Addr)(kc:Nat)(ls:List V3)(hl:OkK kt ls)(hv:zah w kq ls)
  (hgB:w.cell? ⟨gB,0,none⟩=some (.pointer (some ⟨gb,0,none⟩)))(hkB:w.cell? ⟨kB,0,none⟩=some (.slice kq ls.length kc)) :
  Calls Tryz.prog 144 #[.int .i64 fr,.pointer (some ⟨gB,0,none⟩),.pointer (some ⟨kB,0,none⟩)] w fun e w'=>e=.returned (.bool (wFull ls (xs.map Wm.pl) fr))∧Below w.heap.size w w':=by
 have hr:xs.Pairwise fun a b=>a.fr<b.fr:=by
  have:=hW.rise
  rw[List.pairwise_map] at this
  exact this
 obtain⟨xs1,xs2,hs,h1,h2,h3⟩:=zcY (·.fr) fr xs hr
 have hF:=gfind h hn fr xs1 xs2 hs h1 h2
 have hw:=zjg (l1:=xs1.map Wm.pl) (l2:=xs2.map Wm.pl) (fr:=fr) ls (fun x hx=>by obtain⟨y,hy,rfl⟩:=List.mem_map.1 hx;exact h1 y hy) (fun x hx=>by
  rw[←List.map_tail] at hx
  obtain⟨y,hy,rfl⟩:=List.mem_map.1 hx
  exact h3 y hy)
 rw[←List.map_append,←hs] at hw
 have hgBl:gB<w.heap.size:=by
  rcases Nat.lt_or_ge gB w.heap.size with h|h
  ·exact h
  ·simp[World.cell?,Array.getElem?_eq_none h] at hgB
 have hkBl:kB<w.heap.size:=by
  rcases Nat.lt_or_ge kB w.heap.size with h|h
  ·exact h
  ·simp[World.cell?,Array.getElem?_eq_none h] at hkB
 have hgl:gb<w.heap.size:=by obtain⟨C,c1,-⟩:=h.blk;exact c1.lt
 have hc16:=h.c16
 have dd:∀W:World,Below W.heap.size W W.drew:=fun W=>(Below.refl _ _).drew
 by_cases hF0:hdF fr xs2=true
 ·obtain⟨x,t,rfl⟩:∃x t,xs2=x::t:=by
   cases xs2 with
   | nil=>simp[hdF] at hF0
   | cons y t=>exact⟨y,t,rfl⟩
  have hx0:x.fr=fr:=by simpa [hdF] using hF0
  have hxm:x∈xs:=by rw[hs];exact List.mem_append_right _ (List.mem_cons_self ..)
  have hg:=hW.ok _ (List.mem_map_of_mem hxm)
  have hwf:wFull ls (xs.map Wm.pl) fr=!gRoom ls (x.gs.map Gm.pl):=by
   rw[hw]
   show (x.fr == fr&&!gRoom ls (x.gs.map Gm.pl))=_
   simp[hx0]
  rw[hwf]
  obtain⟨g,cc,hov,hgl1,-⟩:=h.row_some (by rw[hs,List.length_append,List.length_cons];omega)
  have hK:xs1.length<xs.length:=by rw[hs,List.length_append,List.length_cons];omega
  have hpt:=h.ptr hov hK
  have hgx:xs.getD xs1.length dwm=x:=by rw[hs,List.getD_eq_getElem?_getD,List.getElem?_append_right (Nat.le_refl _),Nat.sub_self];rfl
  rw[hgx,Wm.p] at hpt
  rw[hov] at hc16
  have hkeys:(∀g∈x.gs,OkK kt g.key)∧(x.gs.Pairwise fun g h=>keyC g.key h.key<0)∧x.gs.length≤1000:=by
   refine⟨fun g hgm=>(hg.ok _ (List.mem_map_of_mem hgm)).1,?_,?_⟩
   ·have:=hg.rise
    rw[Wm.pl,List.pairwise_map] at this
    exact this
   ·have:=hg.few
    rw[Wm.pl,List.length_map] at this
    omega
  have cR:=fun W (hb:Below w.heap.size w W)=>wroom ((h.wm x hxm).on hb) hkeys.1 hkeys.2.1 hkeys.2.2 hm kq kc ls hl (hv.on hb)
  rw[hF0] at hF
  generalize gRoom ls (x.gs.map Gm.pl)=R at *
  obtain⟨K,hK0⟩:∃K,xs1.length=K:=⟨_,rfl⟩
  obtain⟨N,hN⟩:∃N,xs.length=N:=⟨_,rfl⟩
  rw[hK0] at hF hK hpt
  rw[hN] at hK hc16 hn
  have hKz:(K:Int)<(N:Int):=by omega
  have hK0z:(0:Int)≤(K:Int):=by omega
  have HX:∀W,Below w.heap.size w W→W.cell? ⟨gB,0,none⟩=some (.pointer (some ⟨gb,0,none⟩))∧W.cell? ⟨kB,0,none⟩=some (.slice kq ls.length kc)∧W.cell? ⟨gb,16,none⟩=some (.slice (some ⟨g,0,none⟩) N cc)∧W.cell? ⟨g,K,none⟩=some (.pointer (some ⟨x.z,0,none⟩)):=fun W hb =>
   ⟨by rw[hb.cell (p:=⟨gB,0,none⟩) hgBl];exact hgB,by rw[hb.cell (p:=⟨kB,0,none⟩) hkBl];exact hkB,by rw[hb.cell (p:=⟨gb,16,none⟩) hgl];exact hc16,by rw[hb.cell (p:=⟨g,K,none⟩) hgl1];exact hpt⟩
  have HXA:Aside _:=HX
  have HR:Aside _:=cR
  clear h hW hr hs h1 h2 h3 hw hwf hkeys hg hxm hov hgx hc16 hpt hF0 hkB cR HX hv hl hK0 hN hx0
  generalize ls.length=M at *
  go_enter Tryz.func144,Tryz.ntmps144
  go_wp2_with fail
  refine hF.mono ?_
  rintro e w1 ⟨rfl,b1⟩
  obtain⟨c1,c2,c3,c4⟩:=HXA.out w1 b1
  have hb1:b1.size=b1.size:=rfl
  have cR1:=HR.out _ (b1.trans ((dd w1).mono b1.size))
  have HB1:Aside _:=b1
  clear hF hgB b1 hb1
  go_wp2
  go_region_with (go_at_call 146;refine cR1.mono ?_;rintro e w2 ⟨rfl,b2⟩)
  all_goals
   have hB:Below w.heap.size w w2:=(HB1.out.trans ((dd w1).mono HB1.out.size)).trans (b2.mono (HB1.out.size))
   clear cR1 b2
   go_wp2
   go_ret
   exact⟨rfl,hB⟩
 ·have hF1:hdF fr xs2=false:=by simpa using hF0
  have hwf:wFull ls (xs.map Wm.pl) fr=false:=by
   rw[hw]
   cases xs2 with
   | nil=>rfl
   | cons x t =>
    show (x.fr == fr&&_)=false
    have:(x.fr == fr)=false:=hF1
    rw[this,Bool.false_and]
  rw[hwf,]
  rw[hF1] at hF
  clear h hW hr hs h1 h2 h3 hw hwf hc16 hF0 hF1 hv hl
  go_enter Tryz.func144,Tryz.ntmps144
  go_wp2_with fail
  refine hF.mono ?_
  rintro e w1 ⟨rfl,b1⟩
  have hgB1:w1.cell? ⟨gB,0,none⟩=some (.pointer (some ⟨gb,0,none⟩)):=by rw[b1.cell (p:=⟨gB,0,none⟩) hgBl];exact hgB
  clear hF
  have hB:Below w.heap.size w w1.drew:=b1.trans ((dd w1).mono b1.size)
  go_wp2
  go_region
  all_goals
   go_wp2
   go_ret
   exact⟨rfl,hB⟩
theorem zjK(fn:FuncId)(hent:∀(args:Array Value) (W:World),Sem.run Tryz.prog (callFunc fn args) W=.ok (.enter fn args) W)(caps:Array Value)(u:Value)(ts:List Int)(P:Int→Bool)(w:World)(hu:IntA w u ts)
  (hc:∀t∈ts,∀W,Below w.heap.size w W→Calls Tryz.prog fn (#[.int .i64 t]++caps) W fun e w'=>e=.returned (.bool (P t))∧Below W.heap.size W w') :
  Calls Tryz.prog 176 #[u,.func (.func fn) #[] caps] w fun e w'=>(∃i,e=.returned (.int .i64 i)∧((0≤i∧ts.any P=true)∨(i=-1∧ts.any P=false)))∧Below w.heap.size w w':=by
 obtain⟨p,c,rfl,⟨hl1,hl2⟩,hnil,hcell⟩:=hu
 obtain⟨N,hN⟩:∃N,ts.length=N:=⟨_,rfl⟩
 have HN:Hid (ts.length=N):=hN
 have HC:Aside _:=hc
 have HCE:Aside _:=hcell
 rw[hN] at hl1 hl2 ⊢
 have hnz:(N:Int)≤1048576:=by omega
 clear hc hcell hN
 go_enter Tryz.func176,Tryz.ntmps176
 go_wp2
 go_loopg [5,8] N (fun gg _ s8 wr=>∃kk:Nat,kk≤N∧N-kk≤gg∧s8=.int .i64 (kk:Int)∧Hid ((ts.take kk).any P=false)∧Aside (Below w.heap.size w wr))
 case atStart=>exact⟨0,Nat.zero_le _,by omega,rfl,(show Hid _ from rfl),(show Aside _ from Below.refl _ _)⟩
 case round =>
  obtain⟨kk,hkk,hg,rfl,HA,BW⟩:=hrel
  by_cases hlt:kk<N
  ·have hltz:(kk:Int)<(N:Int):=by omega
   have h0z:(0:Int)≤(kk:Int):=by omega
   have hlt2:kk<ts.length:=by rw[HN.out];exact hlt
   have hcap:c≠0:=by omega
   cases p with
   | none=>exact absurd (hnil rfl) hcap
   | some a =>
   obtain⟨g,off,rfl,hgl,hce⟩:=HCE.out a rfl
   have hck:=hce kk hlt2
   rw[←BW.out.cell (p:=⟨g,off+kk,none⟩) hgl] at hck
   have cC:=HC.out ts[kk] (List.getElem_mem hlt2) wr BW.out
   have HS:Hid ((ts.take (kk+1)).any P=((ts.take kk).any P||P ts[kk])):=by
    show _=_
    rw[List.take_succ_eq_append_getElem hlt2,List.any_append];simp
   have HD:Hid (P ts[kk]=true→ts.any P=true):=fun h=>List.any_eq_true.2 ⟨ts[kk],List.getElem_mem hlt2,h⟩
   clear hce
   generalize ts[kk]=y at *
   generalize P y=Q at *
   cases Q
   ·go_wp2_with fail
    refine cC.mono ?_
    rintro e w1 ⟨rfl,b1⟩
    have HE2:Hid ((ts.take (kk+1)).any P=false):=by show _=_;rw[HS.out,HA.out];rfl
    have BW2:Aside (Below w.heap.size w w1):=BW.out.trans (b1.mono BW.out.size)
    clear cC HS HD HA BW b1 hck
    go_wp2
    go_roundg (N-(kk+1))
    case measure=>omega
    case rel=>exact⟨kk+1,by omega,by omega,by go_num,HE2,BW2⟩
   ·go_wp2_with fail
    refine cC.mono ?_
    rintro e w1 ⟨rfl,b1⟩
    have BW2:Aside (Below w.heap.size w w1):=BW.out.trans (b1.mono BW.out.size)
    have hT:ts.any P=true:=HD.out (by first|rfl|trivial)
    have HT:Hid (ts.any P=true):=hT
    clear cC HS HD HA BW b1 hck hT
    go_wp2
    go_ret
    exact⟨⟨_,rfl,.inl ⟨h0z,HT.out⟩⟩,BW2.out⟩
  ·have hltz:¬(kk:Int)<(N:Int):=by omega
   have HT:Hid (ts.any P=false):=by
    show _=_
    have h:=HA.out
    rwa [List.take_of_length_le (by rw[HN.out];omega)] at h
   clear HA
   go_wp2
   go_ret
   exact⟨⟨_,rfl,.inr ⟨rfl,by have h:=HT.out;first|exact h|(simpa using h)⟩⟩,BW.out⟩
theorem zga(fn:FuncId)(hent:∀(args:Array Value) (W:World),Sem.run Tryz.prog (callFunc fn args) W=.ok (.enter fn args) W)(caps:Array Value)(u:Value)(ts:List Int)(P:Int→Bool)(w:World)(hu:IntA w u ts)
  (hc:∀t∈ts,∀W,Below w.heap.size w W→Calls Tryz.prog fn (#[.int .i64 t]++caps) W fun e w'=>e=.returned (.bool (P t))∧Below W.heap.size W w') :
  Calls Tryz.prog 147 #[u,.func (.func fn) #[] caps] w fun e w'=>e=.returned (.bool (ts.any P))∧Below w.heap.size w w':=by
 have cI:=zjK fn hent caps u ts P w hu hc
 generalize ts.any P=R at cI ⊢
 clear hu hc
 go_enter Tryz.func147,Tryz.ntmps147
 go_wp2_with fail
 refine cI.mono ?_
 rintro e w1 ⟨⟨i,rfl,hi⟩,b1⟩
 clear cI
 rcases hi with ⟨h0,rfl⟩|⟨rfl,rfl⟩
 ·go_wp2
  go_ret
  exact⟨rfl,b1⟩
 ·go_wp2
  go_ret
  exact⟨rfl,b1⟩
def zbk(w:World)(p:Option Addr)(ns:List Nat):Prop:=ns.length=0∨∃b off,p=some ⟨b,off,none⟩∧b<w.heap.size∧∀j (h:j<ns.length),w.cell? ⟨b,off+j,none⟩=some (.int .i64 (ns[j]:Int))
theorem zbk.on{w w':World}{p:Option Addr}{vs:List Nat}(h:zbk w p vs)(hb:Below w.heap.size w w'):zbk w' p vs:=by
 rcases h with h|⟨b,off,e,hl,h⟩
 ·exact .inl h
 ·exact .inr ⟨b,off,e,by have:=hb.size;omega,fun j hj=>by rw[hb.cell (p:=⟨b,_,none⟩) hl];exact h j hj⟩
def keyP(rs:List V3)(ns:List Nat):List V3:=ns.map fun i=>rs.getD i (0,0,⟨#[]⟩)

theorem key_s(gb:Nat)(p q:Option Addr)(pc c:Nat)(ns:List Nat)(rs:List V3)(w:World)(hg:w.cell? ⟨gb,10,none⟩=some (.slice p ns.length pc))(hn:ns.length≤1000000)(hr:rs.length≤1000000)(hp:zbk w p ns)(h:zah w q rs)(hi:∀i∈ns,i<rs.length) :
  Calls Tryz.prog 143 #[.pointer (some ⟨gb,0,none⟩),.slice q rs.length c] w fun e w'=>(∃u,e=.returned u∧Aside (w'.ownsRow w.heap.size 27 3 u ns.length (zan (keyP rs ns))))∧Below w.heap.size w w':=by
 have H:Aside (zah w q rs):=h
 have HP:Aside (zbk w p ns):=hp
 have HI:Aside _:=hi
 obtain⟨N,hN⟩:∃N,ns.length=N:=⟨_,rfl⟩
 have HN:Hid (ns.length=N):=hN
 obtain⟨M,hM⟩:∃M,rs.length=M:=⟨_,rfl⟩
 have HM:Hid (rs.length=M):=hM
 rw[hN] at hn hg ⊢
 rw[hM] at hr ⊢
 clear h hp hi hN hM
 have hnz:(N:Int)≤1000000:=by omega
 have hmz:(M:Int)≤1000000:=by omega
 go_enter Tryz.func143,Tryz.ntmps143
 go_wp2
 go_loopg [5,7,13] N (fun gg s5 _ s13 wr=>∃(kk:Nat) (u:Value),kk≤N∧N-kk≤gg∧s13=.int .i64 (kk:Int)∧s5=u∧Aside (wr.ownsRow w.heap.size 27 3 u kk (zan (keyP rs (ns.take kk))))∧Aside (Below w.heap.size w wr))
 case atStart=>exact⟨0,.slice none 0 0,Nat.zero_le _,by omega,rfl,rfl,(show Aside _ from World.ownsRow_nil _ _ _ _),(show Aside _ from Below.refl _ _)⟩
 case round =>
  obtain⟨kk,u,hkk,hg',rfl,hu,OW,BW⟩:=hrel
  obtain rfl:u=_:=hu.symm
  by_cases hlt:kk<N
  ·have hltz:(kk:Int)<(N:Int):=by omega
   have h0z:(0:Int)≤(kk:Int):=by omega
   have hk1:kk<ns.length:=by rw[HN.out];exact hlt
   obtain⟨b0,o0,rfl,l0,r0⟩:=(HP.out.on BW.out).resolve_left (by omega)
   have hpl:=r0 kk hk1
   have hin:=HI.out _ (List.getElem_mem hk1)
   have HT:Hid (keyP rs (ns.take (kk+1))=keyP rs (ns.take kk)++[rs.getD ns[kk] (0,0,⟨#[]⟩)]):=by show _=_;rw[List.take_succ_eq_append_getElem hk1,keyP,keyP,List.map_append];rfl
   clear r0
   generalize ns[kk]=i at hpl hin HT
   obtain⟨b1,o1,rfl,l1,r1⟩:=(H.out.on BW.out).resolve_left (by omega)
   obtain⟨e0,e1,e2⟩:=r1 i hin
   have hgi:rs.getD i (0,0,⟨#[]⟩)=rs[i]:=by rw[List.getD_eq_getElem?_getD,List.getElem?_eq_getElem hin];rfl
   rw[hgi] at HT
   have hiM:i<M:=by rw[←HM.out];exact hin
   clear r1 hgi
   generalize rs[i]=x at e0 e1 e2 HT
   obtain⟨t,n,s⟩:=x
   simp only at e0 e1 e2
   have hiz:(i:Int)<(M:Int):=by omega
   have hi0:(0:Int)≤(i:Int):=by omega
   obtain⟨uq,uc,rfl⟩:=zaa OW.out
   have hbs:=BW.out.size
   have a1:∀(X:World) o,Below X.heap.size X (X.alloc o):=fun X o=>(Below.refl _ _).alloc (Nat.le_refl _) o
   have HO4:=(show Aside _ from zab OW.out (a1 wr (.cells #[.int .i64 t,.int .i64 n,.string s] 27)))
   have HJ4:=(show Aside _ from BW.out.alloc hbs (.cells #[.int .i64 t,.int .i64 n,.string s] 27))
   clear BW OW hin
   go_wp2_with (at_builtin;refine zaB rfl _ _ rfl w.heap.size _ kk (keyP rs (ns.take kk)) rfl HO4.out wr.heap.size 1 t n s rfl (news1 (by simp) _) (by omega) (by simp;omega) ?_)
   intro q' c' w4 ho hgr
   have hown4:∀m,(Value.slice uq kk uc).ownBlock=some m→w.heap.size≤m:=fun m hm=>(World.ownsRow.lt HO4.out m hm).1
   have B6:Aside (Below w.heap.size w w4):=HJ4.out.grown hgr (by simp;omega) hown4
   rw[←HT.out] at ho
   have O6:Aside (w4.ownsRow w.heap.size 27 3 (.slice q' (kk+1) c') (kk+1) (zan (keyP rs (ns.take (kk+1))))):=ho
   clear ho hgr HO4 HJ4 hown4
   go_wp2
   go_roundg (N-(kk+1))
   case measure=>omega
   case rel=>exact⟨kk+1,_,by omega,by omega,by go_num,rfl,O6,B6⟩
  ·have hltz:¬(kk:Int)<(N:Int):=by omega
   obtain rfl:kk=N:=by omega
   have ht:ns.take kk=ns:=List.take_of_length_le (by rw[HN.out];exact Nat.le_refl _)
   rw[ht] at OW
   go_wp2
   go_ret
   exact⟨⟨_,rfl,OW⟩,BW.out⟩
end
--BEGIN
def truP(b:Bool):V3:=(2,if b=true then 1 else 0,⟨#[]⟩)
def overP(n:Int):Int×Int:=if -9223372036854775808≤n∧n≤9223372036854775807 then (n,0) else (0,9)
def rkP(op:List UInt8)(a b:Int):Int×Int :=
 if op=[43] then overP (a+b) else if op=[45] then overP (a-b) else if op=[42] then overP (a*b) else if op=[47] then (if b=0∨(a=-9223372036854775808∧b=-1) then (0,9) else (a.tdiv b,0)) else if b=0 then (0,9) else (a.tmod b,0)
def rkV(op:List UInt8)(a b:Int):V3×Int:=if (rkP op a b).2≠0 then (noV,(rkP op a b).2) else ((1,(rkP op a b).1,⟨#[]⟩),0)
def zuN(op:List UInt8)(o:Int):Bool :=
 if op=[61] then o == 0 else if op=[60,62] then o != 0 else if op=[60] then decide (o<0) else if op=[60,61] then decide (o≤0) else if op=[62] then decide (0<o) else decide (0≤o)
def isY(v:V3):Bool:=v.2.1 == 1
def cmpV(op:List UInt8)(a b:V3):V3×Int :=
 if cmpE a.1 a.2.1 a.2.2.data.toList b.1 b.2.1 b.2.2.data.toList≠0 then (noV,cmpE a.1 a.2.1 a.2.2.data.toList b.1 b.2.1 b.2.2.data.toList)
 else (truP (zuN op (cmpN a.1 a.2.1 a.2.2.data.toList b.1 b.2.1 b.2.2.data.toList)),0)
def ops5:List (List UInt8):=[[43],[45],[42],[47],[37]]
def appP(op:List UInt8)(vs:List V3):V3×Int :=
 if op=[111,114] then (truP (isY (vs[0]?.getD noV)||isY (vs[1]?.getD noV)),0)
 else if op=[97,110,100] then (truP (isY (vs[0]?.getD noV)&&isY (vs[1]?.getD noV)),0)
 else if op=[110,111,116] then (truP (!isY (vs[0]?.getD noV)),0)
 else if ops5.contains op=true then rkV op (vs[0]?.getD noV).2.1 (vs[1]?.getD noV).2.1
 else if op=[110,101,103] then rkV [45] 0 (vs[0]?.getD noV).2.1
 else if op=[108,101,110] then ((1,((vs[0]?.getD noV).2.2.size:Int),⟨#[]⟩),0)
 else if op=[105,102] then (if isY (vs[0]?.getD noV)=true then vs[1]?.getD noV else vs[2]?.getD noV,0)
 else cmpV op (vs[0]?.getD noV) (vs[1]?.getD noV)
def vlE:List V3→Int
 | []=>0
 | r::rs=>if chk r.1 r.2.1 r.2.2.data.toList≠0 then chk r.1 r.2.1 r.2.2.data.toList else vlE rs
def doP(op:List UInt8)(vs:List V3):V3×Int :=
 if vlE vs≠0 then (noV,vlE vs) else if (ruleP op (vs.map (·.1))).2≠0 then (noV,(ruleP op (vs.map (·.1))).2) else appP op vs
def zpW:List (V3×Int)→Int
 | []=>0
 | r::rs=>if r.2≠0 then r.2 else zpW rs
def combP(op:List UInt8):List (V3×Int)→V3×Int
 | []=>(noV,0)
 | f::rest=>if f.2≠0 then (noV,f.2)
  else if ((decide (op=[97,110,100])&&!isY f.1)||(decide (op=[111,114])&&isY f.1))=true then (f.1,0)
  else if op=[105,102] then (if isY f.1=true then rest[0]?.getD (noV,0) else rest[1]?.getD (noV,0))
  else if zpW rest≠0 then (noV,zpW rest) else doP op (f.1::rest.map (·.1))
--BEGIN
mutual
def cmP(zs:List (ByteArray×Int))(rs:List V3):Ex→V3×Int
 | .node op nm vt vn vs _ l=>if op.data.toList=[118,97,108] then ((vt,vn,vs),0) else if op.data.toList=[99,111,108] then (rs[(findN nm.data.toList zs).toNat]?.getD noV,0) else combP op.data.toList (cmsP zs rs l)
def cmsP(zs:List (ByteArray×Int))(rs:List V3):List Ex→List (V3×Int)
 | []=>[]
 | x::xs=>cmP zs rs x::cmsP zs rs xs
end
theorem ztn{n B:Nat}{w W:World}(h:Below n w W)(hB:n≤B)(x y z:Value):Below n w (((W.setCell ⟨B,0,none⟩ x).setCell ⟨B,1,none⟩ y).setCell ⟨B,2,none⟩ z) :=
 ((h.setCell (p:=⟨B,0,none⟩) hB _).setCell (p:=⟨B,1,none⟩) hB _).setCell (p:=⟨B,2,none⟩) hB _
section
open Go.BigFrame
def rcGo:List (ByteArray×Int)→List V3→Int
 | z::zs,r::rs=>if chk r.1 r.2.1 r.2.2.data.toList≠0 then chk r.1 r.2.1 r.2.2.data.toList else if r.1≠z.2 then 8 else rcGo zs rs
 | _,_=>0
def zhm(zs:List (ByteArray×Int))(rs:List V3):Int:=if schE zs≠0 then schE zs else if rs.length≠zs.length then 3 else rcGo zs rs
theorem zsQ{zs:List (ByteArray×Int)}{rs:List V3}{k:Nat}(hz:k<zs.length)(hr:k<rs.length) :
  rcGo (zs.drop k) (rs.drop k)=if chk rs[k].1 rs[k].2.1 rs[k].2.2.data.toList≠0 then chk rs[k].1 rs[k].2.1 rs[k].2.2.data.toList else if rs[k].1≠zs[k].2 then 8 else rcGo (zs.drop (k+1)) (rs.drop (k+1)):=by
 rw[List.drop_eq_getElem_cons hz,List.drop_eq_getElem_cons hr,rcGo]
theorem zkn(lv rv:Value)(zs:List (ByteArray×Int))(rs:List V3)(w:World)(hw:TW w)(hl:ColsV w lv zs)(hr:ValsV w rv rs)(hsz:zbK rs) :
  Calls Tryz.prog 44 #[lv,rv] w fun e w'=>e=.returned (errV (zhm zs rs))∧Below w.heap.size w w':=by
 have cS:=ziJ lv zs w hw hl
 obtain⟨K,hK⟩:∃K,zhm zs rs=K:=⟨_,rfl⟩
 rw[hK]
 rw[zhm] at hK
 by_cases h0:schE zs=0
 ·rw[if_neg (by simpa using h0)] at hK
  rw[h0,show errV 0=.nilIface from rfl] at cS
  have hz0:=(zde h0).1
  have hzm:=(zde h0).2.1
  obtain⟨zp,zc,rfl,hzz⟩:=hl
  obtain⟨rp,rc,rfl,hrm,hrr⟩:=hr
  clear h0
  by_cases hle:rs.length=zs.length
  ·rw[if_neg (by simpa using hle)] at hK
   rcases hzz with h|⟨zb,zo,rfl,_,_,hzi⟩
   ·exact absurd h hz0
   ·rcases hrr with h|⟨rb,ro,rfl,hrl,hri⟩
    ·exact absurd (hle.symm.trans h) hz0
    ·have hlez:(rs.length:Int)=(zs.length:Int):=by omega
     have hqz:((rs.length:Int) != (zs.length:Int))=false:=by rw[hlez];simp
     have HK:Hid (rcGo zs rs=K):=hK
     unfold maxLen at hrm
     clear hK
     go_enter Tryz.func44,Tryz.ntmps44
     go_wp2_with fail
     refine cS.mono ?_
     rintro e w0 ⟨rfl,b0⟩
     go_wp2
     go_loopg [6,7,8,22] rs.length (fun gg _ _ _ s22 wr=>∃kk:Nat,kk≤rs.length∧rs.length-kk≤gg∧s22=.int .i64 kk∧Aside (Below w.heap.size w wr)∧Hid (K=rcGo (zs.drop kk) (rs.drop kk)))
     case atStart=>exact⟨0,Nat.zero_le _,by omega,rfl,b0,(show Hid _ by simp[Hid,HK.out])⟩
     case round =>
      obtain⟨kk,hkk,hg,rfl,BW,HS⟩:=hrel
      by_cases hlt:kk<rs.length
      ·have hltz:(kk:Int)<(rs.length:Int):=by omega
       have hltz2:(kk:Int)<(zs.length:Int):=by omega
       have k0:(0:Int)≤(kk:Int):=by omega
       obtain⟨c0,c1,c2⟩:=hri kk hlt
       have kR:∀o,wr.cell? ⟨rb,o,none⟩=w.cell? ⟨rb,o,none⟩:=fun o=>BW.out.cell (p:=⟨rb,o,none⟩) hrl
       rw[←kR] at c0 c1 c2
       have hrlr:rb<wr.heap.size:=by have:=BW.out.size;omega
       clear kR
       have hltn:kk<zs.length:=by omega
       have HS2:Hid (K=_):=HS.out.trans (zsQ hltn hlt)
       obtain⟨hs1,hn1⟩:=hsz _ (List.getElem_mem hlt)
       have hzi2:=(hzi.on BW.out)
       obtain⟨d0,d1⟩:=hzi2.2 kk hltn
       have hzl:=hzi2.1
       generalize hy:rs[kk]=y at c0 c1 c2 HS2 hs1 hn1
       generalize hyz:zs[kk]=z at d0 d1 HS2
       obtain⟨yt,yn,ys⟩:=y
       obtain⟨zn,zt⟩:=z
       simp only at c0 c1 c2 d0 d1 HS2 hs1 hn1
       have B1:=BW.out.alloc BW.out.size (.cells #[.int .i64 yt,.int .i64 yn,.string ys] 27)
       have cC:=zcg yt yn ys (wr.alloc (.cells #[.int .i64 yt,.int .i64 yn,.string ys] 27)) hs1
       obtain⟨ce,hce⟩:∃ce,chk yt yn ys.data.toList=ce:=⟨_,rfl⟩
       rw[hce] at cC
       have HS3:Hid (K=if ce≠0 then ce else if yt≠zt then 8 else rcGo (zs.drop (kk+1)) (rs.drop (kk+1))):=by
        rw[←hce];exact HS2
       have e1:=zmq ce
       have e2:=zhR ce
       clear HS HS2 hy hyz hce hsz
       go_wp2_with fail
       refine cC.mono ?_
       rintro e w1 ⟨rfl,b1⟩
       obtain⟨hc1,hf1⟩:=bcell b1
       have l1:wr.heap.size<w1.heap.size:=by have:=b1.size;simp at this;omega
       have q0:w1.cell? ⟨wr.heap.size,0,none⟩=some (.int .i64 yt):=by
        rw[hc1 _ _ (by simp),World.cell?_alloc_at _ _ _ _ rfl];rfl
       have g1:w1.cell? ⟨zb,zo+kk*2+1,none⟩=some (.int .i64 zt):=by
        rw[hc1 _ _ (by simp;omega),World.cell?_alloc_lt _ _ _ hzl];exact d1
       have B2:=B1.trans (b1.mono B1.size)
       clear hc1 hf1 b1 cC c0 c1 c2 d0 d1 B1 hzi2
       by_cases hz:ce=0
       ·have hb:(ce != 0)=false:=by simpa using hz
        rw[hb] at e1
        by_cases htt:yt=zt
        ·have hq:(yt != zt)=false:=by simpa using htt
         have HS4:Hid (K=rcGo (zs.drop (kk+1)) (rs.drop (kk+1))):=by
          have:=HS3.out
          rwa [if_neg (by simpa using hz),if_neg (by simpa using htt)] at this
         clear HS3 hz hb htt
         go_wp2
         go_quiet (fail)
         go_wp2
         go_roundg (rs.length-(kk+1))
         case measure=>omega
         case rel=>exact⟨kk+1,by omega,by omega,by go_num,by repeat (first|exact B2|apply below_drewN|refine Below.drew ?_),HS4⟩
        ·have hq:(yt != zt)=true:=by simpa using htt
         have HS4:K=8:=by
          have:=HS3.out
          rwa [if_neg (by simpa using hz),if_pos htt] at this
         subst HS4
         clear HS3 hz hb htt
         go_wp2
         go_quiet (fail)
         go_wp2
         go_ret
         exact⟨rfl,by repeat (first|exact B2|apply below_drewN|refine Below.drew ?_)⟩
       ·have hb:(ce != 0)=true:=by simpa using hz
        rw[hb] at e1
        have HS4:K=ce:=by
         have:=HS3.out
         rwa [if_pos hz] at this
        subst HS4
        clear HS3 hz hb
        go_wp2
        go_ret
        exact⟨rfl,B2⟩
      ·have hltz:¬(kk:Int)<(rs.length:Int):=by omega
       have hkz:K=0:=by
        rw[HS.out,List.drop_eq_nil_of_le (show zs.length≤kk by omega)];rfl
       subst hkz
       clear HS HK
       go_wp2
       go_ret
       exact⟨rfl,BW.out⟩
  ·rw[if_pos hle] at hK
   subst hK
   have hqz:((rs.length:Int) != (zs.length:Int))=true:=by simp;omega
   clear hle hzz hrr
   go_enter Tryz.func44,Tryz.ntmps44
   go_wp2_with fail
   refine cS.mono ?_
   rintro e w0 ⟨rfl,b0⟩
   go_wp2
   go_ret
   exact⟨rfl,b0⟩
 ·rw[if_pos h0] at hK
  rw[hK] at cS h0
  have HE:Hid (errV K=.iface 35 (.int .i64 K)):=by show errV K=_;rw[errV,if_neg h0]
  clear hK h0 hl hr
  go_enter Tryz.func44,Tryz.ntmps44
  go_wp2_with fail
  refine cS.mono ?_
  rintro e w0 ⟨rfl,b0⟩
  rw[HE.out]
  go_wp2
  go_ret
  exact⟨by rw[HE.out];rfl,b0⟩
end
end Go.Proofs.YtopghagjmdbglaaGreatDoor
