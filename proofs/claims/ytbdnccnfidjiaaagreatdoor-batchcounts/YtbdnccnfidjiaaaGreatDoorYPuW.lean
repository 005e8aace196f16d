/-
  PuW.
-/
import Derived.Test.YtbdnccnfidjiaaaGreatDoorGyBb
import Derived.Test.YtbdnccnfidjiaaaGreatDoorGyBd
import Derived.Test.YtbdnccnfidjiaaaGreatDoorGyBc
import Derived.Deep.CutBlock
import Derived.Deep.DeepCutAuto
import Derived.Test.YtbdnccnfidjiaaaGreatDoorYRgCa
namespace Go.Proofs.YtbdnccnfidjiaaaGreatDoor
open Go.RowKit
set_option linter.unusedVariables false
set_option linter.unusedSimpArgs false
set_option maxHeartbeats 8000000
section
open Go.BigFrame
set_option maxRecDepth 20000 in
theorem zrI{w W1:World}{S0:Nat→Prop}{base:Nat}{ps0:List Pt}{gb:Nat}{s:Gs}{last:Int}{ov:Value}{xs:List Wm}(h:GrAt w base ps0 gb s last ov xs)(hb1:Bts S0 gb W1 w)(hbase:base=W1.heap.size){kt:List Int}{c:Nat}(hW:WOk kt c (xs.map Wm.pl))(hc:c+1≤10000)(hn:xs.length≤1000)(hm:kt.length≤1000)(fr:Int)(kq:Option Addr)(kc:Nat)(ls:List V3)(hl:OkK kt ls)(hv:zaf w kq ls)(hkd:ls.length=0∨∀b o,kq=some ⟨b,o,none⟩→¬GrS gb ov xs b)
  (vq:Option Addr)(vc:Nat)(vs:List V3)(hvv:zaf w vq vs)(hvd:vs.length=0∨∀b o,vq=some ⟨b,o,none⟩→¬GrS gb ov xs b)(hvs:zbt vs)(hvl:vs.length≤maxLen)(hE:adE ps0 vs=0)
  (hN:∀W,Bts S0 gb W1 W→Calls Tryz.prog 195 #[s.av,s.tv] W fun e w'=>∃a v,e=.returned (.tuple #[.pointer (some ⟨a,0,none⟩),.nilIface])∧Aside (AcAt w' a v ps0 []∧(∀k,accS a v k→W.heap.size≤k))∧Below W.heap.size W w') :
  Calls Tryz.prog 143 #[.pointer (some ⟨gb,0,none⟩),.int .i64 fr,.slice kq ls.length kc,.slice vq vs.length vc] w fun e w'=>e=.returned .nilIface∧Aside (∃ov' xs',GrAt w' base ps0 gb s last ov' xs'∧xs'.map Wm.pl=wAdd ls vs fr (xs.map Wm.pl)∧Kp (GrS gb ov xs) w w'∧(∀k,GrS gb ov' xs' k→GrS gb ov xs k∨w.heap.size≤k)):=by
 obtain⟨xs1,xs2,hs,h1,h2,h3⟩:=zcM (·.fr) fr xs (by
  have:=hW.rise
  rw[List.pairwise_map] at this
  exact this)
 have hF:=gfind h hn fr xs1 xs2 hs h1 h2
 have hlt:=h.lt
 have hgl:gb<w.heap.size:=by have:=hb1.size;omega
 have H:Aside _:=h
 have HB1:Aside _:=hb1
 have hbw:base≤w.heap.size:=by have:=hb1.size;omega
 have hin:=h.in_
 have hpl1:∀g∈xs1.map Wm.pl,g.1<fr:=fun g hg=>by obtain⟨y,hy,rfl⟩:=List.mem_map.1 hg;exact h1 y hy
 have hkeys:∀x∈xs,(∀g∈x.gs,OkK kt g.key)∧(x.gs.Pairwise fun g h=>keyC g.key h.key<0)∧x.gs.length≤1000∧∀g∈x.gs,g.rs.length+1≤10000:=fun x hx=>by
  have hg:=hW.ok _ (List.mem_map_of_mem hx)
  refine⟨fun g hgm=>(hg.ok _ (List.mem_map_of_mem hgm)).1,?_,?_,fun g hgm=>by have:=(hg.ok _ (List.mem_map_of_mem hgm)).2;have:g.rs.length≤c:=this;omega⟩
  ·have:=hg.rise
   rw[Wm.pl,List.pairwise_map] at this
   exact this
  ·have:=hg.few
   rw[Wm.pl,List.length_map] at this
   omega
 have HIN:Aside _:=hin
 have HKEYS:Aside _:=hkeys
 have HV:Aside (zaf w kq ls∧zaf w vq vs):=⟨hv,hvv⟩
 have HKD:Aside _:=hkd
 have HVD:Aside _:=hvd
 have HN:Aside _:=hN
 have H123:Aside ((∀g∈xs1,g.fr<fr)∧(∀g∈xs2,fr≤g.fr)∧(∀a∈xs2.tail,fr<a.fr)∧∀g∈xs1.map Wm.pl,g.1<fr):=⟨h1,h2,h3,hpl1⟩
 have HL:Aside (OkK kt ls∧zbt vs):=⟨hl,hvs⟩
 have HS:Hid (xs=xs1++xs2):=hs
 obtain⟨K,hK⟩:∃K,xs1.length=K:=⟨_,rfl⟩
 have HK:Hid (xs1.length=K):=hK
 have hKn:K≤1000:=by have:=congrArg List.length hs;rw[List.length_append] at this;omega
 have HE:Hid (adE ps0 vs=0):=hE
 have HM:Hid (kt.length≤1000):=hm
 have HN0:Hid (xs.length≤1000):=hn
 obtain⟨F,hF0⟩:∃F,hdF fr xs2=F:=⟨_,rfl⟩
 have HF0:Hid (hdF fr xs2=F):=hF0
 rw[hF0,hK] at hF
 obtain⟨LS,hLS⟩:∃LS,ls.length=LS:=⟨_,rfl⟩
 have HLS:Hid (ls.length=LS):=hLS
 obtain⟨VS,hVS⟩:∃VS,vs.length=VS:=⟨_,rfl⟩
 have HVS:Hid (vs.length=VS):=hVS
 rw[hVS] at hvl
 rw[hLS,hVS]
 clear h hb1 hin hpl1 hkeys hv hvv hkd hvd hN h1 h2 h3 hl hvs hs hK hE hm hn hF0 hLS hVS hW hc
 go_enter Tryz.func143,Tryz.ntmps143
 go_wp2_with fail
 refine hF.mono ?_
 rintro e w1 ⟨rfl,B1⟩
 clear hF
 go_upto_if 20 with fail
 go_cut [9] (fun s9 wx=>s9=.int .i64 (K:Int)∧Aside (∃ov4 x xs2',PuMid w wx base ps0 gb s last fr kt ls ov xs xs1 ov4 x xs2'))
 case first=>as_aux_lemma =>
  have G1:=H.out.on B1
  cases F
  ·obtain⟨oq,oc,hov⟩:=zaa G1.row
   obtain⟨N,hN⟩:∃N,xs.length=N:=⟨_,rfl⟩
   have HXN:Hid (xs.length=N):=hN
   rw[hN] at hov
   subst hov
   have hKN:K≤N:=by have:=congrArg List.length HS.out;rw[List.length_append,HK.out,hN] at this;omega
   have hN1:N≤1000:=by rw[←hN];exact HN0.out
   have hc16:=G1.c16
   have B4:Below w1.heap.size w1 ((w1.alloc (.cells #[.int .i64 fr,.slice none 0 0] 177)).alloc (.cells #[.pointer (some ⟨w1.heap.size,0,none⟩)] 147)):=(alB w1 _).alloc (by simp) _
   have G4:=G1.on B4
   have eZ:Blk ((w1.alloc (.cells #[.int .i64 fr,.slice none 0 0] 177)).alloc (.cells #[.pointer (some ⟨w1.heap.size,0,none⟩)] 147)) w1.heap.size #[.int .i64 fr,.slice none 0 0] 177:=(zab _ _ _).on (alB _ _)
   have eR:Blk ((w1.alloc (.cells #[.int .i64 fr,.slice none 0 0] 177)).alloc (.cells #[.pointer (some ⟨w1.heap.size,0,none⟩)] 147)) (w1.heap.size+1) #[.pointer (some ⟨w1.heap.size,0,none⟩)] 147:=by
    have:=zab (w1.alloc (.cells #[.int .i64 fr,.slice none 0 0] 177)) #[.pointer (some ⟨w1.heap.size,0,none⟩)] 147
    simpa using this
   have hrow4:=G4.row
   rw[hN] at hrow4
   have hs1:=B1.size
   have hown1:=zdA G1.row
   have cI:=zii base oq N oc K (xs.map Wm.p) (w1.heap.size+1) (.pointer (some ⟨w1.heap.size,0,none⟩)) _ hrow4 (fun u hu=>by obtain⟨y,_,rfl⟩:=List.mem_map.1 hu;rfl) eR (fun e=>by have:=(hown1 _ e).2;omega) rfl hKN (by omega) (by simp;omega)
   obtain⟨C,hC1,hC2⟩:=G4.blk
   have hog:(Value.slice oq N oc).ownBlock≠some gb:=fun e=>by
    have:=(zdA G4.row _ e).1;omega
   have hlt':gb<w1.heap.size:=by omega
   have HX:Aside _:=G4
   have HEZ:Aside (Blk ((w1.alloc (.cells #[.int .i64 fr,.slice none 0 0] 177)).alloc (.cells #[.pointer (some ⟨w1.heap.size,0,none⟩)] 147)) w1.heap.size #[.int .i64 fr,.slice none 0 0] 177):=eZ
   have HC1:Aside (Blk ((w1.alloc (.cells #[.int .i64 fr,.slice none 0 0] 177)).alloc (.cells #[.pointer (some ⟨w1.heap.size,0,none⟩)] 147)) gb C 141):=hC1
   have h16:=hC2.c16
   clear eZ eR hC1 hC2 G4 G1 hrow4 hN
   go_wp2_with fail
   refine cI.mono ?_
   rintro r w5 ⟨q',c',rfl,HO,HK5,HB5⟩
   have c5b:=HC1.out.kp HK5.out hog
   have c5:=c5b.cell 16
   have f5:=c5b.frozen 16
   rw[h16] at c5
   clear cI c5b
   go_wp2
   go_meet
   case rel =>
    refine⟨rfl,(show Aside _ from ⟨.slice q' (N+1) c',⟨w1.heap.size,fr,.slice none 0 0,[]⟩,xs2,?_⟩)⟩
    obtain⟨g1,g2,g3,g4⟩:=H123.out
    have hnf:∀g∈xs2,fr<g.fr:=fun g hg=>by
     have hf:=HF0.out
     cases xs2 with
     | nil=>cases hg
     | cons y t =>
      have:=g2 y (List.mem_cons_self ..)
      have hne:y.fr≠fr:=by simpa [hdF] using hf
      rcases List.mem_cons.1 hg with rfl|hg
      ·omega
      ·exact g3 g hg
    have G4':=HX.out
    have hO:=HO.out
    have hin:=HIN.out
    rw[HS.out] at G4' hO hin
    rw[←HK.out,zrf.1,zrf.2] at hO
    have hNl:N=(xs1++xs2).length:=by rw[←HXN.out,HS.out]
    obtain⟨r1,r2⟩:=GrAt.ins G4' HEZ.out (by omega) (fun k hk e=>by rcases hin k hk with h|h<;>omega) HK5.out (by rw[←hNl];exact hO) (HB5.out.imp id (fun e=>⟨_,e,Nat.le_refl _⟩))
    refine⟨r1,rfl,⟨by simp,by simp,by simp,by simp⟩,fun vs=>?_,?_,fun k hk=>?_,?_⟩
    ·rw[HS.out,List.map_append,zcL _ _ _ _ _ g4,zlm _ _ _ _ (fun x hx=>by obtain⟨y,hy,rfl⟩:=List.mem_map.1 hx;exact hnf y hy)]
     rfl
    ·rw[HS.out]
     exact (Kp.of_below (B1.trans (B4.mono hs1))).trans r2
    ·rcases hk with hk|hk|⟨x,hx,hk⟩
     ·exact .inl (.inl hk)
     ·rcases HB5.out with h|h
      ·exact .inl (.inr (.inl (h.symm.trans hk)))
      ·rw[h] at hk
       injection hk with hk
       right
       simp at hk
       omega
     ·rcases List.mem_append.1 hx with hx|hx
      ·exact .inl (.inr (.inr ⟨x,by rw[HS.out];exact List.mem_append_left _ hx,hk⟩))
      ·rcases List.mem_cons.1 hx with rfl|hx
       ·right
        rcases hk with hk|hk|⟨g,hg,_⟩
        ·have hk:k=w1.heap.size:=hk
         omega
        ·have hk:(Value.slice none 0 0).ownBlock=some k:=hk
         simp[Value.ownBlock] at hk
        ·cases hg
       ·exact .inl (.inr (.inr ⟨x,by rw[HS.out];exact List.mem_append_right _ hx,hk⟩))
    ·rw[List.length_append] at hNl
     rw[List.length_append,List.length_cons];omega
  ·have HG1:Aside _:=G1
   clear G1
   go_wp2
   go_meet
   case rel =>
    obtain⟨g1,g2,g3,g4⟩:=H123.out
    obtain⟨x,t,hx⟩:∃x t,xs2=x::t:=by
     have hf:=HF0.out
     cases xs2 with
     | nil=>simp[hdF] at hf
     | cons y t=>exact⟨y,t,rfl⟩
    have hf:=HF0.out
    have hS:=HS.out
    subst hx
    have hfr:x.fr=fr:=by simpa [hdF] using hf
    have hG:=HG1.out
    rw[hS] at hG
    have hxm:x∈xs:=by rw[hS];exact List.mem_append_right _ (List.mem_cons_self ..)
    refine⟨rfl,(show Aside _ from ⟨ov,x,t,hG,hfr,HKEYS.out x hxm,fun vs=>?_,Kp.of_below B1,fun k hk=>.inl (by rw[hS];exact hk),by rw[←hS];have:=HN0.out;omega⟩)⟩
    rw[hS,List.map_append,zcL _ _ _ _ _ g4,List.map_cons,zln _ _ _ _ _ (show x.pl.1=fr from hfr),Wm.pl,hfr]
 case rest =>
  rename World=>wc
  obtain⟨rfl,HP⟩:=hcut
  obtain⟨ov4,x,xs2',P⟩:=HP.out
  have G4:=P.at_
  obtain⟨g,c,hg,hgl,hgb⟩:=G4.row_some (by rw[List.length_append,List.length_cons];omega)
  obtain⟨N,hN⟩:∃N,(xs1++x::xs2').length=N:=⟨_,rfl⟩
  have hKN:K<N:=by rw[←hN,List.length_append,List.length_cons,HK.out];omega
  have hN1:N≤1001:=by rw[←hN];exact P.few
  have hpt:=G4.ptr hg (j:=K) (by rw[hN];exact hKN)
  have hgx:(xs1++x::xs2').getD K dwm=x:=by rw[←HK.out,List.getD_eq_getElem?_getD,List.getElem?_append_right (Nat.le_refl _),Nat.sub_self];rfl
  rw[hgx,Wm.p] at hpt
  have hc16:=G4.c16
  rw[hg,hN] at hc16
  obtain⟨C,hC1,hC2⟩:=G4.blk
  have hc11:wc.cell? ⟨gb,11,none⟩=some s.av:=by rw[hC1.cell];exact hC2.c11
  have hc12:wc.cell? ⟨gb,12,none⟩=some s.tv:=by rw[hC1.cell];exact hC2.c12
  have hglc:gb<wc.heap.size:=hC1.lt
  have hwc:=P.kp.size
  have bd:Below wc.heap.size wc wc.drew:=(Below.refl _ _).drew
  have Pd:=P.on bd
  have hbut:Bts S0 gb W1 wc:=GrAt.but HB1.out P.kp (fun k hk=>by rcases HIN.out k hk with h|h;exact .inl h;exact .inr (by omega)) (by omega)
  have hxm:=Pd.at_.wm x (List.mem_append_right _ (List.mem_cons_self ..))
  have hv1:zaf wc.drew kq ls:=(zdp HV.out.1 P.kp HKD.out).on bd
  have cG:=zie hxm P.keys.1 P.keys.2.1 P.keys.2.2.1 HM.out kq kc ls HL.out.1 hv1 (by show base≤wc.heap.size;omega) s.av s.tv (fun W hb=>HN.out W (hbut.on (((Below.refl _ wc).drew).trans hb)))
  rw[HLS.out] at cG
  have hKz:(K:Int)<(N:Int):=by omega
  have hK0:(0:Int)≤(K:Int):=by omega
  have HPd:Aside _:=Pd
  have HKR:Aside (∀g∈x.gs,g.rs.length+1≤10000):=P.keys.2.2.2
  have hv2:zaf wc.drew vq vs:=(zdp HV.out.2 P.kp HVD.out).on bd
  have HV2:Aside (zaf wc.drew vq vs):=hv2
  clear hC1 hC2 hxm hv1 hv2 hbut Pd P HP G4 hgx hg hN
  go_upto_region 4 with fail
  go_cut [11,12] (fun s11 s12 wx=>∃gz,s11=.pointer (some ⟨gz,0,none⟩)∧s12=.nilIface∧Aside (∃l1 x' gg l2,gg.z=gz∧zlu wc.drew wx base ps0 x ls l1 x' gg l2))
  case first=>as_aux_lemma =>
   refine zaK 63 16 51 (by kernel_rfl) rfl (by kernel_rfl) _ rfl rfl (fun r wq=>∃gz,r=.tuple #[.pointer (some ⟨gz,0,none⟩),.nilIface]∧∃l1 x' gg l2,gg.z=gz∧zlu wc.drew wq base ps0 x ls l1 x' gg l2) (fun i r=>(#[.pointer (some ⟨gb,0,none⟩),.pointer (some ⟨gb,0,none⟩),.pointer (some ⟨gb,16,none⟩),.slice (some ⟨g,0,none⟩) N c,.int .i64 (K:Int),.pointer (some ⟨g,K,none⟩),.pointer (some ⟨x.z,0,none⟩),.slice kq LS kc,.pointer (some ⟨gb,0,none⟩),.pointer (some ⟨gb,0,none⟩),.pointer (some ⟨gb,11,none⟩),s.av,.pointer (some ⟨gb,0,none⟩),.pointer (some ⟨gb,0,none⟩),.pointer (some ⟨gb,12,none⟩),s.tv]:Array Value).getD i (match i with|17=>r|18=>elemT r 0|19=>elemT r 1|20=>elemT r 0|21=>elemT r 1|_=>undef)) (fun i hi r r2=>by have hi2:i<(#[.pointer (some ⟨gb,0,none⟩),.pointer (some ⟨gb,0,none⟩),.pointer (some ⟨gb,16,none⟩),.slice (some ⟨g,0,none⟩) N c,.int .i64 (K:Int),.pointer (some ⟨g,K,none⟩),.pointer (some ⟨x.z,0,none⟩),.slice kq LS kc,.pointer (some ⟨gb,0,none⟩),.pointer (some ⟨gb,0,none⟩),.pointer (some ⟨gb,11,none⟩),s.av,.pointer (some ⟨gb,0,none⟩),.pointer (some ⟨gb,0,none⟩),.pointer (some ⟨gb,12,none⟩),s.tv]:Array Value).size:=hi;unfold Array.getD;rw[dif_pos hi2,dif_pos hi2]) ?_ ?_ ?_
   ·intro i o d ho hd hic a wq r hw hr hdep hold KK hKK
    rcases i with _|i
    ·cases ho;cases hd
     obtain rfl:=hw (by decide)
     have q0:a.tmps.getD 0 undef=.pointer (some ⟨gb,0,none⟩):=hold 0 rfl
     rw[Array.getD_eq_getD_getElem?] at q0
     unfold Oper.wp execOp
     go_simp
     exact hKK
    rcases i with _|i
    ·cases ho;cases hd
     obtain rfl:=hw (by decide)
     have q35:a.tmps.getD 35 undef=.pointer (some ⟨gb,0,none⟩):=hdep ⟨0,.data⟩ (by simp) rfl (by decide) _ 35 rfl rfl
     rw[Array.getD_eq_getD_getElem?] at q35
     unfold Oper.wp execOp
     go_simp
     exact hKK
    rcases i with _|i
    ·cases ho;cases hd
     obtain rfl:=hw (by decide)
     have q36:a.tmps.getD 36 undef=.pointer (some ⟨gb,0,none⟩):=hdep ⟨1,.data⟩ (by simp) rfl (by decide) _ 36 rfl rfl
     rw[Array.getD_eq_getD_getElem?] at q36
     unfold Oper.wp execOp
     go_simp
     exact hKK
    rcases i with _|i
    ·cases ho;cases hd
     obtain rfl:=hw (by decide)
     have q37:a.tmps.getD 37 undef=.pointer (some ⟨gb,16,none⟩):=hdep ⟨2,.data⟩ (by simp) rfl (by decide) _ 37 rfl rfl
     rw[Array.getD_eq_getD_getElem?] at q37
     unfold Oper.wp execOp
     go_simp
     exact hKK
    rcases i with _|i
    ·cases ho;cases hd
     obtain rfl:=hw (by decide)
     have q9:a.tmps.getD 9 undef=.int .i64 (K:Int):=hold 9 rfl
     rw[Array.getD_eq_getD_getElem?] at q9
     unfold Oper.wp execOp
     go_simp
     exact hKK
    rcases i with _|i
    ·cases ho;cases hd
     obtain rfl:=hw (by decide)
     have q38:a.tmps.getD 38 undef=.slice (some ⟨g,0,none⟩) N c:=hdep ⟨3,.data⟩ (by simp) rfl (by decide) _ 38 rfl rfl
     rw[Array.getD_eq_getD_getElem?] at q38
     have q39:a.tmps.getD 39 undef=.int .i64 (K:Int):=hdep ⟨4,.data⟩ (by simp) rfl (by decide) _ 39 rfl rfl
     rw[Array.getD_eq_getD_getElem?] at q39
     unfold Oper.wp execOp
     go_simp
     exact hKK
    rcases i with _|i
    ·cases ho;cases hd
     obtain rfl:=hw (by decide)
     have q40:a.tmps.getD 40 undef=.pointer (some ⟨g,K,none⟩):=hdep ⟨5,.data⟩ (by simp) rfl (by decide) _ 40 rfl rfl
     rw[Array.getD_eq_getD_getElem?] at q40
     unfold Oper.wp execOp
     go_simp
     exact hKK
    rcases i with _|i
    ·cases ho;cases hd
     obtain rfl:=hw (by decide)
     have q2:a.tmps.getD 2 undef=.slice kq LS kc:=hold 2 rfl
     rw[Array.getD_eq_getD_getElem?] at q2
     unfold Oper.wp execOp
     go_simp
     exact hKK
    rcases i with _|i
    ·cases ho;cases hd
     obtain rfl:=hw (by decide)
     have q0:a.tmps.getD 0 undef=.pointer (some ⟨gb,0,none⟩):=hold 0 rfl
     rw[Array.getD_eq_getD_getElem?] at q0
     unfold Oper.wp execOp
     go_simp
     exact hKK
    rcases i with _|i
    ·cases ho;cases hd
     obtain rfl:=hw (by decide)
     have q43:a.tmps.getD 43 undef=.pointer (some ⟨gb,0,none⟩):=hdep ⟨8,.data⟩ (by simp) rfl (by decide) _ 43 rfl rfl
     rw[Array.getD_eq_getD_getElem?] at q43
     unfold Oper.wp execOp
     go_simp
     exact hKK
    rcases i with _|i
    ·cases ho;cases hd
     obtain rfl:=hw (by decide)
     have q44:a.tmps.getD 44 undef=.pointer (some ⟨gb,0,none⟩):=hdep ⟨9,.data⟩ (by simp) rfl (by decide) _ 44 rfl rfl
     rw[Array.getD_eq_getD_getElem?] at q44
     unfold Oper.wp execOp
     go_simp
     exact hKK
    rcases i with _|i
    ·cases ho;cases hd
     obtain rfl:=hw (by decide)
     have q45:a.tmps.getD 45 undef=.pointer (some ⟨gb,11,none⟩):=hdep ⟨10,.data⟩ (by simp) rfl (by decide) _ 45 rfl rfl
     rw[Array.getD_eq_getD_getElem?] at q45
     unfold Oper.wp execOp
     go_simp
     exact hKK
    rcases i with _|i
    ·cases ho;cases hd
     obtain rfl:=hw (by decide)
     have q0:a.tmps.getD 0 undef=.pointer (some ⟨gb,0,none⟩):=hold 0 rfl
     rw[Array.getD_eq_getD_getElem?] at q0
     unfold Oper.wp execOp
     go_simp
     exact hKK
    rcases i with _|i
    ·cases ho;cases hd
     obtain rfl:=hw (by decide)
     have q47:a.tmps.getD 47 undef=.pointer (some ⟨gb,0,none⟩):=hdep ⟨12,.data⟩ (by simp) rfl (by decide) _ 47 rfl rfl
     rw[Array.getD_eq_getD_getElem?] at q47
     unfold Oper.wp execOp
     go_simp
     exact hKK
    rcases i with _|i
    ·cases ho;cases hd
     obtain rfl:=hw (by decide)
     have q48:a.tmps.getD 48 undef=.pointer (some ⟨gb,0,none⟩):=hdep ⟨13,.data⟩ (by simp) rfl (by decide) _ 48 rfl rfl
     rw[Array.getD_eq_getD_getElem?] at q48
     unfold Oper.wp execOp
     go_simp
     exact hKK
    rcases i with _|i
    ·cases ho;cases hd
     obtain rfl:=hw (by decide)
     have q49:a.tmps.getD 49 undef=.pointer (some ⟨gb,12,none⟩):=hdep ⟨14,.data⟩ (by simp) rfl (by decide) _ 49 rfl rfl
     rw[Array.getD_eq_getD_getElem?] at q49
     unfold Oper.wp execOp
     go_simp
     exact hKK
    rcases i with _|i
    ·exact absurd rfl hic
    rcases i with _|i
    ·cases ho;cases hd
     obtain⟨q51,hpq⟩:=hr (by decide)
     obtain⟨gz,rfl,-⟩:=hpq
     rw[Array.getD_eq_getD_getElem?] at q51
     unfold Oper.wp execOp
     go_simp
     exact hKK
    rcases i with _|i
    ·cases ho;cases hd
     obtain⟨-,hpq⟩:=hr (by decide)
     obtain⟨gz,rfl,-⟩:=hpq
     have q34:a.tmps.getD 34 undef=.tuple #[.pointer (some ⟨gz,0,none⟩),.nilIface]:=hdep ⟨17,.data⟩ (by simp) rfl (by decide) _ 34 rfl rfl
     rw[Array.getD_eq_getD_getElem?] at q34
     unfold Oper.wp execOp
     go_simp
     exact hKK
    rcases i with _|i
    ·cases ho;cases hd
     obtain⟨-,hpq⟩:=hr (by decide)
     obtain⟨gz,rfl,-⟩:=hpq
     have q34:a.tmps.getD 34 undef=.tuple #[.pointer (some ⟨gz,0,none⟩),.nilIface]:=hdep ⟨17,.data⟩ (by simp) rfl (by decide) _ 34 rfl rfl
     rw[Array.getD_eq_getD_getElem?] at q34
     unfold Oper.wp execOp
     go_simp
     exact hKK
    rcases i with _|i
    ·cases ho;cases hd
     obtain⟨-,hpq⟩:=hr (by decide)
     obtain⟨gz,rfl,-⟩:=hpq
     have q52:a.tmps.getD 52 undef=.pointer (some ⟨gz,0,none⟩):=hdep ⟨18,.data⟩ (by simp) rfl (by decide) _ 52 rfl rfl
     rw[Array.getD_eq_getD_getElem?] at q52
     unfold Oper.wp execOp
     go_simp
     exact hKK
    rcases i with _|i
    ·cases ho;cases hd
     obtain⟨-,hpq⟩:=hr (by decide)
     obtain⟨gz,rfl,-⟩:=hpq
     have q53:a.tmps.getD 53 undef=.nilIface:=hdep ⟨19,.data⟩ (by simp) rfl (by decide) _ 53 rfl rfl
     rw[Array.getD_eq_getD_getElem?] at q53
     unfold Oper.wp execOp
     go_simp
     exact hKK
    ·cases ho
   ·intro a hdep hold KK hKK
    have q41:a.tmps.getD 41 undef=.pointer (some ⟨x.z,0,none⟩):=hdep ⟨6,.data⟩ (by simp) rfl _ 41 rfl rfl
    rw[Array.getD_eq_getD_getElem?] at q41
    have q42:a.tmps.getD 42 undef=.slice kq LS kc:=hdep ⟨7,.data⟩ (by simp) rfl _ 42 rfl rfl
    rw[Array.getD_eq_getD_getElem?] at q42
    have q46:a.tmps.getD 46 undef=s.av:=hdep ⟨11,.data⟩ (by simp) rfl _ 46 rfl rfl
    rw[Array.getD_eq_getD_getElem?] at q46
    have q50:a.tmps.getD 50 undef=s.tv:=hdep ⟨15,.data⟩ (by simp) rfl _ 50 rfl rfl
    rw[Array.getD_eq_getD_getElem?] at q50
    unfold Oper.wp execOp
    go_simp
    refine cG.mono ?_
    rintro e w5 ⟨gz,rfl,l1,x',gg,l2,hgz,GP⟩
    exact hKK _ _ ⟨gz,rfl,l1,x',gg,l2,hgz,GP⟩
   ·intro r wq hp vs hvs
    obtain⟨gz,rfl,l1,x',gg,l2,hgz,GP⟩:=hp
    have ev0:vs 0=.pointer (some ⟨gb,0,none⟩):=hvs 0
    have ev1:vs 1=.pointer (some ⟨gb,0,none⟩):=hvs 1
    have ev2:vs 2=.pointer (some ⟨gb,16,none⟩):=hvs 2
    have ev3:vs 3=.slice (some ⟨g,0,none⟩) N c:=hvs 3
    have ev4:vs 4=.int .i64 (K:Int):=hvs 4
    have ev5:vs 5=.pointer (some ⟨g,K,none⟩):=hvs 5
    have ev6:vs 6=.pointer (some ⟨x.z,0,none⟩):=hvs 6
    have ev7:vs 7=.slice kq LS kc:=hvs 7
    have ev8:vs 8=.pointer (some ⟨gb,0,none⟩):=hvs 8
    have ev9:vs 9=.pointer (some ⟨gb,0,none⟩):=hvs 9
    have ev10:vs 10=.pointer (some ⟨gb,11,none⟩):=hvs 10
    have ev11:vs 11=s.av:=hvs 11
    have ev12:vs 12=.pointer (some ⟨gb,0,none⟩):=hvs 12
    have ev13:vs 13=.pointer (some ⟨gb,0,none⟩):=hvs 13
    have ev14:vs 14=.pointer (some ⟨gb,12,none⟩):=hvs 14
    have ev15:vs 15=s.tv:=hvs 15
    have ev16:vs 16=.tuple #[.pointer (some ⟨gz,0,none⟩),.nilIface]:=hvs 16
    have ev17:vs 17=.tuple #[.pointer (some ⟨gz,0,none⟩),.nilIface]:=hvs 17
    have ev18:vs 18=.pointer (some ⟨gz,0,none⟩):=hvs 18
    have ev19:vs 19=.nilIface:=hvs 19
    have ev20:vs 20=.pointer (some ⟨gz,0,none⟩):=hvs 20
    have ev21:vs 21=.nilIface:=hvs 21
    clear hvs
    change Exit.then _ _ Exit.normal (((((((((((((((((((((((_:Act).put (some 35) (vs 0)).put (some 36) (vs 1)).put (some 37) (vs 2)).put (some 38) (vs 3)).put (some 39) (vs 4)).put (some 40) (vs 5)).put (some 41) (vs 6)).put (some 42) (vs 7)).put (some 43) (vs 8)).put (some 44) (vs 9)).put (some 45) (vs 10)).put (some 46) (vs 11)).put (some 47) (vs 12)).put (some 48) (vs 13)).put (some 49) (vs 14)).put (some 50) (vs 15)).put (some 51) (vs 16)).put (some 34) (vs 17)).put (some 52) (vs 18)).put (some 53) (vs 19)).put (some 11) (vs 20)).put (some 12) (vs 21)) _
    rw[ev0,ev1,ev2,ev3,ev4,ev5,ev6,ev7,ev8,ev9,ev10,ev11,ev12,ev13,ev14,ev15,ev16,ev17,ev18,ev19,ev20,ev21]
    clear ev0 ev1 ev2 ev3 ev4 ev5 ev6 ev7 ev8 ev9 ev10 ev11 ev12 ev13 ev14 ev15 ev16 ev17 ev18 ev19 ev20 ev21
    simp only[Act.put,List.setIfInBounds_toArray,List.set_cons_succ,List.set_cons_zero]
    go_wp2
    go_meet
    case rel=>exact⟨gz,rfl,rfl,(show Aside _ from ⟨l1,x',gg,l2,hgz,GP⟩)⟩
  case rest =>
   rename World=>w5
   obtain⟨gz,rfl,rfl,HG⟩:=hcut
   obtain⟨l1,x',gg,l2,hgz,GP⟩:=HG.out
   have hgm:gg∈x'.gs:=by rw[GP.form.2.2];exact List.mem_append_right _ (List.mem_cons_self ..)
   obtain⟨⟨kv,hb1,hb2⟩,hacc,hlow⟩:=GP.at_.gp gg hgm
   rw[hgz] at hb1
   have hc1:w5.cell? ⟨gz,1,none⟩=some (.pointer (some ⟨gg.a,0,none⟩)):=by rw[hb1.cell];rfl
   have hsub:∀k,accS gg.a gg.v k→GrS gb ov xs k∨w.heap.size≤k:=fun k hk=>by
    rcases GP.foot k (.inr (.inr ⟨gg,hgm,hk⟩)) with h|h
    ·exact HPd.out.foot k (.inr (.inr ⟨x,List.mem_append_right _ (List.mem_cons_self ..),h⟩))
    ·have h:wc.heap.size≤k:=h
     exact .inr (by omega)
   have hS5:∀k,(k=x.z∨x.gv.ownBlock=some k)→GrS gb ov xs k∨w.heap.size≤k:=fun k hk=>HPd.out.foot k (.inr (.inr ⟨x,List.mem_append_right _ (List.mem_cons_self ..),hk.imp id .inl⟩))
   have hvd5:vs.length=0∨∀b o,vq=some ⟨b,o,none⟩→¬(b=x.z∨x.gv.ownBlock=some b)∧¬accS gg.a gg.v b:=by
    rcases HVD.out with h|h
    ·exact .inl h
    ·rcases HV.out.2 with h0|⟨b,o,e,hlb,-⟩
     ·exact .inl h0
     ·refine .inr fun b' o' e'=>?_
      rw[e] at e'
      injection e' with e'
      injection e' with e' _
      subst e'
      have hnb:=h b o e
      exact⟨fun hk=>(hS5 b hk).elim hnb (fun h=>by omega),fun hk=>(hsub b hk).elim hnb (fun h=>by omega)⟩
   have hv5:zaf w5 vq vs:=zdp HV2.out GP.kp (hvd5.imp id (fun h b o e=>(h b o e).1))
   have hrs:gg.rs.length+1≤10000:=by
    rcases GP.rows with h|h
    ·exact HKR.out gg h
    ·rw[h];simp
   have cA:=add_c gg.a gg.v ps0 gg.rs vq vc vs w5 hacc hrs hv5 HL.out.2 (by rw[HVS.out];exact hvl) (hvd5.imp id (fun h b o e=>(h b o e).2))
   rw[HE.out,HVS.out,gdR,if_pos HE.out] at cA
   rw[show errV 0=.nilIface from rfl] at cA
   have HGP:Aside _:=GP
   clear hb1 hb2 hacc hlow GP hv5 hvd5 hS5 hsub hrs HG
   go_wp2_with fail
   refine cA.mono ?_
   rintro e w6 ⟨rfl,hA6,hK6⟩
   have HF:Aside _:=ztu HPd.out HGP.out hA6 hK6
   clear cA hA6 hK6
   go_wp2
   go_ret
   exact⟨rfl,HF⟩
end
end Go.Proofs.YtbdnccnfidjiaaaGreatDoor
