/-
  AgU, AgM, AgN, AgO.
-/
import Derived.Test.YtbdnccnfidjiaaaGreatDoorGyAi
import Derived.Deep.RegionWith
namespace Go.Proofs.YtbdnccnfidjiaaaGreatDoor
open Go.RowKit
set_option linter.unusedVariables false
set_option linter.unusedSimpArgs false
set_option maxHeartbeats 8000000
theorem zqq{ws:List Int}{k:Nat}(h:k<ws.length)(hk:0<k):cutW ws k=(ws[k] == byW (ws.take k)):=by
 rw[cutW,decide_eq_true hk,Bool.true_and,wordW,dif_pos h]
theorem zmv(v:Value)(ws:List Int)(w:World)(h:TotA w v ws)(hn:ws≠[]) :
  Calls Tryz.prog 253 #[v] w fun e w'=>(∃u,e=.returned u∧TotA w' u (shW ws))∧Below w.heap.size w w':=by
 obtain⟨q,c,rfl,hl⟩:=h.form
 have h0:0<ws.length:=by cases ws with
  | nil=>exact absurd rfl hn
  | cons x r=>simp
 have HT:Aside (TotA w (.slice q ws.length c) ws):=h
 have hw:IntKind.i64.wrap ((ws.length:Int)-1)=((ws.length-1:Nat):Int):=by rw[IntKind.wrap_i64];omega
 have hl2:(ws.length:Int)≤1000:=by omega
 obtain⟨PST,hPST⟩:∃PST:Ending→World→Prop,(fun (e:Ending) (w':World)=>(∃u,e=.returned u∧TotA w' u (shW ws))∧Below w.heap.size w w')=PST:=⟨_,rfl⟩
 have HPE:Hid (∀e w',((∃u,e=.returned u∧TotA w' u (shW ws))∧Below w.heap.size w w')→PST e w'):=by
  intro e w' h
  rw[←hPST]
  exact h
 rw[hPST]
 obtain⟨L,hL⟩:∃L,ws.length=L:=⟨_,rfl⟩
 have HL:Hid (ws.length=L):=hL
 rw[hL] at hw hl2 h0 ⊢
 clear hPST h hl hn
 obtain⟨M,hM⟩:∃M,L=M+1:=⟨L-1,by omega⟩
 have HM:Hid (L=M+1):=hM
 rw[show L-1=M by omega] at hw
 have hLM:M<L:=by omega
 clear hL hM
 go_enter Tryz.func253,Tryz.ntmps253
 go_wp2
 go_loopg [0,3] M (fun gg s0 s3 wr=>∃(kk:Nat),kk≤M∧kk≤gg∧s0=.slice q (kk+1) c∧s3=.int .i64 (kk:Int)∧Hid (shN ws kk=shN ws M)∧Aside (Below w.heap.size w wr))
 case atStart=>exact⟨M,Nat.le_refl _,Nat.le_refl _,by rw[HM.out],rfl,(show Hid _ from rfl),(show Aside _ from Below.refl _ _)⟩
 case round =>
  obtain⟨kk,hkk,hg,rfl,rfl,HS,BW⟩:=hrel
  have HT2:=(zdT HT.out rfl (l:=kk+1) (by rw[HL.out];omega)).2
  have hlen:(ws.take (kk+1)).length=kk+1:=by rw[List.length_take,HL.out];omega
  by_cases h00:kk=0
  ·subst h00
   have HF:Hid (shW ws=ws.take (0+1)):=by
    show shW ws=_
    rw[shW,HL.out,HM.out,Nat.add_sub_cancel,←HS.out]
    rfl
   have hgt:∀W,Sem.run Tryz.prog (binOp .gtr 3 (.int .i64 ((0:Nat):Int)) (.int .i64 0)) W=.ok (.bool false) W:=fun W=>by kernel_rfl
   go_wp2
   go_quiet (fail)
   go_wp2
   exact HPE.out _ _ ⟨⟨_,rfl,by rw[HF.out];exact (HT2.on BW.out).on (below_drewN (Below.refl _ _) _)⟩,below_drewN BW.out _⟩
  ·have hz:(0:Int)<(kk:Int):=by omega
   have hd:((kk:Int) > 0:Bool)=true:=decide_eq_true hz
   have hgt:∀W,Sem.run Tryz.prog (binOp .gtr 3 (.int .i64 (kk:Int)) (.int .i64 0)) W=.ok (.bool true) W:=fun W=>by rw[binOp_gtr,hd];rfl
   have hkp:0<kk:=by omega
   have hki:kk<ws.length:=by rw[HL.out];omega
   obtain⟨g,off,rfl,hgl,hcc⟩:=HT.out.at hki
   have hcl:wr.cell? ⟨g,off+kk,none⟩=some (.int .u64 ws[kk]):=by rw[BW.out.cell (p:=⟨g,off+kk,none⟩) hgl];exact hcc kk hki
   obtain⟨r1,t1⟩:=zdT (l:=kk) HT2 hlen (by omega)
   rw[List.take_take,Nat.min_eq_left (by omega)] at t1
   have cB:=fun (W:World) (hW:Below w.heap.size w W)=>zeY _ (ws.take kk) W (t1.on hW)
   have hk0:(0:Int)≤(kk:Int):=by omega
   have hk1:(kk:Int)<(kk:Int)+1:=by omega
   have hcut:=zqq hki (by omega)
   obtain⟨m,hm⟩:∃m,kk=m+1:=⟨kk-1,by omega⟩
   have hwk:IntKind.i64.wrap ((kk:Int)-1)=(m:Int):=by rw[IntKind.wrap_i64];omega
   have HSN:Hid (shN ws kk=if cutW ws kk=true then shN ws m else kk+1):=by
    show shN ws kk=_
    rw[hm,shN]
   have HKM:Hid (kk=m+1):=hm
   clear hcc hm
   generalize hx:ws[kk]=x at hcl hcut
   generalize hy:byW (ws.take kk)=y at cB hcut
   have cQ:∀W,(∃n,W=wr.drewN n)→Calls Tryz.prog 260 #[.slice (some ⟨g,off,none⟩) kk c] W fun e w'=>e=.returned (.int .u64 y)∧w'=W:=fun W hW=>by
    obtain⟨n,rfl⟩:=hW
    exact cB _ (below_drewN BW.out _)
   by_cases hxy:x=y
   ·subst hxy
    have qe:(x == x)=true:=by simp
    have HC:Hid (shN ws m=shN ws M):=by
     show shN ws m=_
     rw[←HS.out,HSN.out,if_pos (by rw[hcut];exact qe)]
    clear hcut HSN HS
    go_wp2
    go_quiet ((go_at_call 260;exact Calls.quiet_of_same (cQ _ ⟨_,rfl⟩)))
    go_wp2
    go_roundg m
    case measure=>have:=HKM.out;omega
    case rel=>exact⟨m,by have:=HKM.out;omega,Nat.le_refl _,by rw[HKM.out],rfl,HC,(show Aside _ from below_drewN BW.out _)⟩
   ·have qe:(x == y)=false:=by simpa using hxy
    have HF:Hid (shW ws=ws.take (kk+1)):=by
     show shW ws=_
     rw[shW,HL.out,HM.out,Nat.add_sub_cancel,←HS.out,HSN.out,if_neg (by rw[hcut,qe];simp)]
    clear hcut HSN HS
    go_wp2
    go_quiet ((go_at_call 260;exact Calls.quiet_of_same (cQ _ ⟨_,rfl⟩)))
    go_wp2
    exact HPE.out _ _ ⟨⟨_,rfl,by rw[HF.out];exact (HT2.on BW.out).on (below_drewN (Below.refl _ _) _)⟩,below_drewN BW.out _⟩
theorem zgN(x y c:Int)(hx:0≤x)(hy:0≤y)(hc:c=0∨c=1)(w:World):Sem.run Tryz.prog (callFunc 251 #[.int .u64 x,.int .u64 y,.int .u64 c]) w=.ok (.value (.tuple #[.int .u64 ((x+y+c) % 18446744073709551616),.int .u64 ((x+y+c) / 18446744073709551616)])) w:=by
 rw[run_callFunc_extern Tryz.func251 (by kernel_rfl) (by kernel_rfl) (by kernel_rfl) (e:=add64Entry) (by kernel_rfl),run_add64 x y c hx hy (by omega) (by omega)]
 rfl
def fillT(ws:List Int)(n:Nat):List Value:=ws.map (fun x=>.int .u64 x)++List.replicate (n-ws.length) (.int .u64 0)
theorem zjF(n:Nat):fillT [] n=(madeCells #[.int .u64 0] n).toList:=by
 simp[fillT,madeCells]
 apply List.ext_getElem
 ·simp
 ·intro i h1 h2
  have:i % 1=0:=Nat.mod_one i
  simp[this]
theorem zot{ws:List Int}{n:Nat}(h:ws.length<n):(fillT ws n)[ws.length]?=some (.int .u64 0):=by
 rw[fillT,List.getElem?_append_right (by simp),List.length_map,Nat.sub_self,List.getElem?_replicate,if_pos (by omega)]
theorem zlM{ws:List Int}{n:Nat}(h:ws.length<n)(x:Int):(fillT ws n).set ws.length (.int .u64 x)=fillT (ws++[x]) n:=by
 obtain⟨m,hm⟩:∃m,n-ws.length=m+1:=⟨n-ws.length-1,by omega⟩
 rw[fillT,fillT,hm,List.length_append,List.length_singleton,show n-(ws.length+1)=m by omega,List.replicate_succ,List.set_append_right _ _ (by simp)]
 simp
theorem zjE{ws:List Int}{n:Nat}(h:ws.length=n):fillT ws n=ws.map (fun x=>.int .u64 x):=by
 rw[fillT,h,Nat.sub_self];simp
theorem zls{ws:List Int}(h:wdR ws)(i:Nat):0≤wordW ws i∧wordW ws i<18446744073709551616:=by
 rw[wordW]
 split
 ·exact h _ (List.getElem_mem _)
 ·exact byW_R ws _ (by simp)
theorem zqF{ws:List Int}(h:wdR ws)(n:Nat):wdR (extW ws n):=fun x hx=>by
 simp only[extW,List.mem_map] at hx
 obtain⟨i,_,rfl⟩:=hx
 exact zls h i
theorem zst{w:World}{B:Nat}{g n:Nat}{ws:List Int}(hn:ws.length=n)(hl:n≤1000)(h:w.ownsRow B 262 1 (.slice (some ⟨g,0,none⟩) n n) n (ws.map fun x=>.int .u64 x))(hR:wdR ws):TotA w (.slice (some ⟨g,0,none⟩) n n) ws:=by
 subst hn
 refine⟨_,_,rfl,⟨Nat.le_refl _,hl⟩,(fun hp=>nomatch hp),hR,fun a ha=>?_⟩
 injection ha with ha
 subst ha
 rcases id h.2 with ⟨e,_⟩|⟨g',cap,cur,e,hb,hg,hm,hx,hs,ht⟩
 ·injection e with e1;exact absurd e1 (by simp)
 ·injection e with e1 e2 e3
  injection e1 with e1
  injection e1 with e1
  subst e1
  refine⟨g,0,rfl,⟨cur,hg⟩,fun j hj=>?_⟩
  have:=h.cells (g:=g) rfl j (.int .u64 ws[j]) (by rw[List.getElem?_map,List.getElem?_eq_getElem hj];rfl)
  rw[Go.WideShapes.add_plain] at this
  exact this
set_option maxRecDepth 20000 in
theorem zpj(u v:Value)(as_ bs:List Int)(w:World)(hu:TotA w u as_)(hv:TotA w v bs)(hla:as_.length≤900)(hlb:bs.length≤900) :
  Calls Tryz.prog 234 #[u,v] w fun e w'=>(∃r,e=.returned r∧TotA w' r (shW (sumW as_ bs)))∧Below w.heap.size w w':=by
 obtain⟨p,c,rfl,_⟩:=hu.form
 obtain⟨q,d,rfl,_⟩:=hv.form
 obtain⟨n,hn⟩:∃n,max as_.length bs.length+1=n:=⟨_,rfl⟩
 have HN:Hid (addW (extW as_ n) (extW bs n) 0=sumW as_ bs):=by
  show addW (extW as_ n) (extW bs n) 0=_
  rw[sumW,hn]
 have hnb:n≤901:=by omega
 have hnp:1≤n:=by omega
 have hmk:=run_make_row' (P:=Tryz.prog) 290 262 (.int .u64 0) 8 Tryz.underlying290 zoK rfl .i64 .i64 n (by omega) (by omega)
 have HU:Aside (TotA w (.slice p as_.length c) as_):=hu
 have HV:Aside (TotA w (.slice q bs.length d) bs):=hv
 have HSU:Aside _:=zkR as_ bs hu.R hv.R
 have hmx0:(if (as_.length:Int)<(bs.length:Int) then (bs.length:Int) else (as_.length:Int))+1=(n:Int):=by split<;>omega
 have hmx:Hid _:=hmx0
 clear hmx0
 obtain⟨PST,hPST⟩:∃PST:Ending→World→Prop,(fun (e:Ending) (w':World)=>(∃r,e=.returned r∧TotA w' r (shW (sumW as_ bs)))∧Below w.heap.size w w')=PST:=⟨_,rfl⟩
 have HPE:Hid (∀e w',((∃r,e=.returned r∧TotA w' r (shW (sumW as_ bs)))∧Below w.heap.size w w')→PST e w'):=by
  intro e w' h
  rw[←hPST]
  exact h
 rw[hPST]
 clear hPST hu hv hn
 generalize as_.length=LA at *
 generalize bs.length=LB at *
 have hsplit:((LA:Int)<(LB:Int)∧∀W:World,Sem.run Tryz.prog (Instr.makeSlice 290 (.int .i64 ((LB:Int)+1)) (.int .i64 ((LB:Int)+1))) W=.ok (.slice (some ⟨W.heap.size,0,none⟩) n n) (W.alloc (.cells (madeCells #[.int .u64 0] n) 262)))∨(¬(LA:Int)<(LB:Int)∧∀W:World,Sem.run Tryz.prog (Instr.makeSlice 290 (.int .i64 ((LA:Int)+1)) (.int .i64 ((LA:Int)+1))) W=.ok (.slice (some ⟨W.heap.size,0,none⟩) n n) (W.alloc (.cells (madeCells #[.int .u64 0] n) 262))):=by
  have:=hmx.out
  by_cases h:(LA:Int)<(LB:Int)
  ·rw[if_pos h] at this;rw[this];exact .inl ⟨h,hmk⟩
  ·rw[if_neg h] at this;rw[this];exact .inr ⟨h,hmk⟩
 clear hmk hmx
 rcases hsplit with ⟨hab,hmk⟩|⟨hab,hmk⟩
 all_goals
  first|have hm2:max (LA:Int) (LB:Int)=(LB:Int):=(by omega)|have hm2:max (LA:Int) (LB:Int)=(LA:Int):=(by omega)
  go_enter Tryz.func234,Tryz.ntmps234
  go_wp2
  go_loopg [6,17] n (fun gg s6 s17 wr=>∃kk:Nat,kk≤n∧n-kk≤gg∧s6=.int .u64 (carW (extW as_ kk) (extW bs kk) 0)∧s17=.int .i64 kk∧Aside (wr.ownsRow w.heap.size 262 1 (.slice (some ⟨w.heap.size,0,none⟩) n n) n (fillT (addW (extW as_ kk) (extW bs kk) 0) n))∧Aside (Below w.heap.size w wr))
  case atStart =>
   refine⟨0,Nat.zero_le _,by omega,rfl,rfl,?_,?_⟩
   ·show World.ownsRow _ _ _ _ _ _ _
    have o1:=World.ownsRow_lit (base:=w.heap.size) (e:=262) (size:=1) w (madeCells #[.int .u64 0] n) n (Nat.le_refl _) (by unfold maxLen;omega) (by rw[size_madeCells,Nat.mul_one])
    rw[←zjF] at o1
    exact o1
   ·exact (Below.refl _ w).alloc (Nat.le_refl _) _
  case round =>
   obtain⟨kk,hkk,hg,rfl,rfl,OW,BW⟩:=hrel
   have hcar:=zmT (extW as_ kk) (extW bs kk) 0 (zqF HU.out.R kk) (zqF HV.out.R kk) (.inl rfl)
   obtain⟨ap1,ap2⟩:=ziO (extW as_ kk) (extW bs kk) 0 (wordW as_ kk) (wordW bs kk) (by rw[zbc,zbc])
   have hlen:=zdX (extW as_ kk) (extW bs kk) 0 (by rw[zbc,zbc])
   rw[zbc] at hlen
   rw[←zcE,←zcE] at ap1 ap2
   by_cases hlt:kk<n
   ·have hltz:(kk:Int)<(n:Int):=by omega
    have h0z:(0:Int)≤(kk:Int):=by omega
    obtain⟨x1,x2⟩:=zls HU.out.R kk
    obtain⟨y1,y2⟩:=zls HV.out.R kk
    have c1:=fun (hW:Below w.heap.size w wr)=>zhf _ as_ kk wr (HU.out.on hW) (by omega)
    have c2:=fun (hW:Below w.heap.size w wr)=>zhf _ bs kk wr (HV.out.on hW) (by omega)
    have c1:=c1 BW.out
    have c2:=c2 BW.out
    have hfz:wr.frozen? ⟨w.heap.size,kk,none⟩=false:=OW.out.frozenAt kk
    have hce:wr.cell? ⟨w.heap.size,kk,none⟩=some (.int .u64 0):=by
     rw[OW.out.cellAt kk (by omega)]
     have:=zot (ws:=addW (extW as_ kk) (extW bs kk) 0) (n:=n) (by omega)
     rw[hlen] at this
     exact this
    have hst:=(OW.out.stored kk (.int .u64 ((wordW as_ kk+wordW bs kk+carW (extW as_ kk) (extW bs kk) 0) % 18446744073709551616))).1
    have hse:=zlM (ws:=addW (extW as_ kk) (extW bs kk) 0) (n:=n) (by omega) ((wordW as_ kk+wordW bs kk+carW (extW as_ kk) (extW bs kk) 0) % 18446744073709551616)
    rw[hlen] at hse
    rw[hse,←ap1] at hst
    have HST:Aside _:=hst
    have HAP:Hid _:=ap2
    have BW2:Aside (Below w.heap.size w (wr.setCell ⟨w.heap.size,kk,none⟩ (.int .u64 ((wordW as_ kk+wordW bs kk+carW (extW as_ kk) (extW bs kk) 0) % 18446744073709551616)))):=BW.out.setCell (Nat.le_refl _) _
    have hadd:=zgN (wordW as_ kk) (wordW bs kk) (carW (extW as_ kk) (extW bs kk) 0) x1 y1 hcar
    clear hst hse ap1 ap2 hlen OW BW hcar
    generalize hx:wordW as_ kk=x at *
    generalize hy:wordW bs kk=y at *
    generalize carW (extW as_ kk) (extW bs kk) 0=cr at *
    generalize (x+y+cr) % 18446744073709551616=sm at *
    generalize (x+y+cr) / 18446744073709551616=co at *
    go_wp2_with fail
    refine c1.mono ?_
    rintro e w1 ⟨rfl,rfl⟩
    clear c1
    go_wp2_with fail
    refine c2.mono ?_
    rintro e w2 ⟨rfl,rfl⟩
    clear c2
    go_wp2
    go_roundg (n-(kk+1))
    case measure=>omega
    case rel=>exact⟨kk+1,by omega,by omega,by rw[HAP.out],by go_num,HST,BW2⟩
   ·have hltz:¬(kk:Int)<(n:Int):=by omega
    obtain rfl:kk=n:=by omega
    rw[HN.out] at OW hlen
    have hsl:=HSU.out.2.2
    have cS:∀W,Below wr.heap.size wr W→Calls Tryz.prog 253 #[.slice (some ⟨w.heap.size,0,none⟩) kk kk] W fun e w'=>(∃u,e=.returned u∧TotA w' u (shW (sumW as_ bs)))∧Below W.heap.size W w':=fun W hW=>by
     have ho:=OW.out
     rw[zjE hlen] at ho
     exact zmv _ _ _ ((zst hlen (by omega) ho HSU.out.2.1).on hW) (by intro e;rw[e] at hlen;simp at hlen;omega)
    clear OW hlen hsl ap1 ap2 hcar
    go_wp2_with fail
    refine (cS _ (Below.refl _ _)).mono ?_
    rintro e w1 ⟨⟨r,rfl,T1⟩,B1⟩
    clear cS
    have BW3:Aside (Below w.heap.size w w1):=BW.out.trans (B1.mono BW.out.size)
    have T2:Aside (TotA w1 r (shW (sumW as_ bs))):=T1
    clear B1 T1 BW
    go_wp2
    exact HPE.out _ _ ⟨⟨_,rfl,T2.out⟩,BW3.out⟩
structure zbo(w:World)(b off:Nat)(p:Pt)(q:Option Addr)(c:Nat):Prop where
 c0:w.cell? ⟨b,off,none⟩=some (.string p.what)
 c1:w.cell? ⟨b,off+1,none⟩=some (.int .i64 p.kind)
 c2:w.cell? ⟨b,off+2,none⟩=some (.slice q p.ws.length c)
 c3:w.cell? ⟨b,off+3,none⟩=some (.int .i64 p.best.1)
 c4:w.cell? ⟨b,off+4,none⟩=some (.int .i64 p.best.2.1)
 c5:w.cell? ⟨b,off+5,none⟩=some (.string p.best.2.2)
 tot:TotA w (.slice q p.ws.length c) p.ws
 lt:b<w.heap.size
theorem zbo.on{w w':World}{b off:Nat}{p:Pt}{q:Option Addr}{c:Nat}(h:zbo w b off p q c)(hb:Below w.heap.size w w'):zbo w' b off p q c:=by
 obtain⟨c0,c1,c2,c3,c4,c5,t,lt⟩:=h
 have k:∀o,w'.cell? ⟨b,o,none⟩=w.cell? ⟨b,o,none⟩:=fun o=>hb.cell (p:=⟨b,o,none⟩) lt
 exact⟨by rw[k];exact c0,by rw[k];exact c1,by rw[k];exact c2,by rw[k];exact c3,by rw[k];exact c4,by rw[k];exact c5,t.on hb,by have:=hb.size;omega⟩
def partW(p:Pt)(q:Option Addr)(c:Nat):Value:=.agg #[.string p.what,.int .i64 p.kind,.slice q p.ws.length c,.int .i64 p.best.1,.int .i64 p.best.2.1,.string p.best.2.2]
theorem zcn(b off:Nat)(t:Int)(w:World)(h:w.cell? ⟨b,off+3,none⟩=some (.int .i64 t)) :
  Calls Tryz.prog 237 #[.pointer (some ⟨b,off,none⟩)] w fun e w'=>e=.returned (.bool (t == 0))∧w'=w:=by
 go_enter Tryz.func237,Tryz.ntmps237
 go_wp2
 go_ret
 exact⟨rfl,rfl⟩
theorem zik(b off b2 off2:Nat)(p o:Pt)(q q2:Option Addr)(c c2:Nat)(w:World)(hp:zbo w b off p q c)(ho:zbo w b2 off2 o q2 c2)(kp:OkPt p)(ko:OkPt o)(hk:p.kind=o.kind) :
  Calls Tryz.prog 235 #[.pointer (some ⟨b,off,none⟩),.pointer (some ⟨b2,off2,none⟩)] w fun e w'=>e=.returned (.bool (zaS p o))∧Below w.heap.size w w':=by
 have e1:=zcn b off p.best.1 w hp.c3
 have e2:=zcn b2 off2 o.best.1 w ho.c3
 by_cases h1:p.best.1=0
 ·have hA:zaS p o=false:=by rw[zaS,if_pos (.inl h1)];simp[h1]
  rw[hA]
  rw[h1,show ((0:Int) == 0)=true from rfl] at e1
  clear hA e2
  go_enter Tryz.func235,Tryz.ntmps235
  go_wp2_with fail
  refine e1.mono ?_
  rintro e w1 ⟨rfl,rfl⟩
  go_wp2_with fail
  refine e1.mono ?_
  rintro e w1 ⟨rfl,rfl⟩
  go_wp2
  go_ret
  exact⟨rfl,Below.refl _ _⟩
 ·have hb1:(p.best.1 == 0)=false:=by simpa using h1
  rw[hb1] at e1
  by_cases h2:o.best.1=0
  ·have hA:zaS p o=true:=by rw[zaS,if_pos (.inr h2)];simp[h1]
   rw[hA]
   rw[h2,show ((0:Int) == 0)=true from rfl] at e2
   clear hA hb1
   go_enter Tryz.func235,Tryz.ntmps235
   go_wp2_with fail
   refine e1.mono ?_
   rintro e w1 ⟨rfl,rfl⟩
   go_wp2_with fail
   refine e2.mono ?_
   rintro e w1 ⟨rfl,rfl⟩
   go_wp2_with fail
   refine e1.mono ?_
   rintro e w1 ⟨rfl,rfl⟩
   go_wp2
   go_ret
   exact⟨rfl,Below.refl _ _⟩
  ·have hb2:(o.best.1 == 0)=false:=by simpa using h2
   rw[hb2] at e2
   have b1:=kp.best.resolve_left (fun h=>h1 h.1)
   have b2':=ko.best.resolve_left (fun h=>h2 h.1)
   have hcE:cmpE p.best.1 p.best.2.1 p.best.2.2.data.toList o.best.1 o.best.2.1 o.best.2.2.data.toList=0:=by
    rw[cmpE,if_neg (by rw[b1.2.1];simp),if_neg (by rw[b2'.2.1];simp),if_neg (by rw[b1.1,b2'.1,hk];simp)]
   have s1:p.best.2.2.size≤maxLen:=by have:=zcQ b1.2.1;simp at this;unfold maxLen;omega
   have s2:o.best.2.2.size≤maxLen:=by have:=zcQ b2'.2.1;simp at this;unfold maxLen;omega
   have cC:=fun W=>zdH p.best.1 p.best.2.1 p.best.2.2 o.best.1 o.best.2.1 o.best.2.2 W s1 s2
   rw[hcE,show errV 0=.nilIface from rfl] at cC
   have hA:zaS p o=if p.wh=zaH then decide (cmpX p.best o.best<0) else decide (0<cmpX p.best o.best):=by rw[zaS,if_neg (by rintro (h|h);exact h1 h;exact h2 h)]
   have hX:cmpN p.best.1 p.best.2.1 p.best.2.2.data.toList o.best.1 o.best.2.1 o.best.2.2.data.toList=cmpX p.best o.best:=rfl
   rw[hX] at cC
   generalize zaS p o=R at hA ⊢
   generalize cmpX p.best o.best=X at hA cC
   have hp0:=hp.c0
   have hp3:=hp.c3
   have hp4:=hp.c4
   have hp5:=hp.c5
   have ho3:=ho.c3
   have ho4:=ho.c4
   have ho5:=ho.c5
   have hpl:=hp.lt
   have hol:=ho.lt
   generalize p.best.1=pt at *
   generalize p.best.2.1=pn at *
   generalize p.best.2.2=ps at *
   generalize o.best.1=ot at *
   generalize o.best.2.1=on at *
   generalize o.best.2.2=os at *
   have hA2:Hid (R=if p.what.data.toList=zaH then decide (X<0) else decide (0<X)):=hA
   generalize p.what=x at *
   clear hp ho kp ko hA b1 b2' hcE hX hk
   go_enter Tryz.func235,Tryz.ntmps235
   go_wp2_with fail
   refine e1.mono ?_
   rintro e w1 ⟨rfl,rfl⟩
   go_wp2_with fail
   refine e2.mono ?_
   rintro e w1 ⟨rfl,rfl⟩
   clear e1 e2
   go_wp2
   go_region_with (go_at_call 216;refine (cC _).mono ?_;rintro e w2 ⟨rfl,B2⟩;have B3:Below w1.heap.size w1 w2:=(Below.drew (Below.refl _ w1)).trans B2;have hp0':w2.cell? ⟨b,off,none⟩=some (.string x):=by rw[B3.cell (p:=⟨b,off,none⟩) hpl];exact hp0)
   all_goals
    by_cases hx:x.data.toList=zaH
    ·have hq:(x.toList == [108,101,97,115,116])=true:=by rw[Lib.toList_data];simpa [zaH] using hx
     have hR:=hA2.out
     rw[if_pos hx] at hR
     subst hR
     clear hA2 hx
     go_wp2
     go_ret
     exact⟨rfl,B3⟩
    ·have hq:(x.toList == [108,101,97,115,116])=false:=by rw[Lib.toList_data];simpa [zaH] using hx
     have hR:=hA2.out
     rw[if_neg hx] at hR
     subst hR
     clear hA2 hx
     go_wp2
     go_ret
     exact⟨rfl,B3⟩
theorem zcy{x:ByteArray}{l:List UInt8}(h:x.data.toList=l):(x.toList == l)=true:=by rw[Lib.toList_data];simpa using h
theorem zbq{x:ByteArray}{l:List UInt8}(h:x.data.toList≠l):(x.toList == l)=false:=by rw[Lib.toList_data];simpa using h
theorem ziv(b off:Nat)(x:ByteArray)(k t n:Int)(s:ByteArray)(w:World)(h0:w.cell? ⟨b,off,none⟩=some (.string x))(h1:w.cell? ⟨b,off+1,none⟩=some (.int .i64 k))(hl:b<w.heap.size)(hs:s.size≤maxLen)
  (E:Int)(hE:(if x.data.toList=zaN then 0 else if chk t n s.data.toList≠0 then chk t n s.data.toList else if t≠k then 8 else 0)=E) :
  Calls Tryz.prog 200 #[.pointer (some ⟨b,off,none⟩),.agg #[.int .i64 t,.int .i64 n,.string s]] w fun e w'=>e=.returned (errV E)∧Below w.heap.size w w':=by
 have cC:=fun W=>zbH t n s W hs
 have B1:Below w.heap.size w (w.alloc (.cells #[.int .i64 t,.int .i64 n,.string s] 28)):=alB _ _
 by_cases hx:x.data.toList=zaN
 ·rw[if_pos hx] at hE
  subst hE
  have hq:=zcy hx
  simp only[zaN] at hq
  rw[show errV 0=.nilIface from rfl]
  clear cC hx
  go_enter Tryz.func200,Tryz.ntmps200
  go_wp2
  go_ret
  exact⟨rfl,B1⟩
 ·rw[if_neg hx] at hE
  have hq:=zbq hx
  simp only[zaN] at hq
  clear hx
  by_cases hc:chk t n s.data.toList=0
  ·rw[if_neg (fun h=>h hc)] at hE
   rw[hc,show errV 0=.nilIface from rfl] at cC
   clear hc
   by_cases ht:t=k
   ·rw[if_neg (fun h=>h ht)] at hE
    subst hE ht
    rw[show errV 0=.nilIface from rfl]
    have qt:(t != t)=false:=by simp
    go_enter Tryz.func200,Tryz.ntmps200
    go_wp2_with fail
    refine (cC _).mono ?_
    rintro e w1 ⟨rfl,B2⟩
    obtain⟨k1,k2,k3⟩:=zgc w _ _ B2 (by simp)
    have f0:w1.cell? ⟨w.heap.size,0,none⟩=some (.int .i64 t):=k1 0
    have B3:Below w.heap.size w w1:=B1.trans (B2.mono B1.size)
    have f1:w1.cell? ⟨b,off+1,none⟩=some (.int .i64 t):=by rw[B3.cell (p:=⟨b,off+1,none⟩) hl];exact h1
    clear cC B2 k1 k2 h0 h1
    go_wp2
    go_quiet (fail)
    go_wp2
    go_ret
    exact⟨rfl,below_drewN B3 _⟩
   ·rw[if_pos ht] at hE
    subst hE
    rw[show errV 8=.iface 35 (.int .i64 8) from rfl]
    have qt:(t != k)=true:=by simpa using ht
    go_enter Tryz.func200,Tryz.ntmps200
    go_wp2_with fail
    refine (cC _).mono ?_
    rintro e w1 ⟨rfl,B2⟩
    obtain⟨k1,k2,k3⟩:=zgc w _ _ B2 (by simp)
    have f0:w1.cell? ⟨w.heap.size,0,none⟩=some (.int .i64 t):=k1 0
    have B3:Below w.heap.size w w1:=B1.trans (B2.mono B1.size)
    have f1:w1.cell? ⟨b,off+1,none⟩=some (.int .i64 k):=by rw[B3.cell (p:=⟨b,off+1,none⟩) hl];exact h1
    clear cC B2 k1 k2 h0 h1
    go_wp2
    go_quiet (fail)
    go_wp2
    go_ret
    exact⟨rfl,below_drewN B3 _⟩
  ·rw[if_pos hc] at hE
   have cB:=fun W=>zea t n s W hs hc
   rw[hE] at cB hc
   rw[errV,if_neg hc]
   clear cC hE hc
   go_enter Tryz.func200,Tryz.ntmps200
   go_wp2_with fail
   refine (cB _).mono ?_
   rintro e w1 ⟨rfl,B2⟩
   have B3:Below w.heap.size w w1:=B1.trans (B2.mono B1.size)
   clear cB B2 h0 h1
   go_wp2
   go_ret
   exact⟨rfl,B3⟩
theorem zss(w:World)(x:Int)(g:Nat)(hg:g=w.heap.size)(hx:0≤x∧x<18446744073709551616):TotA (w.alloc (.cells #[.int .u64 x] 262)) (.slice (some ⟨g,0,none⟩) 1 1) [x]:=by
 subst hg
 refine⟨_,1,rfl,⟨Nat.le_refl _,by simp⟩,(fun hp=>nomatch hp),fun y hy=>(List.mem_singleton.1 hy)▸hx,fun a ha=>?_⟩
 injection ha with ha
 subst ha
 refine⟨w.heap.size,0,rfl,⟨_,heap_alloc_new w _⟩,fun j hj=>?_⟩
 obtain rfl:j=0:=by simp at hj;omega
 rw[World.cell?_alloc_at _ _ _ _ rfl];rfl
theorem zcJ:(Tryz.prog.info? 28).map (·.size)=some 3:=by kernel_rfl
theorem zbg:(Tryz.prog.info? 292).map (·.size)=some 6:=by kernel_rfl
theorem zpc(t n:Int)(s:ByteArray):(#[Value.int .i64 t,.int .i64 n,.string s]).all (·.oneCell')=true:=by simp[Value.oneCell']
theorem zpb(x:ByteArray)(k:Int)(q:Option Addr)(m c:Nat)(t n:Int)(s:ByteArray):(#[Value.string x,.int .i64 k,.slice q m c,.int .i64 t,.int .i64 n,.string s]).all (·.oneCell')=true:=by simp[Value.oneCell']
theorem al2(w:World)(o1 o2:Obj):Below w.heap.size w ((w.alloc o1).alloc o2):=((Below.refl _ w).alloc (Nat.le_refl _) _).alloc (by simp) _
theorem al3(w:World)(o1 o2 o3:Obj):Below w.heap.size w (((w.alloc o1).alloc o2).alloc o3):=(al2 w o1 o2).alloc (by simp;omega) _
set_option maxRecDepth 20000 in
theorem zml(b off:Nat)(x:ByteArray)(k t n:Int)(s:ByteArray)(w:World)(h0:w.cell? ⟨b,off,none⟩=some (.string x))(h1:w.cell? ⟨b,off+1,none⟩=some (.int .i64 k))(hl:b<w.heap.size)(hx:x.data.toList=wSum) :
  Calls Tryz.prog 203 #[.pointer (some ⟨b,off,none⟩),.agg #[.int .i64 t,.int .i64 n,.string s]] w fun e w'=>(∃g,e=.returned (.agg #[.string x,.int .i64 k,.slice (some ⟨g,0,none⟩) 1 1,.int .i64 0,.int .i64 0,.string ⟨#[]⟩])∧Aside (TotA w' (.slice (some ⟨g,0,none⟩) 1 1) [n % 18446744073709551616]))∧Below w.heap.size w w':=by
 have hq:=zcy hx
 simp only[wSum] at hq
 have hwr:IntKind.u64.wrap n=n % 18446744073709551616:=by rw[IntKind.wrap_u64]
 clear hx
 have hc0:∀o1 o2 o3:Obj,(((w.alloc o1).alloc o2).alloc o3).cell? ⟨b,off,none⟩=some (.string x):=fun o1 o2 o3=>by rw[(al3 w o1 o2 o3).cell (p:=⟨b,off,none⟩) hl];exact h0
 have hc1:∀o1 o2 o3:Obj,(((w.alloc o1).alloc o2).alloc o3).cell? ⟨b,off+1,none⟩=some (.int .i64 k):=fun o1 o2 o3=>by rw[(al3 w o1 o2 o3).cell (p:=⟨b,off+1,none⟩) hl];exact h1
 have hd0:∀o1 o2:Obj,((w.alloc o1).alloc o2).cell? ⟨b,off,none⟩=some (.string x):=fun o1 o2=>by rw[(al2 w o1 o2).cell (p:=⟨b,off,none⟩) hl];exact h0
 have hd1:∀o1 o2:Obj,((w.alloc o1).alloc o2).cell? ⟨b,off+1,none⟩=some (.int .i64 k):=fun o1 o2=>by rw[(al2 w o1 o2).cell (p:=⟨b,off+1,none⟩) hl];exact h1
 go_enter Tryz.func203,Tryz.ntmps203
 go_wp2
 go_region
 all_goals
  go_wp2
  refine bodyPost_ret (v:=.agg #[.string x,.int .i64 k,.slice (some ⟨w.heap.size+1+1+1,0,none⟩) 1 1,.int .i64 0,.int .i64 0,.string ⟨#[]⟩]) (by simp[results,Tryz.results203,go_sem]) rfl ⟨⟨_,rfl,?_⟩,?_⟩
  ·exact (show Aside _ from (zss _ _ _ (by simp) (by omega)).on (Below.drew (Below.refl _ _)))
  ·exact Below.drew ((al3 w _ _ _).alloc (by simp;omega) _)
set_option maxRecDepth 20000 in
theorem zfD(b off:Nat)(x:ByteArray)(k t n:Int)(s:ByteArray)(w:World)(h0:w.cell? ⟨b,off,none⟩=some (.string x))(h1:w.cell? ⟨b,off+1,none⟩=some (.int .i64 k))(hl:b<w.heap.size)(hs:s.size≤281474976710656)(hx:x.data.toList=zaH∨x.data.toList=wMost) :
  Calls Tryz.prog 203 #[.pointer (some ⟨b,off,none⟩),.agg #[.int .i64 t,.int .i64 n,.string s]] w fun e w'=>e=.returned (.agg #[.string x,.int .i64 k,.slice none 0 0,.int .i64 t,.int .i64 n,.string s])∧Below w.heap.size w w':=by
 have hq0:(x.toList == [115,117,109])=false:=zbq (by rcases hx with h|h<;>rw[h]<;>decide)
 have cF:=fun W=>zbC t n s W hs
 have hc0:∀o1 o2 o3:Obj,(((w.alloc o1).alloc o2).alloc o3).cell? ⟨b,off,none⟩=some (.string x):=fun o1 o2 o3=>by rw[(al3 w o1 o2 o3).cell (p:=⟨b,off,none⟩) hl];exact h0
 have hc1:∀o1 o2 o3:Obj,(((w.alloc o1).alloc o2).alloc o3).cell? ⟨b,off+1,none⟩=some (.int .i64 k):=fun o1 o2 o3=>by rw[(al3 w o1 o2 o3).cell (p:=⟨b,off+1,none⟩) hl];exact h1
 have hd0:∀o1 o2:Obj,((w.alloc o1).alloc o2).cell? ⟨b,off,none⟩=some (.string x):=fun o1 o2=>by rw[(al2 w o1 o2).cell (p:=⟨b,off,none⟩) hl];exact h0
 have hd1:∀o1 o2:Obj,((w.alloc o1).alloc o2).cell? ⟨b,off+1,none⟩=some (.int .i64 k):=fun o1 o2=>by rw[(al2 w o1 o2).cell (p:=⟨b,off+1,none⟩) hl];exact h1
 rcases hx with hx|hx
 ·have hq:=zcy hx
  simp only[zaH] at hq
  clear hx
  go_enter Tryz.func203,Tryz.ntmps203
  go_wp2
  go_region
  all_goals
   go_wp2_with fail
   refine (cF _).mono ?_
   rintro e w1 ⟨rfl,B1⟩
   have P1:Blk w1 (w.heap.size+1) #[.string ⟨#[]⟩,.int .i64 0,.slice none 0 0,.int .i64 0,.int .i64 0,.string ⟨#[]⟩] 292:=by
    refine Blk.on (w:=World.drew _) ?_ B1
    have:=zab (w.alloc (.cells #[.int .i64 t,.int .i64 n,.string s] 28)) #[.string ⟨#[]⟩,.int .i64 0,.slice none 0 0,.int .i64 0,.int .i64 0,.string ⟨#[]⟩] 292
    have:=this.on (alB _ (.cells #[.string x,.int .i64 k,.slice none 0 0,.int .i64 0,.int .i64 0,.string ⟨#[]⟩] 292))
    exact Blk.drew (by simpa using this)
   have P2:Blk w1 (w.heap.size+1+1) #[.string x,.int .i64 k,.slice none 0 0,.int .i64 0,.int .i64 0,.string ⟨#[]⟩] 292:=by
    refine Blk.on (w:=World.drew _) ?_ B1
    have:=zab ((w.alloc (.cells #[.int .i64 t,.int .i64 n,.string s] 28)).alloc (.cells #[.string ⟨#[]⟩,.int .i64 0,.slice none 0 0,.int .i64 0,.int .i64 0,.string ⟨#[]⟩] 292)) #[.string x,.int .i64 k,.slice none 0 0,.int .i64 0,.int .i64 0,.string ⟨#[]⟩] 292
    exact Blk.drew (by simpa using this)
   have B2:Below w.heap.size w w1:=(Below.drew (al3 w _ _ _)).trans (B1.mono (by simp;omega))
   clear B1 cF hc0 hc1 hd0 hd1
   have hst1:∀{ops:Array Oper} {rest:List Oper} {op:Oper} {a:Act} {Q:Exit→Act→World→Prop} (hgd:op.guard=none) (x' y:Operand) (ho:op.op=.store 28 x' y) (hx:a.eval x'=.pointer (some ⟨w.heap.size+1+1,3,none⟩)) (hy:a.eval y=.agg #[.int .i64 t,.int .i64 n,.string s]),(∀W2,Blk W2 (w.heap.size+1+1) #[.string x,.int .i64 k,.slice none 0 0,.int .i64 t,.int .i64 n,.string s] 292→Blk W2 (w.heap.size+1) #[.string ⟨#[]⟩,.int .i64 0,.slice none 0 0,.int .i64 0,.int .i64 0,.string ⟨#[]⟩] 292→Below w.heap.size w W2→wpList Tryz.prog ops Q rest (a.put op.dst undef) W2)→wpList Tryz.prog ops Q (op::rest) a w1:=fun hgd x' y ho hx hy h =>
    zah hgd 28 x' y ho (w.heap.size+1+1) 3 _ hx hy _ _ P2 (by simp) zcJ (zpc _ _ _) fun W2 P3 K3=>h W2 (by simpa only[putA,List.setIfInBounds_toArray,List.set_cons_zero,List.set_cons_succ,Nat.reduceAdd] using P3) (P1.but K3 (by omega)) (B2.trans (K3.below.mono (by omega)))
   clear P1 P2 B2
   go_wp2_with (first
    | (refine hst1 rfl _ _ rfl rfl rfl ?_;intro W2 P3 P4 B3;clear hst1)
    | (refine zaj rfl 292 _ rfl (w.heap.size+1+1) 0 rfl _ _ P3 [.string x,.int .i64 k,.slice none 0 0,.int .i64 t,.int .i64 n,.string s] (fun j v hv=>by simpa using hv) _ Tryz.underlying292 rfl zbg ?_)
    | (refine zah rfl 292 _ _ rfl (w.heap.size+1) 0 #[.string x,.int .i64 k,.slice none 0 0,.int .i64 t,.int .i64 n,.string s] rfl rfl _ _ P4 (by simp) zbg (zpb _ _ _ _ _ _ _ _) ?_;intro W3 P5 K5))
   have B4:Below w.heap.size w W3:=B3.trans (K5.below.mono (by omega))
   have P6:Blk W3 (w.heap.size+1) #[.string x,.int .i64 k,.slice none 0 0,.int .i64 t,.int .i64 n,.string s] 292:=by simpa only[putA,List.setIfInBounds_toArray,List.set_cons_zero,List.set_cons_succ,Nat.reduceAdd] using P5
   have c0:=P6.cell 0
   have c1:=P6.cell 1
   have c2:=P6.cell 2
   have c3:=P6.cell 3
   have c4:=P6.cell 4
   have c5:=P6.cell 5
   simp at c0 c1 c2 c3 c4 c5
   exact bodyPost_ret (v:=.agg #[.string x,.int .i64 k,.slice none 0 0,.int .i64 t,.int .i64 n,.string s]) (by simp[results,Tryz.results203,go_sem,c0,c1,c2,c3,c4,c5]) rfl ⟨rfl,B4⟩
 ·have hq:=zcy hx
  have hq1:(x.toList == [108,101,97,115,116])=false:=zbq (by rw[hx];decide)
  simp only[wMost] at hq
  clear hx
  go_enter Tryz.func203,Tryz.ntmps203
  go_wp2
  go_region
  all_goals
   go_wp2_with fail
   refine (cF _).mono ?_
   rintro e w1 ⟨rfl,B1⟩
   have P1:Blk w1 (w.heap.size+1) #[.string ⟨#[]⟩,.int .i64 0,.slice none 0 0,.int .i64 0,.int .i64 0,.string ⟨#[]⟩] 292:=by
    refine Blk.on (w:=World.drew _) ?_ B1
    have:=zab (w.alloc (.cells #[.int .i64 t,.int .i64 n,.string s] 28)) #[.string ⟨#[]⟩,.int .i64 0,.slice none 0 0,.int .i64 0,.int .i64 0,.string ⟨#[]⟩] 292
    have:=this.on (alB _ (.cells #[.string x,.int .i64 k,.slice none 0 0,.int .i64 0,.int .i64 0,.string ⟨#[]⟩] 292))
    exact Blk.drew (by simpa using this)
   have P2:Blk w1 (w.heap.size+1+1) #[.string x,.int .i64 k,.slice none 0 0,.int .i64 0,.int .i64 0,.string ⟨#[]⟩] 292:=by
    refine Blk.on (w:=World.drew _) ?_ B1
    have:=zab ((w.alloc (.cells #[.int .i64 t,.int .i64 n,.string s] 28)).alloc (.cells #[.string ⟨#[]⟩,.int .i64 0,.slice none 0 0,.int .i64 0,.int .i64 0,.string ⟨#[]⟩] 292)) #[.string x,.int .i64 k,.slice none 0 0,.int .i64 0,.int .i64 0,.string ⟨#[]⟩] 292
    exact Blk.drew (by simpa using this)
   have B2:Below w.heap.size w w1:=(Below.drew (al3 w _ _ _)).trans (B1.mono (by simp;omega))
   clear B1 cF hc0 hc1 hd0 hd1
   have hst1:∀{ops:Array Oper} {rest:List Oper} {op:Oper} {a:Act} {Q:Exit→Act→World→Prop} (hgd:op.guard=none) (x' y:Operand) (ho:op.op=.store 28 x' y) (hx:a.eval x'=.pointer (some ⟨w.heap.size+1+1,3,none⟩)) (hy:a.eval y=.agg #[.int .i64 t,.int .i64 n,.string s]),(∀W2,Blk W2 (w.heap.size+1+1) #[.string x,.int .i64 k,.slice none 0 0,.int .i64 t,.int .i64 n,.string s] 292→Blk W2 (w.heap.size+1) #[.string ⟨#[]⟩,.int .i64 0,.slice none 0 0,.int .i64 0,.int .i64 0,.string ⟨#[]⟩] 292→Below w.heap.size w W2→wpList Tryz.prog ops Q rest (a.put op.dst undef) W2)→wpList Tryz.prog ops Q (op::rest) a w1:=fun hgd x' y ho hx hy h =>
    zah hgd 28 x' y ho (w.heap.size+1+1) 3 _ hx hy _ _ P2 (by simp) zcJ (zpc _ _ _) fun W2 P3 K3=>h W2 (by simpa only[putA,List.setIfInBounds_toArray,List.set_cons_zero,List.set_cons_succ,Nat.reduceAdd] using P3) (P1.but K3 (by omega)) (B2.trans (K3.below.mono (by omega)))
   clear P1 P2 B2
   go_wp2_with (first
    | (refine hst1 rfl _ _ rfl rfl rfl ?_;intro W2 P3 P4 B3;clear hst1)
    | (refine zaj rfl 292 _ rfl (w.heap.size+1+1) 0 rfl _ _ P3 [.string x,.int .i64 k,.slice none 0 0,.int .i64 t,.int .i64 n,.string s] (fun j v hv=>by simpa using hv) _ Tryz.underlying292 rfl zbg ?_)
    | (refine zah rfl 292 _ _ rfl (w.heap.size+1) 0 #[.string x,.int .i64 k,.slice none 0 0,.int .i64 t,.int .i64 n,.string s] rfl rfl _ _ P4 (by simp) zbg (zpb _ _ _ _ _ _ _ _) ?_;intro W3 P5 K5))
   have B4:Below w.heap.size w W3:=B3.trans (K5.below.mono (by omega))
   have P6:Blk W3 (w.heap.size+1) #[.string x,.int .i64 k,.slice none 0 0,.int .i64 t,.int .i64 n,.string s] 292:=by simpa only[putA,List.setIfInBounds_toArray,List.set_cons_zero,List.set_cons_succ,Nat.reduceAdd] using P5
   have c0:=P6.cell 0
   have c1:=P6.cell 1
   have c2:=P6.cell 2
   have c3:=P6.cell 3
   have c4:=P6.cell 4
   have c5:=P6.cell 5
   simp at c0 c1 c2 c3 c4 c5
   exact bodyPost_ret (v:=.agg #[.string x,.int .i64 k,.slice none 0 0,.int .i64 t,.int .i64 n,.string s]) (by simp[results,Tryz.results203,go_sem,c0,c1,c2,c3,c4,c5]) rfl ⟨rfl,B4⟩
set_option maxRecDepth 20000 in
theorem zip(b off:Nat)(x:ByteArray)(k t n:Int)(s:ByteArray)(w:World)(h0:w.cell? ⟨b,off,none⟩=some (.string x))(h1:w.cell? ⟨b,off+1,none⟩=some (.int .i64 k))(hl:b<w.heap.size)(hx:x.data.toList=zaN) :
  Calls Tryz.prog 203 #[.pointer (some ⟨b,off,none⟩),.agg #[.int .i64 t,.int .i64 n,.string s]] w fun e w'=>e=.returned (.agg #[.string x,.int .i64 k,.slice none 0 0,.int .i64 0,.int .i64 0,.string ⟨#[]⟩])∧Below w.heap.size w w':=by
 have hq0:(x.toList == [115,117,109])=false:=zbq (by rw[hx];decide)
 have hq1:(x.toList == [108,101,97,115,116])=false:=zbq (by rw[hx];decide)
 have hq2:(x.toList == [109,111,115,116])=false:=zbq (by rw[hx];decide)
 have hc0:∀o1 o2 o3:Obj,(((w.alloc o1).alloc o2).alloc o3).cell? ⟨b,off,none⟩=some (.string x):=fun o1 o2 o3=>by rw[(al3 w o1 o2 o3).cell (p:=⟨b,off,none⟩) hl];exact h0
 have hc1:∀o1 o2 o3:Obj,(((w.alloc o1).alloc o2).alloc o3).cell? ⟨b,off+1,none⟩=some (.int .i64 k):=fun o1 o2 o3=>by rw[(al3 w o1 o2 o3).cell (p:=⟨b,off+1,none⟩) hl];exact h1
 have hd0:∀o1 o2:Obj,((w.alloc o1).alloc o2).cell? ⟨b,off,none⟩=some (.string x):=fun o1 o2=>by rw[(al2 w o1 o2).cell (p:=⟨b,off,none⟩) hl];exact h0
 have hd1:∀o1 o2:Obj,((w.alloc o1).alloc o2).cell? ⟨b,off+1,none⟩=some (.int .i64 k):=fun o1 o2=>by rw[(al2 w o1 o2).cell (p:=⟨b,off+1,none⟩) hl];exact h1
 clear hx
 go_enter Tryz.func203,Tryz.ntmps203
 go_wp2
 go_region
 all_goals
  go_wp2
  refine bodyPost_ret (v:=.agg #[.string x,.int .i64 k,.slice none 0 0,.int .i64 0,.int .i64 0,.string ⟨#[]⟩]) (by simp[results,Tryz.results203,go_sem]) rfl ⟨rfl,?_⟩
  exact Below.drew (al3 w _ _ _)
theorem zmk(b off:Nat)(p:Pt)(v:V3)(w:World)(h0:w.cell? ⟨b,off,none⟩=some (.string p.what))(h1:w.cell? ⟨b,off+1,none⟩=some (.int .i64 p.kind))(hl:b<w.heap.size)(hag:isAg p.wh=true)(hs:p.wh=zaH∨p.wh=wMost→v.2.2.size≤281474976710656) :
  Calls Tryz.prog 203 #[.pointer (some ⟨b,off,none⟩),.agg #[.int .i64 v.1,.int .i64 v.2.1,.string v.2.2]] w fun e w'=>(∃q c,e=.returned (partW (oneP p v) q c)∧Aside (TotA w' (.slice q (oneP p v).ws.length c) (oneP p v).ws))∧Below w.heap.size w w':=by
 rcases zfu hag with h|h|h|h
 ·have hp:oneP p v=⟨p.what,p.kind,[],noV⟩:=by rw[oneP,if_neg (by rw[h];decide),if_neg (by rw[h];decide)]
  rw[hp]
  exact (zip b off p.what p.kind v.1 v.2.1 v.2.2 w h0 h1 hl h).mono fun e w' hh=>⟨⟨none,0,hh.1,TotA.nil _⟩,hh.2⟩
 ·have hp:oneP p v=⟨p.what,p.kind,[v.2.1 % 18446744073709551616],noV⟩:=by rw[oneP,if_pos h]
  rw[hp]
  exact (zml b off p.what p.kind v.1 v.2.1 v.2.2 w h0 h1 hl h).mono fun e w' hh=>by
   obtain⟨⟨g,e1,e2⟩,e3⟩:=hh
   exact⟨⟨some ⟨g,0,none⟩,1,e1,e2⟩,e3⟩
 ·have hp:oneP p v=⟨p.what,p.kind,[],v⟩:=by rw[oneP,if_neg (by rw[h];decide),if_pos (.inl h)]
  rw[hp]
  exact (zfD b off p.what p.kind v.1 v.2.1 v.2.2 w h0 h1 hl (hs (.inl h)) (.inl h)).mono fun e w' hh=>⟨⟨none,0,hh.1,TotA.nil _⟩,hh.2⟩
 ·have hp:oneP p v=⟨p.what,p.kind,[],v⟩:=by rw[oneP,if_neg (by rw[h];decide),if_pos (.inr h)]
  rw[hp]
  exact (zfD b off p.what p.kind v.1 v.2.1 v.2.2 w h0 h1 hl (hs (.inr h)) (.inr h)).mono fun e w' hh=>⟨⟨none,0,hh.1,TotA.nil _⟩,hh.2⟩
set_option maxRecDepth 20000 in
theorem zgH(b off:Nat)(p:Pt)(q:Option Addr)(c:Nat)(rows:Int)(w:World)(hp:zbo w b off p q c)(hk:OkPt p)(T K:Int)(S:ByteArray)(E:Int)(hR:resP p rows=((T,K,S),E)) :
  Calls Tryz.prog 224 #[.pointer (some ⟨b,off,none⟩),.int .i64 rows] w fun e w'=>e=.returned (.tuple #[.agg #[.int .i64 T,.int .i64 K,.string S],errV E])∧Below w.heap.size w w':=by
 have h0:=hp.c0
 have hl:=hp.lt
 have B1:Below w.heap.size w (w.alloc (.cells #[.int .i64 0,.int .i64 0,.string ⟨#[]⟩] 28)):=alB _ _
 have hd0:∀o1:Obj,(w.alloc o1).cell? ⟨b,off,none⟩=some (.string p.what):=fun o1=>by rw[(alB w o1).cell (p:=⟨b,off,none⟩) hl];exact h0
 rcases zfu hk.ag with h|h|h|h
 ·rw[resP,if_pos h] at hR
  simp only[Prod.mk.injEq] at hR
  obtain⟨⟨rfl,rfl,rfl⟩,rfl⟩:=hR
  have hq:=zcy h
  simp only[zaN] at hq
  rw[show errV 0=.nilIface from rfl]
  clear hk hp h h0
  generalize p.what=x at *
  go_enter Tryz.func224,Tryz.ntmps224
  go_wp2
  exact bodyPost_ret (v:=.tuple #[.agg #[.int .i64 1,.int .i64 rows,.string ⟨#[]⟩],.nilIface]) (by simp[results,Tryz.results224,go_sem]) rfl ⟨rfl,alB _ _⟩
 ·rw[resP,if_neg (by rw[h];decide),if_pos h] at hR
  have hq0:(p.what.toList == [99,111,117,110,116])=false:=zbq (show p.what.data.toList≠_ by rw[show p.what.data.toList=_ from h];decide)
  have hq:=zcy h
  simp only[wSum] at hq
  have hd2:∀o1:Obj,(w.alloc o1).cell? ⟨b,off+2,none⟩=some (.slice q p.ws.length c):=fun o1=>by rw[(alB w o1).cell (p:=⟨b,off+2,none⟩) hl];exact hp.c2
  by_cases hin:-9223372036854775808≤sv p.ws∧sv p.ws≤9223372036854775807
  ·rw[if_pos hin] at hR
   simp only[Prod.mk.injEq] at hR
   obtain⟨⟨rfl,rfl,rfl⟩,rfl⟩:=hR
   have cN:=fun o1=>zfB (.slice q p.ws.length c) p.ws (w.alloc o1) (hp.tot.on (alB w o1)) hk.ws.2.1 (sv p.ws) 0 (if_pos hin)
   rw[show errV 0=.nilIface from rfl] at cN ⊢
   clear hk hp h h0 hin
   generalize p.what=x at *
   generalize p.ws.length=L at *
   generalize sv p.ws=T at *
   go_enter Tryz.func224,Tryz.ntmps224
   go_wp2_with fail
   refine (cN _).mono ?_
   rintro e w1 ⟨rfl,rfl⟩
   clear cN
   go_wp2
   exact bodyPost_ret (v:=.tuple #[.agg #[.int .i64 1,.int .i64 T,.string ⟨#[]⟩],.nilIface]) (by simp[results,Tryz.results224,go_sem]) rfl ⟨rfl,alB _ _⟩
  ·rw[if_neg hin] at hR
   simp only[Prod.mk.injEq] at hR
   obtain⟨⟨rfl,rfl,rfl⟩,rfl⟩:=hR
   have cN:=fun o1=>zfB (.slice q p.ws.length c) p.ws (w.alloc o1) (hp.tot.on (alB w o1)) hk.ws.2.1 0 9 (if_neg hin)
   rw[show errV 9=.iface 35 (.int .i64 9) from rfl] at cN ⊢
   clear hk hp h h0 hin
   generalize p.what=x at *
   generalize p.ws.length=L at *
   go_enter Tryz.func224,Tryz.ntmps224
   go_wp2_with fail
   refine (cN _).mono ?_
   rintro e w1 ⟨rfl,rfl⟩
   clear cN
   go_wp2
   exact bodyPost_ret (v:=.tuple #[.agg #[.int .i64 1,.int .i64 0,.string ⟨#[]⟩],.iface 35 (.int .i64 9)]) (by simp[results,Tryz.results224,go_sem]) rfl ⟨rfl,alB _ _⟩
 all_goals
  rw[resP,if_neg (by rw[h];decide),if_neg (by rw[h];decide)] at hR
  have hq0:(p.what.toList == [99,111,117,110,116])=false:=zbq (show p.what.data.toList≠_ by rw[show p.what.data.toList=_ from h];decide)
  have hq1:(p.what.toList == [115,117,109])=false:=zbq (show p.what.data.toList≠_ by rw[show p.what.data.toList=_ from h];decide)
  have cE:=fun o1:Obj=>zcn b off p.best.1 (w.alloc o1) (by rw[(alB w o1).cell (p:=⟨b,off+3,none⟩) hl];exact hp.c3)
  by_cases h1:p.best.1=0
  ·rw[if_pos h1] at hR
   simp only[noV,Prod.mk.injEq] at hR
   obtain⟨⟨rfl,rfl,rfl⟩,rfl⟩:=hR
   rw[h1,show ((0:Int) == 0)=true from rfl] at cE
   rw[show errV 5=.iface 35 (.int .i64 5) from rfl]
   clear hk hp h h0 h1
   generalize p.what=x at *
   go_enter Tryz.func224,Tryz.ntmps224
   go_wp2_with fail
   refine (cE _).mono ?_
   rintro e w1 ⟨rfl,rfl⟩
   clear cE
   go_wp2
   exact bodyPost_ret (v:=.tuple #[.agg #[.int .i64 0,.int .i64 0,.string ⟨#[]⟩],.iface 35 (.int .i64 5)]) (by simp[results,Tryz.results224,go_sem]) rfl ⟨rfl,alB _ _⟩
  ·rw[if_neg h1] at hR
   have hsz:=zcQ (hk.best.resolve_left (fun h=>h1 h.1)).2.1
   have hb1:(p.best.1 == 0)=false:=by simpa using h1
   rw[hb1] at cE
   obtain⟨e1,rfl⟩:=Prod.mk.inj hR
   have d3:∀o1:Obj,(w.alloc o1).cell? ⟨b,off+3,none⟩=some (.int .i64 T):=fun o1=>by rw[(alB w o1).cell (p:=⟨b,off+3,none⟩) hl,hp.c3,e1]
   have d4:∀o1:Obj,(w.alloc o1).cell? ⟨b,off+4,none⟩=some (.int .i64 K):=fun o1=>by rw[(alB w o1).cell (p:=⟨b,off+4,none⟩) hl,hp.c4,e1]
   have d5:∀o1:Obj,(w.alloc o1).cell? ⟨b,off+5,none⟩=some (.string S):=fun o1=>by rw[(alB w o1).cell (p:=⟨b,off+5,none⟩) hl,hp.c5,e1]
   rw[e1] at hsz
   simp at hsz
   have cF:=fun W=>zbC T K S W (by omega)
   rw[show errV 0=.nilIface from rfl]
   clear hk hp h h0 h1 hR e1 hb1
   generalize p.what=x at *
   go_enter Tryz.func224,Tryz.ntmps224
   go_wp2_with fail
   refine (cE _).mono ?_
   rintro e w1 ⟨rfl,rfl⟩
   clear cE
   go_wp2_with fail
   refine (cF _).mono ?_
   rintro e w1 ⟨rfl,B2⟩
   clear cF
   obtain⟨k1,k2,k3⟩:=zgc w _ _ B2 (by simp)
   have f0:=k1 0
   have f1:=k1 1
   have f2:=k1 2
   simp at f0 f1 f2
   have B3:Below w.heap.size w w1:=B1.trans (B2.mono B1.size)
   clear B2 k1
   go_wp2
   refine bodyPost_ret (v:=.tuple #[.agg #[.int .i64 T,.int .i64 K,.string S],.nilIface]) (by simp[results,Tryz.results224,go_sem,World.cell?_setCell_other,World.cell?_setCell_same,f0,f1,f2]) rfl ⟨rfl,?_⟩
   exact ((B3.setCell (p:=⟨w.heap.size,0,none⟩) (Nat.le_refl _) _).setCell (p:=⟨w.heap.size,1,none⟩) (Nat.le_refl _) _).setCell (p:=⟨w.heap.size,2,none⟩) (Nat.le_refl _) _
set_option maxRecDepth 20000 in
theorem zin(x:ByteArray)(k:Int)(w:World)(henv:AEnv w)(p:Pt)(hp:npP x k=p)(E:Int)(hE:npE x.data.toList k=E) :
  Calls Tryz.prog 218 #[.string x,.int .i64 k] w fun e w'=>e=.returned (.tuple #[.agg #[.string p.what,.int .i64 p.kind,.slice none 0 0,.int .i64 0,.int .i64 0,.string ⟨#[]⟩],errV E])∧Below w.heap.size w w':=by
 have cA:=fun o1:Obj=>zem x (w.alloc o1) (henv.on (alB w o1))
 have B1:=alB w (.cells #[.string ⟨#[]⟩,.int .i64 0,.slice none 0 0,.int .i64 0,.int .i64 0,.string ⟨#[]⟩] 292)
 rw[npP,hE] at hp
 have hbad:∀j:Int,E=j→j≠0→p.what=⟨#[]⟩∧p.kind=0:=fun j hj h0=>by rw[if_pos (by omega)] at hp;subst hp;exact⟨rfl,rfl⟩
 have hgood:E=0→p.what=x∧p.kind=if x.data.toList=zaN then 0 else k:=fun h0=>by rw[if_neg (by omega)] at hp;subst hp;exact⟨rfl,rfl⟩
 clear hp
 unfold npE at hE
 by_cases h1:isAg x.data.toList=false
 ·rw[if_pos h1] at hE
  subst hE
  rw[h1] at cA
  obtain⟨e1,e2⟩:=hbad 2 rfl (by decide)
  rw[e1,e2,show errV 2=.iface 35 (.int .i64 2) from rfl]
  clear hbad hgood h1 henv e1 e2
  go_enter Tryz.func218,Tryz.ntmps218
  go_wp2_with fail
  refine (cA _).mono ?_
  rintro e w1 ⟨rfl,rfl⟩
  clear cA
  go_wp2
  exact bodyPost_ret (v:=.tuple #[.agg #[.string ⟨#[]⟩,.int .i64 0,.slice none 0 0,.int .i64 0,.int .i64 0,.string ⟨#[]⟩],.iface 35 (.int .i64 2)]) (by simp[results,Tryz.results218,go_sem]) rfl ⟨rfl,B1⟩
 ·rw[if_neg h1] at hE
  have h1':isAg x.data.toList=true:=by simpa using h1
  rw[h1'] at cA
  have hxs:x.size≤40:=by
   have:x.data.toList.length=x.size:=by simp
   rcases zfu h1' with h|h|h|h<;>rw[h] at this<;>simp[zaN,wSum,zaH,wMost] at this<;>omega
  clear h1
  by_cases h2:x.data.toList=zaN
  ·rw[if_pos h2] at hE
   subst hE
   obtain⟨e1,e2⟩:=hgood rfl
   rw[if_pos h2] at e2
   have hq:=zcy h2
   simp only[zaN] at hq
   have hxe:x=⟨#[99,111,117,110,116]⟩:=by
    have:x.data=#[99,111,117,110,116]:=Array.toList_inj.1 h2
    cases x;simp_all
   rw[e1,e2,show errV 0=.nilIface from rfl]
   clear hbad hgood h1' henv e1 e2 h2
   rw[hxe]
   have HX:Hid (x=⟨#[99,111,117,110,116]⟩):=hxe
   subst hxe
   go_enter Tryz.func218,Tryz.ntmps218
   go_wp2_with fail
   refine (cA _).mono ?_
   rintro e w1 ⟨rfl,rfl⟩
   clear cA
   go_wp2
   exact bodyPost_ret (v:=.tuple #[.agg #[.string ⟨#[99,111,117,110,116]⟩,.int .i64 0,.slice none 0 0,.int .i64 0,.int .i64 0,.string ⟨#[]⟩],.nilIface]) (by simp[results,Tryz.results218,go_sem]) rfl ⟨rfl,alB _ _⟩
  ·rw[if_neg h2] at hE
   have hq:=zbq h2
   simp only[zaN] at hq
   by_cases h3:¬(k=1∨k=2∨k=3)
   ·rw[if_pos h3] at hE
    subst hE
    obtain⟨e1,e2⟩:=hbad 1 rfl (by decide)
    have cT:=fun W=>zhx k W h3
    rw[e1,e2,show errV 1=.iface 35 (.int .i64 1) from rfl]
    clear hbad hgood h1' henv e1 e2 h2 h3
    go_enter Tryz.func218,Tryz.ntmps218
    go_wp2_with fail
    refine (cA _).mono ?_
    rintro e w1 ⟨rfl,rfl⟩
    clear cA
    go_wp2_with fail
    refine (cT _).mono ?_
    rintro e w1 ⟨rfl,rfl⟩
    clear cT
    go_wp2
    exact bodyPost_ret (v:=.tuple #[.agg #[.string ⟨#[]⟩,.int .i64 0,.slice none 0 0,.int .i64 0,.int .i64 0,.string ⟨#[]⟩],.iface 35 (.int .i64 1)]) (by simp[results,Tryz.results218,go_sem]) rfl ⟨rfl,alB _ _⟩
   ·rw[if_neg h3] at hE
    have cT:=fun W=>zda k W (Decidable.not_not.1 h3)
    by_cases h4:x.data.toList=wSum∧k≠1
    ·rw[if_pos h4] at hE
     subst hE
     obtain⟨e1,e2⟩:=hbad 8 rfl (by decide)
     rw[e1,e2,show errV 8=.iface 35 (.int .i64 8) from rfl]
     have hq1:=zcy h4.1
     simp only[wSum] at hq1
     have hk1:(k != 1)=true:=by simpa using h4.2
     clear hbad hgood h1' henv e1 e2 h2 h3 h4
     go_enter Tryz.func218,Tryz.ntmps218
     go_wp2_with fail
     refine (cA _).mono ?_
     rintro e w1 ⟨rfl,rfl⟩
     clear cA
     go_wp2_with fail
     refine (cT _).mono ?_
     rintro e w1 ⟨rfl,rfl⟩
     clear cT
     go_wp2
     exact bodyPost_ret (v:=.tuple #[.agg #[.string ⟨#[]⟩,.int .i64 0,.slice none 0 0,.int .i64 0,.int .i64 0,.string ⟨#[]⟩],.iface 35 (.int .i64 8)]) (by simp[results,Tryz.results218,go_sem]) rfl ⟨rfl,alB _ _⟩
    ·rw[if_neg h4] at hE
     subst hE
     obtain⟨e1,e2⟩:=hgood rfl
     rw[if_neg h2] at e2
     rw[e1,e2,show errV 0=.nilIface from rfl]
     have hor:(x.toList == [115,117,109])=false∨((x.toList == [115,117,109])=true∧(k != 1)=false):=by
      by_cases hs:x.data.toList=wSum
      ·have hk1:k=1:=Decidable.not_not.1 (fun hk=>h4 ⟨hs,hk⟩)
       exact .inr ⟨zcy hs,by simpa using hk1⟩
      ·exact .inl (zbq hs)
     have cC:=fun W=>zbj x W (by omega)
     clear hbad hgood h1' henv e1 e2 h2 h3 h4
     rcases hor with hq1|⟨hq1,hk1⟩
     all_goals
      go_enter Tryz.func218,Tryz.ntmps218
      go_wp2_with fail
      refine (cA _).mono ?_
      rintro e w1 ⟨rfl,rfl⟩
      clear cA
      go_wp2_with fail
      refine (cT _).mono ?_
      rintro e w1 ⟨rfl,rfl⟩
      clear cT
      go_wp2_with fail
      refine (cC _).mono ?_
      rintro e w1 ⟨rfl,B2⟩
      clear cC
      have P1:Blk w1 w.heap.size #[.string ⟨#[]⟩,.int .i64 0,.slice none 0 0,.int .i64 0,.int .i64 0,.string ⟨#[]⟩] 292:=(zab w _ _).on B2
      have B3:Below w.heap.size w w1:=B1.trans (B2.mono B1.size)
      clear B2 B1
      go_wp2_with (refine zah rfl 292 _ _ rfl w.heap.size 0 #[.string x,.int .i64 k,.slice none 0 0,.int .i64 0,.int .i64 0,.string ⟨#[]⟩] rfl rfl _ _ P1 (by simp) zbg (zpb _ _ _ _ _ _ _ _) ?_;intro W3 P5 K5)
      have B4:Below w.heap.size w W3:=B3.trans K5.below
      have P6:Blk W3 w.heap.size #[.string x,.int .i64 k,.slice none 0 0,.int .i64 0,.int .i64 0,.string ⟨#[]⟩] 292:=by simpa only[putA,List.setIfInBounds_toArray,List.set_cons_zero,List.set_cons_succ,Nat.reduceAdd] using P5
      have c0:=P6.cell 0
      have c1:=P6.cell 1
      have c2:=P6.cell 2
      have c3:=P6.cell 3
      have c4:=P6.cell 4
      have c5:=P6.cell 5
      simp at c0 c1 c2 c3 c4 c5
      exact bodyPost_ret (v:=.tuple #[.agg #[.string x,.int .i64 k,.slice none 0 0,.int .i64 0,.int .i64 0,.string ⟨#[]⟩],.nilIface]) (by simp[results,Tryz.results218,go_sem,c0,c1,c2,c3,c4,c5]) rfl ⟨rfl,B4⟩
end Go.Proofs.YtbdnccnfidjiaaaGreatDoor
