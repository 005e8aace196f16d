/-
  TreeRA, TreeRB, TreeWk, TreeTg, KdP, KdRule, KdRuleB, TreePl, IntsOpen.
-/
import Derived.Test.YtbdnccnfidjiaaaGreatDoorGyAj
import Derived.Test.YtbdnccnfidjiaaaGreatDoorGyAi
import Derived.Test.YtbdnccnfidjiaaaGreatDoorGyAg
import Derived.Test.YtbdnccnfidjiaaaGreatDoorYAs
import Derived.Laws.Rows
import Derived.Test.YtbdnccnfidjiaaaGreatDoorGyAe
import Derived.Lib.SmallJoins
import Derived.ProofKit
import Derived.OpenShut
import Derived.Deep.SlicePairs
namespace Go.Proofs.YtbdnccnfidjiaaaGreatDoor
open Go.RowKit
set_option linter.unusedVariables false
set_option linter.unusedSimpArgs false
set_option maxHeartbeats 8000000
section
open Go.BigFrame
variable {en : Nat}

theorem zna(args:Array Value)(W:World):Sem.run Tryz.prog (callFunc 264 args) W=.ok (.enter 264 args) W:=by kernel_rfl
theorem zmZ(args:Array Value)(W:World):Sem.run Tryz.prog (callFunc 265 args) W=.ok (.enter 265 args) W:=by kernel_rfl
theorem zfO(w:World)(r:Nat)(ts:List Tok)(h:RdAt en w r ts)(hg:Fit ts)(henv:TEnv w)(hn:nxT vlT ts=none) :
  Calls Tryz.prog 45 #[.pointer (some ⟨r,0,none⟩),.func (.func 264) #[] #[]] w fun e w'=>e=.returned (.tuple #[noTok,.bool false])∧RdAt en w' r ts∧But r w w' :=
 zbX vlT _ _ zna w r ts h (fun t ht W hb=>by simpa using zdK t W (henv.on hb) (hg t ht)) hn
theorem zfP(w:World)(r:Nat)(t:Tok)(ts rs:List Tok)(h:RdAt en w r ts)(hg:Fit ts)(henv:TEnv w)(hn:nxT vlT ts=some (t,rs)) :
  Calls Tryz.prog 45 #[.pointer (some ⟨r,0,none⟩),.func (.func 264) #[] #[]] w fun e w'=>e=.returned (.tuple #[tokV t,.bool true])∧RdAt en w' r rs∧But r w w' :=
 zcK vlT _ _ zna w r t ts rs h (fun t ht W hb=>by simpa using zdK t W (henv.on hb) (hg t ht)) hn
theorem zfM(w:World)(r:Nat)(ts:List Tok)(h:RdAt en w r ts)(hg:Fit ts)(henv:TEnv w)(hn:nxT nmT ts=none) :
  Calls Tryz.prog 45 #[.pointer (some ⟨r,0,none⟩),.func (.func 265) #[] #[]] w fun e w'=>e=.returned (.tuple #[noTok,.bool false])∧RdAt en w' r ts∧But r w w' :=
 zbX nmT _ _ zmZ w r ts h (fun t ht W hb=>by simpa using zdf t W (henv.on hb) (by have:=hg t ht;unfold maxLen;omega)) hn
theorem zfN(w:World)(r:Nat)(t:Tok)(ts rs:List Tok)(h:RdAt en w r ts)(hg:Fit ts)(henv:TEnv w)(hn:nxT nmT ts=some (t,rs)) :
  Calls Tryz.prog 45 #[.pointer (some ⟨r,0,none⟩),.func (.func 265) #[] #[]] w fun e w'=>e=.returned (.tuple #[tokV t,.bool true])∧RdAt en w' r rs∧But r w w' :=
 zcK nmT _ _ zmZ w r t ts rs h (fun t ht W hb=>by simpa using zdf t W (henv.on hb) (by have:=hg t ht;unfold maxLen;omega)) hn
theorem zqD{w:World}{lo:Nat→Prop}{p:Option Addr}{n c:Nat}{xs:List Ex}{op nm vs:ByteArray}{vt vn pos:Int}(h:zaq w lo (.slice p n c) xs)(ho:op.size≤maxLen)(hn:nm.size≤maxLen)(hv:vs.size≤maxLen):ExIn w lo (.agg #[.string op,.string nm,.int .i64 vt,.int .i64 vn,.string vs,.slice p n c,.int .i64 pos]) (.node op nm vt vn vs pos xs):=by
 obtain⟨q,d,e,h1,h2⟩:=h
 injection e with e1 e2 e3
 subst e1 e2 e3
 rw[ExIn]
 exact⟨_,_,rfl,h1,ho,hn,hv,h2⟩
theorem zre{ok:Bool}{xs:List Ex}{o:Option (List Ex)}{F:List Ex→Ex}(h:o=if ok=true then some xs else none):o.map F=if ok=true then some (F xs) else none:=by
 subst h
 cases ok<;>rfl
set_option maxRecDepth 20000 in
theorem ziq(sub:List Tok→Option Ex×List Tok)(ts:List Tok)(hsuf:Suf sub)(hg:Fit ts)(hsub:∀ts',ts' <:+ ts→ts'.length<ts.length→Reads 90 sub ts'):Reads 259 (uOne sub) ts:=by
 intro w r en h henv hr
 have HR:Aside (RdAt en w r ts):=h
 have HE:Aside (TEnv w):=henv
 have HG:Aside (Fit ts):=hg
 have hl:=h.lt
 have HC:Aside (∀ts',ts' <:+ ts→ts'.length<ts.length→Reads 90 sub ts'):=hsub
 clear h henv hg hsub
 have X0:=zap w (.string ⟨#[]⟩) (.string ⟨#[]⟩) (.int .i64 0) (.int .i64 0) (.string ⟨#[]⟩) (.slice none 0 0) (.int .i64 0) 31
 have b0:=(Below.refl w.heap.size w).alloc (Nat.le_refl _) (.cells #[.string ⟨#[]⟩,.string ⟨#[]⟩,.int .i64 0,.int .i64 0,.string ⟨#[]⟩,.slice none 0 0,.int .i64 0] 31)
 have b1:=al (w.alloc (.cells #[.string ⟨#[]⟩,.string ⟨#[]⟩,.int .i64 0,.int .i64 0,.string ⟨#[]⟩,.slice none 0 0,.int .i64 0] 31)) (.cells #[.string ⟨#[108,101,110]⟩,.string ⟨#[105,102]⟩] 9)
 have X1:=X0.on b1
 have cO:=zaw (w.heap.size+1) 2 r lenIf ((w.alloc (.cells #[.string ⟨#[]⟩,.string ⟨#[]⟩,.int .i64 0,.int .i64 0,.string ⟨#[]⟩,.slice none 0 0,.int .i64 0] 31)).alloc (.cells #[.string ⟨#[108,101,110]⟩,.string ⟨#[105,102]⟩] 9)) (by decide) (zau _ _ (by simp) _ _ _ (fun j hj=>match j,hj with
  | 0,_=>rfl
  | 1,_=>rfl)) (by omega) (by simp;omega)
 have b2:=b0.trans (b1.mono (by simp))
 clear X0 b1 b0
 go_enter Tryz.func259,Tryz.ntmps259
 go_wp2_with fail
 refine cO.mono ?_
 rintro e w2 ⟨⟨p,rfl,hp⟩,b3⟩
 have X2:=X1.on b3
 have B2:=b2.trans (b3.mono (by simp;omega))
 have hz2:w.heap.size+2≤w2.heap.size:=by have:=b3.size;simpa using this
 have rd2:=HR.out.on B2
 have BB2:=But.of_below' B2 (r:=r) (by omega)
 clear X1 b2 b3 cO
 cases hn:nxT (sgT lenIf) ts with
 | some y =>
  obtain⟨tt,rs⟩:=y
  have cT:=zan lenIf p w2 r tt ts rs rd2 hp.sign hn
  have hU:=zmI (sub:=sub) hn
  have hmo:=zoT (zal hn).2
  have hts:=HG.out tt (by rw[(zal hn).1];exact List.mem_cons_self)
  have hrs:rs <:+ ts:=by rw[(zal hn).1];exact List.suffix_cons tt rs
  have hrl:rs.length<ts.length:=by rw[(zal hn).1];simp
  have hm3:manyT tt≤3:=by rw[manyT];split<;>omega
  have cB:=fun W h1 h2=>zct (en:=en) sub (manyT tt) hm3 rs hsuf (HG.out.suf hrs) (fun ts' h1 h2=>HC.out ts' (h1.trans hrs) (by omega)) W r h1 h2 hr
  have cA:=fun W h1=>zeX tt.2.1 W h1 _ _ hmo
  generalize manyT tt=mm at cB cA hU hm3
  obtain⟨tk,tx,ta⟩:=tt
  rw[tokV] at cT
  simp only at cT cA hU hts
  clear hn hmo
  go_wp2_with fail
  refine cT.mono ?_
  rintro e w3 ⟨rfl,rd3,b3⟩
  have hz3:=b3.size
  have bb:=al w3 (.cells #[.int .i64 tk,.string tx,.int .i64 (ta:Int)] 78)
  have X3:=(X2.but b3 (by omega)).on bb
  have BB3:=(BB2.trans b3).on bb hl
  have rd3':=rd3.on bb
  clear X2 cT
  go_wp2_with fail
  refine (cA _ (HE.out.but BB3 hr)).mono ?_
  rintro e w4 ⟨rfl,b4⟩
  have X4:=X3.on b4
  have BB4:=BB3.on b4 hl
  have rd4:=rd3'.on b4
  have hz4:w3.heap.size+1≤w4.heap.size:=by have:=b4.size;simpa using this
  have T4:∀i,w4.cell? ⟨w3.heap.size,i,none⟩=(#[.int .i64 tk,.string tx,.int .i64 (ta:Int)]:Array Value)[i]?:=fun i=>by
   rw[b4.cell (p:=⟨w3.heap.size,i,none⟩) (by simp),World.cell?_alloc_at _ _ _ _ rfl]
  clear X3 cA BB3 rd3' bb
  go_wp2_with fail
  refine (cB _ rd4 (HE.out.but BB4 hr)).mono ?_
  rintro e w5 ⟨v,ok,xs,rfl,hx,hrd,hbt,hres⟩
  have hz5:=hbt.out.size
  have X5:=X4.but hbt.out (by omega)
  have BB5:=BB4.trans hbt.out
  have hx':=hx.out
  obtain⟨q5,c5,rfl,hx1,hx2⟩:=hx'
  have g1:w5.cell? ⟨w3.heap.size,1,none⟩=some (.string tx):=by rw[hbt.out.cell _ (by omega) (by omega),T4];rfl
  have g2:w5.cell? ⟨w3.heap.size,2,none⟩=some (.int .i64 (ta:Int)):=by rw[hbt.out.cell _ (by omega) (by omega),T4];rfl
  have hlt5:w3.heap.size<w5.heap.size:=by omega
  obtain⟨c0,c1,c2,c3,c4,c5',c6,cf,cl⟩:=X5
  have rf0:=cf 0
  have rf1:=cf 1
  have rf2:=cf 2
  have rf3:=cf 3
  have rf4:=cf 4
  have rf5:=cf 5
  have rf6:=cf 6
  clear cf T4 X4 cB hx1 hx2
  have hxx:=zqD (op:=tx) (nm:=⟨#[]⟩) (vs:=⟨#[]⟩) (vt:=0) (vn:=0) (pos:=(ta:Int)) hx.out (by unfold maxLen;omega) (by decide) (by decide)
  go_wp2
  refine bodyPost_ret (v:=.tuple #[.agg #[.string tx,.string ⟨#[]⟩,.int .i64 0,.int .i64 0,.string ⟨#[]⟩,.slice q5 xs.length c5,.int .i64 (ta:Int)],.bool ok]) (by simp[results,Tryz.results259,go_sem,c0,c1,c2,c3,c4,c5',c6]) rfl ⟨_,ok,.node tx ⟨#[]⟩ 0 0 ⟨#[]⟩ (ta:Int) xs,rfl,?_,?_,?_,?_⟩
  ·exact ExIn.low (fun b _ (hb:w4.heap.size≤b)=>(show w.heap.size≤b by omega)) _ _ (hxx.set7 (fun b (hb:w4.heap.size≤b)=>by omega) _ _ _ _ _ _ _)
  ·rw[hU];exact hrd.out.set7 (by omega) _ _ _ _ _ _ _
  ·exact BB5.set7 (Nat.le_refl _) (by omega) _ _ _ _ _ _ _
  ·rw[hU];exact zre hres.out
 | none =>
  have cT:=zam lenIf p w2 r ts rd2 hp.sign hn
  rw[noTok] at cT
  go_wp2_with fail
  refine cT.mono ?_
  rintro e w3 ⟨rfl,rd3,b3⟩
  have hz3:=b3.size
  have bb:=al w3 (.cells #[.int .i64 0,.string ⟨#[]⟩,.int .i64 0] 78)
  have X3:=(X2.but b3 (by omega)).on bb
  have BB3:=(BB2.trans b3).on bb hl
  have rd3':=rd3.on bb
  have he3:=HE.out.but BB3 hr
  clear X2 cT
  cases hv:nxT vlT ts with
  | some y =>
   obtain⟨tt,rs⟩:=y
   have cT:=zfP _ r tt ts rs rd3' HG.out he3 hv
   have hU:=zpH (sub:=sub) hn hv
   have hts:=HG.out tt (by rw[(zal hv).1];exact List.mem_cons_self)
   have hvt:=(zal hv).2
   have cV:=fun W (h1:TEnv W)=>zey tt.2.1 W (by omega) h1.env
   rw[vlT] at hvt
   rw[valE] at hU
   obtain⟨tk,tx,ta⟩:=tt
   rw[tokV] at cT
   simp only at cT cV hU hts hvt
   obtain⟨vt,vn,vl,er,hrv⟩:∃vt vn vl er,readV tx=(vt,vn,vl,er):=⟨_,_,_,_,rfl⟩
   rw[hrv] at cV hU hvt
   simp only at hvt
   obtain rfl:er=0:=by simpa using hvt
   rw[readR,errV,if_pos rfl] at cV
   simp only at cV hU
   have hvl:vl.length≤40:=(zkN vt vn vl tx hrv).2.2.1
   have hvl2:(⟨vl.toArray⟩:ByteArray).size≤maxLen:=by show vl.toArray.size≤maxLen;rw[List.size_toArray];unfold maxLen;omega
   generalize (⟨vl.toArray⟩:ByteArray)=vs at cV hU hvl2
   clear hn hv hrv hvt
   go_wp2_with fail
   refine cT.mono ?_
   rintro e w4 ⟨rfl,rd4,b4⟩
   have hz4:w3.heap.size+1≤w4.heap.size:=by have:=b4.size;simpa using this
   have bb4:=al w4 (.cells #[.int .i64 tk,.string tx,.int .i64 (ta:Int)] 78)
   have X4:=(X3.but b4 (by omega)).on bb4
   have BB4:=(BB3.trans b4).on bb4 hl
   have rd4':=rd4.on bb4
   clear X3 cT bb
   go_wp2_with fail
   refine (cV _ (HE.out.but BB4 hr)).mono ?_
   rintro e w5 ⟨rfl,b5⟩
   have hz5:w4.heap.size+1≤w5.heap.size:=by have:=b5.size;simpa using this
   have hlt5:w4.heap.size<w5.heap.size:=by omega
   have g2:w5.cell? ⟨w4.heap.size,2,none⟩=some (.int .i64 (ta:Int)):=by rw[b5.cell (p:=⟨w4.heap.size,2,none⟩) (by simp),World.cell?_alloc_at _ _ _ _ rfl];rfl
   obtain⟨c0,c1,c2,c3,c4,c5,c6,cf,cl⟩:=X4.on b5
   have rf0:=cf 0
   have rf1:=cf 1
   have rf2:=cf 2
   have rf3:=cf 3
   have rf4:=cf 4
   have rf5:=cf 5
   have rf6:=cf 6
   have BB5:=BB4.on b5 hl
   have rd5:=rd4'.on b5
   clear cf X4 cV
   go_wp2
   refine bodyPost_ret (v:=.tuple #[.agg #[.string ⟨#[118,97,108]⟩,.string ⟨#[]⟩,.int .i64 vt,.int .i64 vn,.string vs,.slice none 0 0,.int .i64 (ta:Int)],.bool true]) (by simp[results,Tryz.results259,go_sem,c0,c1,c2,c3,c4,c5,c6,cl]) rfl ⟨_,true,.node ⟨#[118,97,108]⟩ ⟨#[]⟩ vt vn vs (ta:Int) [],rfl,?_,?_,?_,?_⟩
   ·exact zhm (by decide) (by decide) hvl2
   ·rw[hU];exact (rd5.set7 (by omega) _ _ _ _ _ _ _).on (al _ _)
   ·exact (BB5.set7 (Nat.le_refl _) (by omega) _ _ _ _ _ _ _).on (al _ _) hl
   ·rw[hU];exact rfl
  | none =>
   have cT:=zfO _ r ts rd3' HG.out he3 hv
   rw[noTok] at cT
   go_wp2_with fail
   refine cT.mono ?_
   rintro e w4 ⟨rfl,rd4,b4⟩
   have hz4:w3.heap.size+1≤w4.heap.size:=by have:=b4.size;simpa using this
   have bb4:=al w4 (.cells #[.int .i64 0,.string ⟨#[]⟩,.int .i64 0] 78)
   have X4:=(X3.but b4 (by omega)).on bb4
   have BB4:=(BB3.trans b4).on bb4 hl
   have rd4':=rd4.on bb4
   have he4:=HE.out.but BB4 hr
   clear X3 cT bb
   cases hc:nxT nmT ts with
   | some y =>
    obtain⟨tt,rs⟩:=y
    have cT:=zfN _ r tt ts rs rd4' HG.out he4 hc
    have hU:=zpF (sub:=sub) hn hv hc
    have hts:=HG.out tt (by rw[(zal hc).1];exact List.mem_cons_self)
    rw[colE1] at hU
    obtain⟨tk,tx,ta⟩:=tt
    rw[tokV] at cT
    simp only at cT hU hts
    clear hn hv hc
    go_wp2_with fail
    refine cT.mono ?_
    rintro e w5 ⟨rfl,rd5,b5⟩
    have hz5:w4.heap.size+1≤w5.heap.size:=by have:=b5.size;simpa using this
    obtain⟨c0,c1,c2,c3,c4,c5,c6,cf,cl⟩:=X4.but b5 (by omega)
    have rf0:=cf 0
    have rf1:=cf 1
    have rf2:=cf 2
    have rf3:=cf 3
    have rf4:=cf 4
    have rf5:=cf 5
    have rf6:=cf 6
    have BB5:=BB4.trans b5
    clear cf X4
    go_wp2
    refine bodyPost_ret (v:=.tuple #[.agg #[.string ⟨#[99,111,108]⟩,.string tx,.int .i64 0,.int .i64 0,.string ⟨#[]⟩,.slice none 0 0,.int .i64 (ta:Int)],.bool true]) (by simp[results,Tryz.results259,go_sem,c0,c1,c2,c3,c4,c5,c6,cl]) rfl ⟨_,true,.node ⟨#[99,111,108]⟩ tx 0 0 ⟨#[]⟩ (ta:Int) [],rfl,?_,?_,?_,?_⟩
    ·exact zhm (by decide) (by unfold maxLen;omega) (by decide)
    ·rw[hU];exact (rd5.set7 (by omega) _ _ _ _ _ _ _).on (al _ _)
    ·exact (BB5.set7 (Nat.le_refl _) (by omega) _ _ _ _ _ _ _).on (al _ _) hl
    ·rw[hU];exact rfl
   | none =>
    have cT:=zfM _ r ts rd4' HG.out he4 hc
    have HU:Hid (uOne sub ts=((uBr sub 1 [] ts).1.bind List.head?,(uBr sub 1 [] ts).2)):=zsw (sub:=sub) hn hv hc
    rw[noTok] at cT
    clear hn hv hc
    go_wp2_with fail
    refine cT.mono ?_
    rintro e w5 ⟨rfl,rd5,b5⟩
    have hz5:w4.heap.size+1≤w5.heap.size:=by have:=b5.size;simpa using this
    have bb5:=al w5 (.cells #[.int .i64 0,.string ⟨#[]⟩,.int .i64 0] 78)
    have X5:=(X4.but b5 (by omega)).on bb5
    have BB5:=(BB4.trans b5).on bb5 hl
    have rd5':=rd5.on bb5
    have cB:=zct sub 1 (by decide) ts hsuf HG.out HC.out _ r rd5' (HE.out.but BB5 hr) hr
    clear X4 cT bb4
    go_wp2_with fail
    refine cB.mono ?_
    rintro e w6 ⟨v,ok,xs,rfl,hx,hrd,hbt,hres⟩
    have hz6:w5.heap.size+1≤w6.heap.size:=by have:=hbt.out.size;simpa using this
    obtain⟨c0,c1,c2,c3,c4,c5,c6,cf,cl⟩:=X5.but hbt.out (by omega)
    have rf0:=cf 0
    have rf1:=cf 1
    have rf2:=cf 2
    have rf3:=cf 3
    have rf4:=cf 4
    have rf5:=cf 5
    have rf6:=cf 6
    have BB6:=BB5.trans hbt.out
    clear cf X5 cB
    cases ok
    ·obtain⟨q5,e5,rfl,_,_⟩:=hx.out
     have HU2:Hid (uOne sub ts=(none,(uBr sub 1 [] ts).2)):=by show _=_;rw[HU.out,hres.out];rfl
     go_wp2
     refine bodyPost_ret (v:=.tuple #[.agg #[.string ⟨#[]⟩,.string ⟨#[]⟩,.int .i64 0,.int .i64 0,.string ⟨#[]⟩,.slice none 0 0,.int .i64 0],.bool false]) (by simp[results,Tryz.results259,go_sem,c0,c1,c2,c3,c4,c5,c6]) rfl ⟨_,false,ex0,rfl,?_,?_,?_,?_⟩
     ·exact zfk _ _
     ·rw[HU2.out];exact hrd.out.set7 (by omega) _ _ _ _ _ _ _
     ·exact BB6.set7 (Nat.le_refl _) (by omega) _ _ _ _ _ _ _
     ·rw[HU2.out];exact rfl
    ·have hlen:=znz 1 [] ts xs hres.out
     obtain⟨x,rfl⟩:∃x,xs=[x]:=by
      match xs,hlen with
      | [x],_=>exact⟨x,rfl⟩
     obtain⟨q5,e5,rfl,_,h7⟩:=hx.out
     have HU2:Hid (uOne sub ts=(some x,(uBr sub 1 [] ts).2)):=by show _=_;rw[HU.out,hres.out];rfl
     rcases h7 with h7|⟨gb,go,rfl,hgl,hglo,h7⟩
     ·simp at h7
     rw[ExsIn] at h7
     obtain⟨⟨v0,v1,v2,v3,v4,v5,v6,e0,e1,e2,e3,e4,e5',e6,hxx⟩,_⟩:=h7
     obtain⟨u0,u1,u2,u3,u4,u5,u6,u7,u8,huu⟩:=hxx.agg
     injection huu with huu
     simp only[Array.mk.injEq,List.cons.injEq,and_true] at huu
     obtain⟨rfl,rfl,rfl,rfl,rfl,rfl,rfl⟩:=huu
     go_wp2
     refine bodyPost_ret (v:=.tuple #[.agg #[.string u0,.string u1,.int .i64 u2,.int .i64 u3,.string u4,.slice u5 u6 u7,.int .i64 u8],.bool true]) (by simp[results,Tryz.results259,go_sem,c0,c1,c2,c3,c4,c5,c6]) rfl ⟨_,true,x,rfl,?_,?_,?_,?_⟩
     ·exact ExIn.low (fun b _ hb=>(show w.heap.size≤b by simp at hb;omega)) _ _ (hxx.set7 (fun b hb=>by simp at hb;omega) _ _ _ _ _ _ _)
     ·rw[HU2.out];exact hrd.out.set7 (by omega) _ _ _ _ _ _ _
     ·exact BB6.set7 (Nat.le_refl _) (by omega) _ _ _ _ _ _ _
     ·rw[HU2.out];exact rfl
end
section
open Go.BigFrame
theorem zhL:∀(f:Nat) (ts:List Tok),Fit ts →
  (ts.length*8+7<f→Reads 90 (uE f 0) ts) ∧
  (ts.length*8+6<f→Reads 119 (uE f 1) ts) ∧
  (ts.length*8+5<f→Reads 151 (uE f 2) ts) ∧
  (ts.length*8+4<f→Reads 180 (uE f 3) ts) ∧
  (ts.length*8+3<f→Reads 206 (uE f 4) ts) ∧
  (ts.length*8+2<f→Reads 226 (uE f 5) ts) ∧
  (ts.length*8+1<f→Reads 242 (uE f 6) ts) ∧
  (ts.length*8<f→Reads 259 (uE f 7) ts)
 | 0,ts,hg=>⟨fun h=>absurd h (by omega),fun h=>absurd h (by omega),fun h=>absurd h (by omega),fun h=>absurd h (by omega),fun h=>absurd h (by omega),fun h=>absurd h (by omega),fun h=>absurd h (by omega),fun h=>absurd h (by omega)⟩
 | f+1,ts,hg=>by
  have ih:=fun ts' (hs:ts' <:+ ts)=>zhL f ts' (hg.suf hs)
  have e0:uE (f+1) 0=uSev (uE f 1) [[111,114]]:=funext fun ts=>by rw[uE]
  have e1:uE (f+1) 1=uSev (uE f 2) [[97,110,100]]:=funext fun ts=>by rw[uE]
  have e2:uE (f+1) 2=zbZ [110,111,116] [[110,111,116]] (uE f 2) (uE f 3):=funext fun ts=>by rw[uE]
  have e3:uE (f+1) 3=uCmp (uE f 4):=funext fun ts=>by rw[uE]
  have e4:uE (f+1) 4=uSev (uE f 5) [[43],[45]]:=funext fun ts=>by rw[uE]
  have e5:uE (f+1) 5=uSev (uE f 6) [[42],[47],[37]]:=funext fun ts=>by rw[uE]
  have e6:uE (f+1) 6=zbZ [110,101,103] [[45]] (uE f 6) (uE f 7):=funext fun ts=>by rw[uE]
  have e7:uE (f+1) 7=uOne (uE f 0):=funext fun ts=>by rw[uE]<;>simp
  rw[e0,e1,e2,e3,e4,e5,e6,e7]
  refine⟨fun h=>?_,fun h=>?_,fun h=>?_,fun h=>?_,fun h=>?_,fun h=>?_,fun h=>?_,fun h=>?_⟩
  ·exact zef _ ts (zfS f 1) hg fun ts' hs=>(ih ts' hs).2.1 (by have:=hs.length_le;omega)
  ·exact zds _ ts (zfS f 2) hg fun ts' hs=>(ih ts' hs).2.2.1 (by have:=hs.length_le;omega)
  ·exact zjr _ _ ts hg (fun t rs e=>(ih rs (by rw[e];exact List.suffix_cons t rs)).2.2.1 (by rw[e,List.length_cons] at h;omega)) ((ih ts List.suffix_rfl).2.2.2.1 (by omega))
  ·exact zec _ ts (zfS f 4) hg fun ts' hs=>(ih ts' hs).2.2.2.2.1 (by have:=hs.length_le;omega)
  ·exact zsh _ ts (zfS f 5) hg fun ts' hs=>(ih ts' hs).2.2.2.2.2.1 (by have:=hs.length_le;omega)
  ·exact ziu _ ts (zfS f 6) hg fun ts' hs=>(ih ts' hs).2.2.2.2.2.2.1 (by have:=hs.length_le;omega)
  ·exact zgD _ _ ts hg (fun t rs e=>(ih rs (by rw[e];exact List.suffix_cons t rs)).2.2.2.2.2.2.1 (by rw[e,List.length_cons] at h;omega)) ((ih ts List.suffix_rfl).2.2.2.2.2.2.2 (by omega))
  ·exact ziq _ ts (zfS f 0) hg fun ts' hs hl=>(ih ts' hs).1 (by omega)
theorem zcU(ts:List Tok)(hg:Fit ts):Reads 90 (uE (ts.length*8+8) 0) ts:=(zhL _ ts hg).1 (by omega)
end
section
open Go.BigFrame
mutual
def Ex.pre(d:Nat):Ex→List (Ex×Nat)
 | .node op nm vt vn vs pos l=>(.node op nm vt vn vs pos l,d)::Ex.pres (d+1) l
def Ex.pres(d:Nat):List Ex→List (Ex×Nat)
 | []=>[]
 | x::xs=>x.pre d++Ex.pres d xs
end
theorem zrF(d:Nat)(x:Ex):x.pre d=(x,d)::Ex.pres (d+1) x.args:=by cases x;rw[Ex.pre,Ex.args]
def flatR:List (List Ex)→List (Ex×Nat)
 | []=>[]
 | l::rest=>Ex.pres (rest.length+1) l++flatR rest
def flatB(st:List (List Ex)):List (Ex×Nat):=flatR st.reverse
theorem zaM(st:List (List Ex))(l:List Ex):flatB (st++[l])=Ex.pres (st.length+1) l++flatB st:=by
 rw[flatB,List.reverse_append]
 simp[flatR,flatB]
theorem zcF(st:List (List Ex)):flatB (st++[[]])=flatB st:=by rw[zaM,Ex.pres,List.nil_append]
theorem zbK(st:List (List Ex))(x:Ex)(xs:List Ex):flatB (st++[x::xs])=(x,st.length+1)::flatB (st++[xs]++[x.args]):=by
 rw[zaM,zaM,zaM,Ex.pres,zrF,List.length_append,List.length_singleton,List.cons_append,List.cons_append,List.append_assoc]
variable {σ : Type}
def foldP(F:σ→Ex→Nat→σ×Bool):σ→List (Ex×Nat)→σ×Bool
 | s,[]=>(s,true)
 | s,q::r=>if (F s q.1 q.2).2=true then foldP F (F s q.1 q.2).1 r else ((F s q.1 q.2).1,false)
def costB(st:List (List Ex)):Nat:=st.length+2*(flatB st).length
theorem zlJ(st:List (List Ex)):costB (st++[[]])=costB st+1:=by
 rw[costB,costB,zcF,List.length_append,List.length_singleton];omega
theorem zjp(st:List (List Ex))(x:Ex)(xs:List Ex):costB (st++[x::xs])=costB (st++[xs]++[x.args])+1:=by
 rw[costB,costB,zbK];simp only[List.length_append,List.length_cons,List.length_nil];omega
def StkIn(w:World)(lo:Nat→Prop)(vs:List Value)(st:List (List Ex)):Prop:=vs.length=st.length∧∀j (h:j<st.length) (h2:j<vs.length),zaq w lo vs[j] st[j]
theorem ExsIn.keep'{w w':World}{lo:Nat→Prop}(hz:w.heap.size≤w'.heap.size)(hk:∀b o:Nat,lo b→b<w.heap.size→w'.cell? ⟨b,o,none⟩=w.cell? ⟨b,o,none⟩){b:Nat}(hb:b<w.heap.size)(hlo:lo b){off:Nat}{xs:List Ex}(h:ExsIn w lo b off xs):ExsIn w' lo b off xs:=by
 refine zby _ _ _ _ _ fun j hj=>?_
 obtain⟨v0,v1,v2,v3,v4,v5,v6,e0,e1,e2,e3,e4,e5,e6,hx⟩:=zcj w lo b xs off h j hj
 have key:∀o:Nat,w'.cell? ⟨b,o,none⟩=w.cell? ⟨b,o,none⟩:=fun o=>hk b o hlo hb
 exact⟨v0,v1,v2,v3,v4,v5,v6,by rw[key];exact e0,by rw[key];exact e1,by rw[key];exact e2,by rw[key];exact e3,by rw[key];exact e4,by rw[key];exact e5,by rw[key];exact e6,hx.keep hz hk⟩
theorem zaq.keep{w w':World}{lo:Nat→Prop}(hz:w.heap.size≤w'.heap.size)(hk:∀b o:Nat,lo b→b<w.heap.size→w'.cell? ⟨b,o,none⟩=w.cell? ⟨b,o,none⟩){v:Value}{xs:List Ex}(h:zaq w lo v xs):zaq w' lo v xs:=by
 obtain⟨p,c,e,h1,h2⟩:=h
 refine⟨p,c,e,h1,?_⟩
 rcases h2 with h2|⟨b,off,e2,hb,hlo,h3⟩
 ·exact .inl h2
 ·exact .inr ⟨b,off,e2,by omega,hlo,h3.keep' hz hk hb hlo⟩
theorem StkIn.keep{w w':World}{lo:Nat→Prop}(hz:w.heap.size≤w'.heap.size)(hk:∀b o:Nat,lo b→b<w.heap.size→w'.cell? ⟨b,o,none⟩=w.cell? ⟨b,o,none⟩){vs:List Value}{st:List (List Ex)}(h:StkIn w lo vs st):StkIn w' lo vs st:=⟨h.1,fun j h1 h2=>(h.2 j h1 h2).keep hz hk⟩
theorem StkIn.front{w:World}{lo:Nat→Prop}{vs:List Value}{v:Value}{st:List (List Ex)}{l:List Ex}(h:StkIn w lo (vs++[v]) (st++[l])):StkIn w lo vs st∧zaq w lo v l:=by
 have hl:vs.length=st.length:=by have:=h.1;simpa using this
 refine⟨⟨hl,fun j h1 h2=>?_⟩,?_⟩
 ·have:=h.2 j (by rw[List.length_append];omega) (by rw[List.length_append];omega)
  rwa [List.getElem_append_left h2,List.getElem_append_left h1] at this
 ·have:=h.2 st.length (by simp) (by simp;omega)
  rw[List.getElem_append_right (by omega),List.getElem_append_right (Nat.le_refl _)] at this
  simpa [hl] using this
theorem StkIn.snoc{w:World}{lo:Nat→Prop}{vs:List Value}{v:Value}{st:List (List Ex)}{l:List Ex}(h:StkIn w lo vs st)(hv:zaq w lo v l):StkIn w lo (vs++[v]) (st++[l]):=by
 refine⟨by simp[h.1],fun j h1 h2=>?_⟩
 by_cases hj:j<st.length
 ·rw[List.getElem_append_left (by rw[h.1];exact hj),List.getElem_append_left hj];exact h.2 j hj (by rw[h.1];exact hj)
 ·have:j=st.length:=by rw[List.length_append,List.length_singleton] at h1;omega
  subst this
  rw[List.getElem_append_right (by rw[h.1];exact Nat.le_refl _),List.getElem_append_right (Nat.le_refl _)]
  simpa [h.1] using hv
theorem zaq.tail{w:World}{lo:Nat→Prop}{p p':Option Addr}{n c c':Nat}{x:Ex}{xs:List Ex}(h:zaq w lo (.slice p n c) (x::xs))(hp:p'=if c=1 then p else p.map (·.add (1*7)))(hc:c'=c-1):zaq w lo (.slice p' xs.length c') xs:=by
 obtain⟨q,d,e,⟨h1,h2⟩,h3⟩:=h
 injection e with e1 e2 e3
 subst e1 e3
 simp only[List.length_cons] at h1 h2
 refine⟨p',c',rfl,⟨by omega,by omega⟩,?_⟩
 rcases Nat.eq_zero_or_pos xs.length with h0|h0
 ·exact .inl h0
 ·rcases h3 with h3|⟨b,off,rfl,hb,hlo,h3⟩
  ·simp at h3
  ·rw[ExsIn] at h3
   refine .inr ⟨b,off+7,?_,hb,hlo,h3.2⟩
   rw[hp,if_neg (by omega)];rfl
theorem ExIn.args{w:World}{lo:Nat→Prop}{a0 a1 a2 a3 a4 a5 a6:Value}{x:Ex}(h:ExIn w lo (.agg #[a0,a1,a2,a3,a4,a5,a6]) x):zaq w lo a5 x.args:=by
 cases x with
 | node op nm vt vn vs pos l =>
  rw[ExIn] at h
  obtain⟨p,c,e,h1,_,_,_,h5⟩:=h
  injection e with e
  simp only[Array.mk.injEq,List.cons.injEq,and_true] at e
  obtain⟨rfl,rfl,rfl,rfl,rfl,rfl,rfl⟩:=e
  exact⟨p,c,rfl,h1,h5⟩
theorem zrA{W:World}{B:Nat}{e:TypeId}{g cap:Nat}{vs:List Value}{v:Value}(h:W.ownsRow B e 1 (.slice (some ⟨g,0,none⟩) (vs++[v]).length cap) (vs++[v]).length (vs++[v])):W.ownsRow B e 1 (.slice (some ⟨g,0,none⟩) vs.length cap) vs.length vs:=by
 refine⟨by omega,.inr ?_⟩
 rcases h.2 with ⟨e1,_⟩|⟨g',cap',cur,e1,hb,hg,hn,hm,hs,ht⟩
 ·injection e1 with e1;simp at e1
 ·injection e1 with e1 e2 e3
  injection e1 with e1
  injection e1 with e1
  subst e1 e3
  rw[List.length_append,List.length_singleton] at hn
  refine⟨_,_,cur,rfl,hb,hg,by omega,hm,hs,?_⟩
  have h3:List.take (vs.length*1) cur.toList=List.take (vs.length*1) (vs++[v]):=by
   rw[←ht,List.take_take,List.length_append,List.length_singleton]
   congr 1
   omega
  rw[h3]
  simp
theorem zrC{W:World}{B:Nat}{e:TypeId}{g cap:Nat}{vs:List Value}{v:Value}(h:W.ownsRow B e 1 (.slice (some ⟨g,0,none⟩) (vs++[v]).length cap) (vs++[v]).length (vs++[v])):W.cell? ⟨g,vs.length,none⟩=some v∧W.frozen? ⟨g,vs.length,none⟩=false∧g<W.heap.size∧B≤g∧vs.length+1≤cap:=by
 rcases h.2 with ⟨e1,_⟩|⟨g',cap',cur,e1,hb,hg,hn,hm,hs,ht⟩
 ·injection e1 with e1;simp at e1
 ·injection e1 with e1 e2 e3
  injection e1 with e1
  injection e1 with e1
  subst e1 e3
  rw[List.length_append,List.length_singleton] at hn
  refine⟨?_,by simp[World.frozen?,hg],(Array.getElem?_eq_some_iff.1 hg).1,hb,hn⟩
  have h1:=h.cells (g:=g) rfl vs.length v (by simp)
  rw[Go.WideShapes.add_plain] at h1
  simpa using h1
theorem zrB{W:World}{B:Nat}{e:TypeId}{g cap:Nat}{vs:List Value}{v u:Value}(h:W.ownsRow B e 1 (.slice (some ⟨g,0,none⟩) (vs++[v]).length cap) (vs++[v]).length (vs++[v])):(W.setCell ⟨g,vs.length,none⟩ u).ownsRow B e 1 (.slice (some ⟨g,0,none⟩) (vs++[u]).length cap) (vs++[u]).length (vs++[u]):=by
 refine⟨by omega,.inr ?_⟩
 rcases h.2 with ⟨e1,_⟩|⟨g',cap',cur,e1,hb,hg,hn,hm,hs,ht⟩
 ·injection e1 with e1;simp at e1
 ·injection e1 with e1 e2 e3
  injection e1 with e1
  injection e1 with e1
  subst e1 e3
  rw[List.length_append,List.length_singleton] at hn
  refine⟨g,cap,cur.setIfInBounds vs.length u,rfl,hb,?_,by rw[List.length_append,List.length_singleton];omega,hm,by simpa using hs,?_⟩
  ·rw[setCell_eq_setRow W g vs.length cur e (0,0) u hg]
   exact setRow_heap W g cur _ e _ hg
  ·rw[List.length_append,List.length_singleton] at ht ⊢
   rw[Array.toList_setIfInBounds]
   simp only[Nat.mul_one] at ht ⊢
   rw[List.take_set,ht]
   simp
theorem zqY:(Tryz.prog.info? 29).map (fun i=>(i.zero,i.size,i.bytes))=some (some (.slice none 0 0),1,24):=by kernel_rfl
def Wlo(p n:Nat)(b:Nat):Prop:=b≠p∧b<n
set_option maxRecDepth 20000 in
theorem zlq(F:σ→Ex→Nat→σ×Bool)(f:FuncId)(hent:∀(args:Array Value) (W:World),Sem.run Tryz.prog (callFunc f args) W=.ok (.enter f args) W)(p:Nat)(St:World→σ→Nat→Prop)(End:World→σ→Prop)(lo:Nat→Prop)(w:World)(v:Value)(x:Ex)(s:σ)
  (hp:p<w.heap.size)(hx:ExIn w lo v x)(hlo:∀b,lo b→b<w.heap.size→b≠p)(hsz:(x.pre 1).length≤1048576)
  (hso:∀(W:World) (v:Value) (x:Ex) (d:Nat) (s:σ) (m:Nat),w.heap.size≤W.heap.size→ExIn W (Wlo p (w.heap.size+2)) v x→d≤1048577→St W s (m+1)→Calls Tryz.prog f #[v,.int .i64 (d:Int),.pointer (some ⟨p,0,none⟩)] W fun e w'=>e=.returned (.bool (F s x d).2)∧((F s x d).2=true→St w' (F s x d).1 m)∧((F s x d).2=false→End w' (F s x d).1)∧But p W w')
  (hst:∀W W' s m,Below w.heap.size W W'→W.heap.size≤W'.heap.size→St W s m→St W' s m)(h0:St w s (x.pre 1).length) :
  Calls Tryz.prog 29 #[v,.func (.func f) #[] #[.pointer (some ⟨p,0,none⟩)]] w fun e w'=>e=.returned (.bool (foldP F s (x.pre 1)).2)∧((foldP F s (x.pre 1)).2=true→St w' (foldP F s (x.pre 1)).1 0)∧((foldP F s (x.pre 1)).2=false→End w' (foldP F s (x.pre 1)).1)∧But p w w':=by
 obtain⟨o1,n1,t1,k1,s1,p1,m1,c1,a1,rfl⟩:=hx.agg
 obtain⟨i0,hi,hz0,hz1,hzz⟩:=info_parts zqY
 have HX:Aside (ExIn w (Wlo p (w.heap.size+2)) (.agg #[.string o1,.string n1,.int .i64 t1,.int .i64 k1,.string s1,.slice p1 m1 c1,.int .i64 a1]) x):=ExIn.low (fun b h1 h2=>⟨hlo b h2 h1,by omega⟩) _ _ hx
 have HO:Aside (∀(W:World) (v:Value) (x:Ex) (d:Nat) (s:σ) (m:Nat),w.heap.size≤W.heap.size→ExIn W (Wlo p (w.heap.size+2)) v x→d≤1048577→St W s (m+1)→Calls Tryz.prog f #[v,.int .i64 (d:Int),.pointer (some ⟨p,0,none⟩)] W fun e w'=>e=.returned (.bool (F s x d).2)∧((F s x d).2=true→St w' (F s x d).1 m)∧((F s x d).2=false→End w' (F s x d).1)∧But p W w'):=hso
 have HT:Aside (∀W W' s m,Below w.heap.size W W'→W.heap.size≤W'.heap.size→St W s m→St W' s m):=hst
 have HS:Aside (St w s (x.pre 1).length):=h0
 obtain⟨T,hT⟩:∃T,foldP F s (x.pre 1)=T:=⟨_,rfl⟩
 have HF:Hid (foldP F s (x.pre 1)=T):=hT
 rw[hT]
 have HZ:Hid ((x.pre 1).length≤1048576):=hsz
 clear hx hso hst h0 hT hlo hsz
 have b1:Below w.heap.size w _:=((al w (.cells #[.string o1,.string n1,.int .i64 t1,.int .i64 k1,.string s1,.slice p1 m1 c1,.int .i64 a1] 31)).trans ((al _ (.cells #[.string o1,.string n1,.int .i64 t1,.int .i64 k1,.string s1,.slice p1 m1 c1,.int .i64 a1] 31)).mono (by simp))).trans ((al _ (.cells #[.slice (some ⟨w.heap.size+1,0,none⟩) 1 1] 29)).mono (by simp;omega))
 go_enter Tryz.func29,Tryz.ntmps29
 go_wp2
 go_loopg [5,6,7] (2*(x.pre 1).length+2) (fun gg s5 _ _ wr=>∃(st:List (List Ex)) (vs:List Value) (s':σ) (q:Option Addr) (c:Nat),s5=.slice q vs.length c∧Hid (costB st<gg∧st.length+(flatB st).length≤1048577)∧Aside (wr.ownsRow (w.heap.size+2) 29 1 (.slice q vs.length c) vs.length vs)∧Aside (StkIn wr (Wlo p (w.heap.size+2)) vs st)∧Aside (St wr s' (flatB st).length)∧Aside (But p w wr)∧Hid (foldP F s' (flatB st)=T))
 case atStart =>
  refine⟨[[x]],[.slice (some ⟨w.heap.size+1,0,none⟩) 1 1],s,some ⟨w.heap.size+2,0,none⟩,1,rfl,?_,?_,?_,?_,?_,?_⟩
  ·show _∧_
   have h1:=HZ.out
   have h2:flatB [[x]]=x.pre 1:=by rw[show ([[x]]:List (List Ex))=[]++[[x]] from rfl,zaM,Ex.pres,Ex.pres,List.append_nil];simp[flatB,flatR]
   rw[costB,h2]
   simp only[List.length_singleton]
   omega
  ·refine⟨rfl,.inr ⟨w.heap.size+2,1,#[.slice (some ⟨w.heap.size+1,0,none⟩) 1 1],rfl,Nat.le_refl _,?_,Nat.le_refl _,by decide,rfl,rfl⟩⟩
   rw[show w.heap.size+2=((w.alloc (.cells #[.string o1,.string n1,.int .i64 t1,.int .i64 k1,.string s1,.slice p1 m1 c1,.int .i64 a1] 31)).alloc (.cells #[.string o1,.string n1,.int .i64 t1,.int .i64 k1,.string s1,.slice p1 m1 c1,.int .i64 a1] 31)).heap.size by simp]
   exact heap_alloc_new _ _
  ·refine⟨rfl,fun j h1 h2=>?_⟩
   obtain rfl:j=0:=by simp at h1;exact h1
   refine⟨some ⟨w.heap.size+1,0,none⟩,1,rfl,⟨by simp[maxLen],by simp⟩,.inr ⟨w.heap.size+1,0,rfl,by simp,⟨by omega,by omega⟩,?_⟩⟩
   simp only[List.getElem_cons_zero]
   rw[ExsIn,ExsIn]
   have hc:∀i,((((w.alloc (.cells #[.string o1,.string n1,.int .i64 t1,.int .i64 k1,.string s1,.slice p1 m1 c1,.int .i64 a1] 31)).alloc (.cells #[.string o1,.string n1,.int .i64 t1,.int .i64 k1,.string s1,.slice p1 m1 c1,.int .i64 a1] 31)).alloc (.cells #[.slice (some ⟨w.heap.size+1,0,none⟩) 1 1] 29)).cell? ⟨w.heap.size+1,i,none⟩)=(#[.string o1,.string n1,.int .i64 t1,.int .i64 k1,.string s1,.slice p1 m1 c1,.int .i64 a1]:Array Value)[i]?:=fun i=>by
    rw[World.cell?_alloc_past _ _ _ (by simp),World.cell?_alloc_at _ _ _ _ (by simp)]
   refine⟨⟨_,_,_,_,_,_,_,?_,?_,?_,?_,?_,?_,?_,HX.out.on b1⟩,trivial⟩
   all_goals (rw[hc];rfl)
  ·have h2:flatB [[x]]=x.pre 1:=by rw[show ([[x]]:List (List Ex))=[]++[[x]] from rfl,zaM,Ex.pres,Ex.pres,List.append_nil];simp[flatB,flatR]
   rw[h2]
   exact HT.out _ _ _ _ b1 b1.size HS.out
  ·exact But.of_below' b1 (by omega)
  ·have h2:flatB [[x]]=x.pre 1:=by rw[show ([[x]]:List (List Ex))=[]++[[x]] from rfl,zaM,Ex.pres,Ex.pres,List.append_nil];simp[flatB,flatR]
   rw[h2]
   exact HF
 case round =>
  obtain⟨st,vs,s',q,c,rfl,HB,OW,SK,SS,BW,HF2⟩:=hrel
  clear HS HX HF b1
  have hz:=BW.out.size
  have hlen:=SK.out.1
  rcases List.eq_nil_or_concat st with rfl|⟨st',l,rfl⟩
  ·obtain rfl:vs=[]:=List.eq_nil_of_length_eq_zero hlen
   have HT2:Hid ((s',true)=T):=HF2.out
   go_wp2
   go_ret
   have hT:=HT2.out
   subst hT
   exact⟨rfl,fun _=>SS.out,fun h=>absurd h (by simp),BW.out⟩
  ·obtain⟨vs',v,rfl⟩:∃vs' v,vs=vs'++[v]:=by
    rcases List.eq_nil_or_concat vs with rfl|⟨vs',v,rfl⟩
    ·simp at hlen
    ·exact⟨vs',v,by simp⟩
   simp only[List.concat_eq_append] at *
   obtain⟨SK1,AI⟩:=SK.out.front
   obtain⟨g,rfl⟩:∃g,q=some ⟨g,0,none⟩:=by
    rcases OW.out.2 with ⟨e1,_⟩|⟨g,_,_,e1,_⟩
    ·injection e1 with e1 e2;simp at e2
    ·injection e1 with e1;exact⟨g,e1⟩
   obtain⟨ct,cf,gl,gB,gc⟩:=zrC OW.out
   have hAI:=AI
   obtain⟨pa,ca,rfl,⟨hm1,hm2⟩,hA⟩:=hAI
   have hN:vs'.length≤1048576:=by
    have h1:=HB.out.2
    rw[List.length_append,List.length_singleton] at h1
    simp only[List.length_append,List.length_singleton] at hlen
    omega
   have HL:Hid (vs'.length=st'.length):=by simp only[List.length_append,List.length_singleton] at hlen;exact (by omega:vs'.length=st'.length)
   have hNz:(vs'.length:Int)≤1048576:=by omega
   have hN0:(0:Int)≤(vs'.length:Int):=by omega
   have hlenz:(((vs'++[Value.slice pa l.length ca]).length:Nat):Int)=(vs'.length:Int)+1:=by simp
   clear hlen
   cases l with
   | nil =>
    have ow:=zrA OW.out
    have HB2:Hid (costB st'<gk-1∧st'.length+(flatB st').length≤1048577∧0<gk):=by
     show _∧_
     have h1:=HB.out
     rw[zlJ,zcF,List.length_append,List.length_singleton] at h1
     omega
    have HF3:Hid (foldP F s' (flatB st')=T):=by show _=_;rw[←HF2.out,zcF]
    have SS2:Aside (St wr s' (flatB st').length):=by show St _ _ _;rw[←zcF];exact SS.out
    clear OW SK AI HB HF2 SS hA
    simp only[List.length_nil] at ct cf hm1 hm2
    go_wp2
    go_roundg (gk-1)
    case measure=>have:=HB2.out;omega
    case rel=>exact⟨st',vs',s',_,c,rfl,(show Hid _ from ⟨HB2.out.1,HB2.out.2.1⟩),(show Aside _ from ow),(show Aside _ from SK1),SS2,BW,HF3⟩
   | cons y ys =>
    rcases hA with hA|⟨b,off,rfl,hbl,hblo,hA⟩
    ·simp at hA
    rw[ExsIn] at hA
    obtain⟨⟨v0,v1,v2,v3,v4,v5,v6,e0,e1,e2,e3,e4,e5,e6,hy⟩,_⟩:=hA
    obtain⟨u0,u1,u2,u3,u4,u5,u6,u7,u8,huu⟩:=hy.agg
    injection huu with huu
    simp only[Array.mk.injEq,List.cons.injEq,and_true] at huu
    obtain⟨rfl,rfl,rfl,rfl,rfl,rfl,rfl⟩:=huu
    have hbg:b≠g:=by have:=hblo.2;omega
    have hAr:=hy.args
    have HB2:Hid (costB (st'++[ys]++[y.args])<gk-1∧(st'++[ys]++[y.args]).length+(flatB (st'++[ys]++[y.args])).length≤1048577∧0<gk):=by
     show _∧_
     have h1:=HB.out
     rw[zjp,zbK] at h1
     simp only[List.length_append,List.length_cons,List.length_nil] at h1 ⊢
     omega
    have HF3:Hid (foldP F s' ((y,vs'.length+1)::flatB (st'++[ys]++[y.args]))=T):=by show _=_;rw[←HF2.out,zbK,HL.out]
    have SS2:St wr s' ((flatB (st'++[ys]++[y.args])).length+1):=by have:=SS.out;rw[zbK,List.length_cons] at this;exact this
    have hdz:((vs'.length+1:Nat):Int)=(vs'.length:Int)+1:=by omega
    have OP:=fun u=>zrB (u:=u) OW.out
    clear HB HF2 SS SK OW
    by_cases hca:ca=1
    ·subst hca
     have AT:=AI.tail (p':=some ⟨b,off,none⟩) (c':=0) (by simp) (by omega)
     have ow1:=OP (.slice (some ⟨b,off,none⟩) ys.length (0))
     have bw1:Below (w.heap.size+2) wr ((wr.setCell ⟨g,vs'.length,none⟩ (.slice (some ⟨b,off,none⟩) ys.length (0))).alloc (.cells #[.string u0,.string u1,.int .i64 u2,.int .i64 u3,.string u4,.slice u5 u6 u7,.int .i64 u8] 31)):=((Below.refl _ wr).setCell (p:=⟨g,vs'.length,none⟩) gB _).alloc (by simp[World.setCell];omega) _
     have kp:∀bb oo:Nat,Wlo p (w.heap.size+2) bb→bb<wr.heap.size→((wr.setCell ⟨g,vs'.length,none⟩ (.slice (some ⟨b,off,none⟩) ys.length (0))).alloc (.cells #[.string u0,.string u1,.int .i64 u2,.int .i64 u3,.string u4,.slice u5 u6 u7,.int .i64 u8] 31)).cell? ⟨bb,oo,none⟩=wr.cell? ⟨bb,oo,none⟩:=fun bb oo hb _=>bw1.cell (p:=⟨bb,oo,none⟩) hb.2
     have ks:wr.heap.size≤((wr.setCell ⟨g,vs'.length,none⟩ (.slice (some ⟨b,off,none⟩) ys.length (0))).alloc (.cells #[.string u0,.string u1,.int .i64 u2,.int .i64 u3,.string u4,.slice u5 u6 u7,.int .i64 u8] 31)).heap.size:=by simp[World.setCell]
     have SK2:=(SK1.snoc AT).keep ks kp
     have AR2:=hAr.keep ks kp
     have BB1:But p w ((wr.setCell ⟨g,vs'.length,none⟩ (.slice (some ⟨b,off,none⟩) ys.length (0))).alloc (.cells #[.string u0,.string u1,.int .i64 u2,.int .i64 u3,.string u4,.slice u5 u6 u7,.int .i64 u8] 31)):=(BW.out.setNew g vs'.length (by omega) (by omega) _).alloc (by simp[World.setCell];omega) _
     have ow2:=ow1.alloc (.cells #[.string u0,.string u1,.int .i64 u2,.int .i64 u3,.string u4,.slice u5 u6 u7,.int .i64 u8] 31)
     have cS:=HO.out _ _ y (vs'.length+1) s' (flatB (st'++[ys]++[y.args])).length (by simp[World.setCell];omega) (hy.keep ks kp) (by omega) (HT.out _ _ _ _ (bw1.mono (by omega)) ks SS2)
     rw[hdz] at cS
     generalize hFy:F s' y (vs'.length+1)=Fy at cS
     have HFy:Hid (F s' y (vs'.length+1)=Fy):=hFy
     obtain⟨s2,B2⟩:=Fy
     simp only at cS
     clear hFy kp ks SK1 AI AT hAr hy OP SS2 bw1 ow1
     go_wp2_with fail
     refine cS.mono ?_
     rintro e w2 ⟨rfl,hs1,hs2,b2⟩
     have HS1:Hid (B2=true→St w2 s2 (flatB (st'++[ys]++[y.args])).length):=hs1
     have HS2:Hid (B2=false→End w2 s2):=hs2
     clear hs1 hs2 cS
     cases B2
     ·have HT2:Hid ((s2,false)=T):=by
       show _=_
       rw[←HF3.out,foldP,HFy.out];simp
      go_wp2
      go_ret
      have hT:=HT2.out
      subst hT
      exact⟨rfl,fun h=>absurd h (by simp),fun _=>HS2.out (by simp),BB1.trans b2⟩
     ·have HF4:Hid (foldP F s2 (flatB (st'++[ys]++[y.args]))=T):=by
       show _=_
       rw[←HF3.out,foldP,HFy.out];simp
      have hz2:wr.heap.size+1≤w2.heap.size:=by have:=b2.size;simpa [World.setCell] using this
      have g5:w2.cell? ⟨wr.heap.size,5,none⟩=some (.slice u5 u6 u7):=by
       rw[b2.cell _ (by simp[World.setCell]) (by omega),World.cell?_alloc_at _ _ _ _ (by simp[World.setCell])];rfl
      have hlt5:wr.heap.size<w2.heap.size:=by omega
      have kp2:∀bb oo:Nat,Wlo p (w.heap.size+2) bb→bb<((wr.setCell ⟨g,vs'.length,none⟩ (.slice (some ⟨b,off,none⟩) ys.length (0))).alloc (.cells #[.string u0,.string u1,.int .i64 u2,.int .i64 u3,.string u4,.slice u5 u6 u7,.int .i64 u8] 31)).heap.size→w2.cell? ⟨bb,oo,none⟩=_:=fun bb oo hb h2=>b2.cell oo h2 hb.1
      have SK3:=SK2.keep b2.size kp2
      have AR3:=AR2.keep b2.size kp2
      have ow3:=zdM ow2 b2 (by omega)
      rw[List.length_append,List.length_singleton] at ow3
      have BB2:=BB1.trans b2
      clear SK2 AR2 ow2 BB1 b2 kp2 HF3 HFy HS2
      go_wp2_with (at_builtin;refine wpList_append_own _ rfl _ _ 129 rfl (w.heap.size+2) 29 i0 (.slice none 0 0) 1 24 Tryz.underlying129 hi hz0 hz1 hzz rfl (by decide) _ _ _ rfl (ow3.alloc _) ⟨w2.heap.size,0,none⟩ 1 1 [.slice u5 u6 u7] rfl rfl ?c1 ?c2 ?c3 ?c4 ?c5 ?_)
      case c1 =>
       intro i u hu
       rw[Go.WideShapes.add_plain,World.cell?_alloc_at _ _ _ _ (by simp)]
       simpa using hu
      case c2 =>
       intro u hu
       simp at hu
       subst hu;rfl
      case c3=>simp[maxLen];omega
      case c4=>omega
      case c5=>simp;omega
      ·intro v' w3 hown' hgrow _
       have hlo3:∀j,(Value.slice (some ⟨g,0,none⟩) (vs'.length+1) c).ownBlock=some j→w.heap.size+2≤j:=fun j hj=>(ow3.lt j hj).1
       have bg:Below (w.heap.size+2) w2 w3:=((Below.refl _ w2).alloc (by omega) _).grown hgrow (by simp;omega) hlo3
       have zg:w2.heap.size≤w3.heap.size:=by have:=hgrow.size;simp at this;omega
       have SK4:=(SK3.snoc AR3).keep zg (fun bb oo hb _=>bg.cell (p:=⟨bb,oo,none⟩) hb.2)
       have SS4:St w3 s2 (flatB (st'++[ys]++[y.args])).length:=HT.out _ _ _ _ (bg.mono (by omega)) zg (HS1.out (by simp))
       have BB3:But p w w3:=⟨BB2.below.trans (bg.mono (by omega)),by have:=BB2.size;omega,fun j hj hjp=>by rw[bg.block j (by omega)];exact BB2.kept j hj hjp⟩
       obtain⟨q5,c5,rfl⟩:=zaa hown'
       have ow5:w3.ownsRow (w.heap.size+2) 29 1 (.slice q5 (vs'++[Value.slice (some ⟨b,off,none⟩) ys.length 0]++[Value.slice u5 u6 u7]).length c5) (vs'++[Value.slice (some ⟨b,off,none⟩) ys.length 0]++[Value.slice u5 u6 u7]).length (vs'++[Value.slice (some ⟨b,off,none⟩) ys.length 0]++[Value.slice u5 u6 u7]):=by
        have h1:(vs'++[Value.slice (some ⟨b,off,none⟩) ys.length 0]++[Value.slice u5 u6 u7]).length=vs'.length+1+1:=by simp
        rw[h1,List.append_assoc];exact hown'
       clear hown' hgrow SK3 AR3 BB2 ow3 bg
       go_wp2
       go_roundg (gk-1)
       case measure=>have:=HB2.out;omega
       case rel=>exact⟨st'++[ys]++[y.args],_,s2,q5,c5,by simp,(show Hid _ from ⟨HB2.out.1,HB2.out.2.1⟩),(show Aside _ from ow5),(show Aside _ from SK4),(show Aside _ from SS4),(show Aside _ from BB3),HF4⟩
    ·have AT:=AI.tail (p':=some ⟨b,off+7,none⟩) (c':=ca-1) (by rw[if_neg hca];rfl) rfl
     have ow1:=OP (.slice (some ⟨b,off+7,none⟩) ys.length (ca-1))
     have bw1:Below (w.heap.size+2) wr ((wr.setCell ⟨g,vs'.length,none⟩ (.slice (some ⟨b,off+7,none⟩) ys.length (ca-1))).alloc (.cells #[.string u0,.string u1,.int .i64 u2,.int .i64 u3,.string u4,.slice u5 u6 u7,.int .i64 u8] 31)):=((Below.refl _ wr).setCell (p:=⟨g,vs'.length,none⟩) gB _).alloc (by simp[World.setCell];omega) _
     have kp:∀bb oo:Nat,Wlo p (w.heap.size+2) bb→bb<wr.heap.size→((wr.setCell ⟨g,vs'.length,none⟩ (.slice (some ⟨b,off+7,none⟩) ys.length (ca-1))).alloc (.cells #[.string u0,.string u1,.int .i64 u2,.int .i64 u3,.string u4,.slice u5 u6 u7,.int .i64 u8] 31)).cell? ⟨bb,oo,none⟩=wr.cell? ⟨bb,oo,none⟩:=fun bb oo hb _=>bw1.cell (p:=⟨bb,oo,none⟩) hb.2
     have ks:wr.heap.size≤((wr.setCell ⟨g,vs'.length,none⟩ (.slice (some ⟨b,off+7,none⟩) ys.length (ca-1))).alloc (.cells #[.string u0,.string u1,.int .i64 u2,.int .i64 u3,.string u4,.slice u5 u6 u7,.int .i64 u8] 31)).heap.size:=by simp[World.setCell]
     have SK2:=(SK1.snoc AT).keep ks kp
     have AR2:=hAr.keep ks kp
     have BB1:But p w ((wr.setCell ⟨g,vs'.length,none⟩ (.slice (some ⟨b,off+7,none⟩) ys.length (ca-1))).alloc (.cells #[.string u0,.string u1,.int .i64 u2,.int .i64 u3,.string u4,.slice u5 u6 u7,.int .i64 u8] 31)):=(BW.out.setNew g vs'.length (by omega) (by omega) _).alloc (by simp[World.setCell];omega) _
     have ow2:=ow1.alloc (.cells #[.string u0,.string u1,.int .i64 u2,.int .i64 u3,.string u4,.slice u5 u6 u7,.int .i64 u8] 31)
     have cS:=HO.out _ _ y (vs'.length+1) s' (flatB (st'++[ys]++[y.args])).length (by simp[World.setCell];omega) (hy.keep ks kp) (by omega) (HT.out _ _ _ _ (bw1.mono (by omega)) ks SS2)
     rw[hdz] at cS
     generalize hFy:F s' y (vs'.length+1)=Fy at cS
     have HFy:Hid (F s' y (vs'.length+1)=Fy):=hFy
     obtain⟨s2,B2⟩:=Fy
     simp only at cS
     clear hFy kp ks SK1 AI AT hAr hy OP SS2 bw1 ow1
     go_wp2_with fail
     refine cS.mono ?_
     rintro e w2 ⟨rfl,hs1,hs2,b2⟩
     have HS1:Hid (B2=true→St w2 s2 (flatB (st'++[ys]++[y.args])).length):=hs1
     have HS2:Hid (B2=false→End w2 s2):=hs2
     clear hs1 hs2 cS
     cases B2
     ·have HT2:Hid ((s2,false)=T):=by
       show _=_
       rw[←HF3.out,foldP,HFy.out];simp
      go_wp2
      go_ret
      have hT:=HT2.out
      subst hT
      exact⟨rfl,fun h=>absurd h (by simp),fun _=>HS2.out (by simp),BB1.trans b2⟩
     ·have HF4:Hid (foldP F s2 (flatB (st'++[ys]++[y.args]))=T):=by
       show _=_
       rw[←HF3.out,foldP,HFy.out];simp
      have hz2:wr.heap.size+1≤w2.heap.size:=by have:=b2.size;simpa [World.setCell] using this
      have g5:w2.cell? ⟨wr.heap.size,5,none⟩=some (.slice u5 u6 u7):=by
       rw[b2.cell _ (by simp[World.setCell]) (by omega),World.cell?_alloc_at _ _ _ _ (by simp[World.setCell])];rfl
      have hlt5:wr.heap.size<w2.heap.size:=by omega
      have kp2:∀bb oo:Nat,Wlo p (w.heap.size+2) bb→bb<((wr.setCell ⟨g,vs'.length,none⟩ (.slice (some ⟨b,off+7,none⟩) ys.length (ca-1))).alloc (.cells #[.string u0,.string u1,.int .i64 u2,.int .i64 u3,.string u4,.slice u5 u6 u7,.int .i64 u8] 31)).heap.size→w2.cell? ⟨bb,oo,none⟩=_:=fun bb oo hb h2=>b2.cell oo h2 hb.1
      have SK3:=SK2.keep b2.size kp2
      have AR3:=AR2.keep b2.size kp2
      have ow3:=zdM ow2 b2 (by omega)
      rw[List.length_append,List.length_singleton] at ow3
      have BB2:=BB1.trans b2
      clear SK2 AR2 ow2 BB1 b2 kp2 HF3 HFy HS2
      go_wp2_with (at_builtin;refine wpList_append_own _ rfl _ _ 129 rfl (w.heap.size+2) 29 i0 (.slice none 0 0) 1 24 Tryz.underlying129 hi hz0 hz1 hzz rfl (by decide) _ _ _ rfl (ow3.alloc _) ⟨w2.heap.size,0,none⟩ 1 1 [.slice u5 u6 u7] rfl rfl ?c1 ?c2 ?c3 ?c4 ?c5 ?_)
      case c1 =>
       intro i u hu
       rw[Go.WideShapes.add_plain,World.cell?_alloc_at _ _ _ _ (by simp)]
       simpa using hu
      case c2 =>
       intro u hu
       simp at hu
       subst hu;rfl
      case c3=>simp[maxLen];omega
      case c4=>omega
      case c5=>simp;omega
      ·intro v' w3 hown' hgrow _
       have hlo3:∀j,(Value.slice (some ⟨g,0,none⟩) (vs'.length+1) c).ownBlock=some j→w.heap.size+2≤j:=fun j hj=>(ow3.lt j hj).1
       have bg:Below (w.heap.size+2) w2 w3:=((Below.refl _ w2).alloc (by omega) _).grown hgrow (by simp;omega) hlo3
       have zg:w2.heap.size≤w3.heap.size:=by have:=hgrow.size;simp at this;omega
       have SK4:=(SK3.snoc AR3).keep zg (fun bb oo hb _=>bg.cell (p:=⟨bb,oo,none⟩) hb.2)
       have SS4:St w3 s2 (flatB (st'++[ys]++[y.args])).length:=HT.out _ _ _ _ (bg.mono (by omega)) zg (HS1.out (by simp))
       have BB3:But p w w3:=⟨BB2.below.trans (bg.mono (by omega)),by have:=BB2.size;omega,fun j hj hjp=>by rw[bg.block j (by omega)];exact BB2.kept j hj hjp⟩
       obtain⟨q5,c5,rfl⟩:=zaa hown'
       have ow5:w3.ownsRow (w.heap.size+2) 29 1 (.slice q5 (vs'++[Value.slice (some ⟨b,off+7,none⟩) ys.length (ca-1)]++[Value.slice u5 u6 u7]).length c5) (vs'++[Value.slice (some ⟨b,off+7,none⟩) ys.length (ca-1)]++[Value.slice u5 u6 u7]).length (vs'++[Value.slice (some ⟨b,off+7,none⟩) ys.length (ca-1)]++[Value.slice u5 u6 u7]):=by
        have h1:(vs'++[Value.slice (some ⟨b,off+7,none⟩) ys.length (ca-1)]++[Value.slice u5 u6 u7]).length=vs'.length+1+1:=by simp
        rw[h1,List.append_assoc];exact hown'
       clear hown' hgrow SK3 AR3 BB2 ow3 bg
       go_wp2
       go_roundg (gk-1)
       case measure=>have:=HB2.out;omega
       case rel=>exact⟨st'++[ys]++[y.args],_,s2,q5,c5,by simp,(show Hid _ from ⟨HB2.out.1,HB2.out.2.1⟩),(show Aside _ from ow5),(show Aside _ from SK4),(show Aside _ from SS4),(show Aside _ from BB3),HF4⟩
end
section
open Go.BigFrame
def ftg(s:Nat)(x:Ex)(d:Nat):Nat×Bool:=(s+1,decide (s+1≤200)&&decide (d≤30))
def tgB(x:Ex):Bool:=!(foldP ftg 0 (x.pre 1)).2
def CntIn(p:Nat)(W:World)(s:Nat)(m:Nat):Prop:=W.cell? ⟨p,0,none⟩=some (.int .i64 (s:Int))∧W.frozen? ⟨p,0,none⟩=false∧p<W.heap.size∧s≤200
set_option maxRecDepth 20000 in
theorem zsn(p:Nat)(W:World)(v:Value)(lo:Nat→Prop)(x:Ex)(d s m:Nat)(hx:ExIn W lo v x)(hd:d≤1048577)(hs:CntIn p W s (m+1)) :
  Calls Tryz.prog 58 #[v,.int .i64 (d:Int),.pointer (some ⟨p,0,none⟩)] W fun e w'=>e=.returned (.bool (ftg s x d).2)∧((ftg s x d).2=true→CntIn p w' (ftg s x d).1 m)∧((ftg s x d).2=false→True)∧But p W w':=by
 obtain⟨o1,n1,t1,k1,s1,p1,m1,c1,a1,rfl⟩:=hx.agg
 obtain⟨h1,h2,h3,h4⟩:=hs
 have bb:=But.alloc (But.refl p W) (by omega) (.cells #[.string o1,.string n1,.int .i64 t1,.int .i64 k1,.string s1,.slice p1 m1 c1,.int .i64 a1] 31)
 have BF:Aside (∀u,But p W ((W.setCell ⟨p,0,none⟩ u).alloc (.cells #[.string o1,.string n1,.int .i64 t1,.int .i64 k1,.string s1,.slice p1 m1 c1,.int .i64 a1] 31))):=fun u=>((But.refl p W).set 0 u).alloc (by simp[World.setCell];omega) _
 clear bb
 by_cases h200:s+1≤200
 ·have h200z:(s:Int)+1≤200:=by omega
  by_cases h30:d≤30
  ·have h30z:(d:Int)≤30:=by omega
   have hR:ftg s x d=(s+1,true):=by rw[ftg,decide_eq_true h200,decide_eq_true h30];rfl
   rw[hR]
   have hC:Aside (CntIn p ((W.setCell ⟨p,0,none⟩ (.int .i64 ((s:Int)+1))).alloc (.cells #[.string o1,.string n1,.int .i64 t1,.int .i64 k1,.string s1,.slice p1 m1 c1,.int .i64 a1] 31)) (s+1) m):=by
    refine⟨?_,?_,by simp[World.setCell];omega,by omega⟩
    ·rw[World.cell?_alloc_past _ _ _ (by simpa [World.setCell] using h3),World.cell?_setCell_same W ⟨p,0,none⟩ _ h1]
     rfl
    ·rw[World.frozen?_alloc_past _ _ _ (by simpa [World.setCell] using h3)]
     simpa using h2
   clear hx hR h200 h30 h4
   generalize s+1=S2 at hC ⊢
   go_enter Tryz.func58,Tryz.ntmps58
   go_wp2
   go_ret
   first
    | exact⟨zaE (by simp),fun _=>hC.out,fun _=>trivial,BF.out _⟩
    | exact⟨zaE (by simp[h30z]),hC.out,BF.out _⟩
    | exact⟨rfl,hC.out,BF.out _⟩
  ·have h30z:¬(d:Int)≤30:=by omega
   have hR:ftg s x d=(s+1,false):=by rw[ftg,decide_eq_false h30,Bool.and_false]
   rw[hR]
   clear hx hR h200 h30 h4
   generalize s+1=S2
   go_enter Tryz.func58,Tryz.ntmps58
   go_wp2
   go_ret
   first
    | exact⟨zaE (by simp),BF.out _⟩
    | exact⟨zaE (by simp[h30z]),BF.out _⟩
    | exact⟨rfl,BF.out _⟩
 ·have h200z:¬(s:Int)+1≤200:=by omega
  have hR:ftg s x d=(s+1,false):=by rw[ftg,decide_eq_false h200,Bool.false_and]
  rw[hR]
  clear hx hR h200
  generalize s+1=S2
  go_enter Tryz.func58,Tryz.ntmps58
  go_wp2
  go_ret
  exact⟨rfl,BF.out _⟩
theorem zha(x:Ex)(lo:Nat→Prop)(v:Value)(w:World)(hx:ExIn w lo v x)(hsz:(x.pre 1).length≤1048576) :
  Calls Tryz.prog 28 #[v] w fun e w'=>e=.returned (.bool (tgB x))∧Below w.heap.size w w':=by
 obtain⟨o1,n1,t1,k1,s1,p1,m1,c1,a1,rfl⟩:=hx.agg
 have b1:Below w.heap.size w ((w.alloc (.cells #[.string o1,.string n1,.int .i64 t1,.int .i64 k1,.string s1,.slice p1 m1 c1,.int .i64 a1] 31)).alloc (.cells #[.int .i64 0] 3)):=(al w _).trans ((al _ _).mono (by simp))
 have cW:=zlq ftg 58 (fun args W=>by kernel_rfl) (w.heap.size+1) (CntIn (w.heap.size+1)) (fun _ _=>True) (fun b=>lo b∧b<w.heap.size) _ _ x 0 (by simp) ((ExIn.low (fun b h1 h2=>⟨h2,h1⟩) _ _ hx).on b1) (fun b h1 _=>by have:=h1.2;omega) hsz
  (fun W v y d s m _ hy hd hs=>zsn _ W v _ y d s m hy hd hs)
  (fun W W' s m hb hz hs=>by
   obtain⟨h1,h2,h3,h4⟩:=hs
   exact⟨by rw[hb.cell (p:=⟨w.heap.size+1,0,none⟩) (by simp)];exact h1,by rw[hb.frozen (p:=⟨w.heap.size+1,0,none⟩) (by simp)];exact h2,by omega,h4⟩)
  ⟨by rw[World.cell?_alloc_at _ _ _ _ (by simp)];rfl,by rw[World.frozen?_alloc_at _ _ _ _ (by simp)],by simp,by omega⟩
 rw[tgB]
 generalize foldP ftg 0 (x.pre 1)=T at cW
 obtain⟨T1,T2⟩:=T
 simp only at cW ⊢
 go_enter Tryz.func28,Tryz.ntmps28
 go_wp2_with fail
 refine cW.mono ?_
 rintro e w2 ⟨rfl,_,_,b2⟩
 have b3:Below w.heap.size w w2:=b1.trans (b2.below.mono (by omega))
 go_wp2
 go_ret
 exact⟨rfl,b3⟩
end
--BEGIN
def kdCnt(r:KRule):Nat:=if r.2.1=0 then 0 else if r.2.2.1=0 then 1 else if r.2.2.2.1=0 then 2 else 3
def znh(last t:Int):Int:=if t=-1 then last else t
def zra(op:List UInt8):List KRule→Option KRule
 | []=>none
 | r::rs=>if r.1=op then some r else zra op rs
def isTy(t:Int):Bool:=decide (t=1)||(decide (t=2)||decide (t=3))
def kdAll(last:Int):List Int→List Int→Bool
 | [],_=>true
 | _::_,[]=>true
 | t::ts,a::l=>decide (t=znh last a)&&kdAll last ts l
def ruleP(op:List UInt8)(ts:List Int):Int×Int :=
 match zra op zrb with
 | none=>(0,1)
 | some r=>if ts.all isTy=false then (0,1) else if ts.length≠kdCnt r then (0,3) else if kdAll (ts.getLast?.getD 0) ts [r.2.1,r.2.2.1,r.2.2.2.1]=true then (znh (ts.getLast?.getD 0) r.2.2.2.2,0) else (0,8)
mutual
def tyP(zs:List (ByteArray×Int)):Ex→Int×Int×Int
 | .node op nm vt vn vs pos l =>
  if op.data.toList=[118,97,108] then (vt,0,0)
  else if op.data.toList=[99,111,108] then (if findN nm.data.toList zs=-1 then (0,5,pos) else ((zs[(findN nm.data.toList zs).toNat]?.getD default).2,0,0))
  else if (tysP zs l).2.1≠0 then (0,(tysP zs l).2)
  else if (ruleP op.data.toList (tysP zs l).1).2≠0 then (0,(ruleP op.data.toList (tysP zs l).1).2,pos) else ((ruleP op.data.toList (tysP zs l).1).1,0,0)
def tysP(zs:List (ByteArray×Int)):List Ex→List Int×Int×Int
 | []=>([],0,0)
 | x::xs=>if (tyP zs x).2.1≠0 then ([],(tyP zs x).2) else if (tysP zs xs).2.1≠0 then ([],(tysP zs xs).2) else ((tyP zs x).1::(tysP zs xs).1,0,0)
end
--END
section
open Go.BigFrame
structure KEnv(w:World):Prop where
 tenv:TEnv w
 tw:TW w
 et:w.cell? ⟨4,0,none⟩=some (.iface 119 (.agg #[.pointer (some ⟨12,45,none⟩)]))
 rules:∃t fr,w.heap[8]?=some (.cells zpn t fr)
theorem KEnv.on{w w':World}(h:KEnv w)(hb:Below w.heap.size w w'):KEnv w':=by
 have hbig:=h.tenv.big
 refine⟨h.tenv.on hb,h.tw.on hb,?_,?_⟩
 ·rw[hb.cell (p:=⟨4,0,none⟩) (by simp;omega)];exact h.et
 ·obtain⟨t,fr,h1⟩:=h.rules
  exact⟨t,fr,by rw[hb.block _ (by omega)];exact h1⟩
def zpN(w:World)(p:Option Addr)(ts:List Int):Prop:=ts.length=0∨∃b off,p=some ⟨b,off,none⟩∧b<w.heap.size∧∀j (h:j<ts.length),w.cell? ⟨b,off+j,none⟩=some (.int .i64 ts[j])
end
def readE(ts:List Tok):Option Ex×List Tok:=uE (ts.length*8+8) 0 ts
section
open Go.ChangeShapes Go.WideShapes Go.ChangeAt Go.Joins Go.Deep
namespace intsOpen
set_option maxRecDepth 100000 in
theorem open_ints{H:Type}{enc:TypeId×Value→H}{W:World}{base:Nat}{v:Value}{d:DataW H}{p:List MemPlace}(hv:Value.okWide Tryz.prog W .any base 22 v)(h:DataW.Trod enc Tryz.prog W 0 (fun _=>true) true 22 v d p) :
  ∃(q:Option Addr) (N c:Nat) (ts:List Int),v=.slice q N c∧ts.length=N∧N≤maxLen∧zpN W q ts:=by
 obtain⟨a0,len0,cap0,rfl⟩:=okWide_slice Tryz.underlying22 hv
 obtain⟨fuel,hf⟩:=h
 rcases open_slice Tryz.underlying22 hf with ⟨hcs,hx⟩|⟨a,len,cap,m,n,D,Pl,hcs,_,hl,hm,hmeq,hx,hall⟩
 ·simp[Value.cells] at hcs
  obtain⟨rfl,rfl,rfl⟩:=hcs
  exact⟨_,_,_,[],rfl,rfl,Nat.zero_le _,.inl rfl⟩
 ·simp[Value.cells] at hcs
  obtain⟨rfl,rfl,rfl⟩:=hcs
  by_cases h0:len0=0
  ·subst h0
   exact⟨_,_,_,[],rfl,rfl,Nat.zero_le _,.inl rfl⟩
  ·simp only[if_true] at hmeq
   subst hmeq
   have each:∀i,i<len0→∃t:Int,W.cell? (a.add (i*1))=some (.int .i64 t):=by
    intro i hi
    obtain⟨cs',h1,h2⟩:=hall i (by omega)
    rw[zjf] at h1
    obtain⟨_,hlen,hcell⟩:=World.cells?_some h1
    match cs',hlen with
    | [v0],_ =>
     obtain⟨x0,e0,_,_⟩:=DataW.trod_int Tryz.underlying3 h2
     simp at e0
     subst e0
     have g0:=hcell 0 (by omega)
     rw[add_add] at g0
     exact⟨x0,by simpa using g0⟩
   obtain⟨f,hF⟩:=choose_lt (α:=Int) each
   obtain⟨sb,so,spot⟩:=a
   have hspot:spot=none:=by simpa [Addr.add] using World.cell?_spot (hF 0 (by omega))
   subst hspot
   refine⟨_,_,_,(List.range len0).map f,rfl,by simp,by omega,.inr ⟨sb,so,rfl,?_,fun j hj=>?_⟩⟩
   ·have:=hF 0 (by omega)
    exact zbw (o:=so+0*1) (by simpa [add_plain] using this)
   ·have:=hF j (by simpa using hj)
    simp only[List.getElem_map,List.getElem_range]
    simpa [add_plain] using this

end intsOpen
end
end Go.Proofs.YtbdnccnfidjiaaaGreatDoor
