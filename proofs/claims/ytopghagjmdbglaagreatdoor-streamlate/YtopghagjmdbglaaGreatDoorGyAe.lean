/-
  TreeR5, TreeR6, TreeR7, Row1, Row2, TreeR8.
-/
import Derived.Test.YtopghagjmdbglaaGreatDoorGyAd
import Derived.Test.YtopghagjmdbglaaGreatDoorProg
import Derived.WalkKit
import Derived.Below
import Derived.RowKitTokens
import Derived.Lib.OthersKept
import Derived.Lib.Strings
import Derived.Laws.RangeAny
import Derived.Deep.DeepCutAuto
import Derived.Laws.Rows
namespace Go.Proofs.YtopghagjmdbglaaGreatDoor
open Go.RowKit
set_option linter.unusedVariables false
set_option linter.unusedSimpArgs false
set_option maxHeartbeats 8000000
set_option maxRecDepth 20000
section
open Go.BigFrame
variable {en : Nat}

theorem zaA(b c r:Nat)(gs:List (List UInt8))(w:World)(h4:gs.length≤100)(hs:zcM w b gs)(hb:b≠r)(hr:r<w.heap.size) :
  Calls Tryz.prog 51 #[.slice (some ⟨b,0,none⟩) gs.length c] w fun e w'=>(∃p,e=.returned (signV p)∧zbm w' r p gs)∧Below w.heap.size w w':=by
 go_enter Tryz.func51,Tryz.ntmps51
 go_wp2
 go_ret
 have hb:=(Below.refl w.heap.size w).alloc (Nat.le_refl _) (.cells #[.slice (some ⟨b,0,none⟩) gs.length c] 31)
 exact⟨⟨w.heap.size,rfl,b,c,by rw[World.cell?_alloc_at _ _ _ _ rfl];rfl,by simp,hs.on hb,h4,by omega,by assumption⟩,hb⟩
theorem zaw(w:World)(n:Nat)(hn:n=w.heap.size)(gs:List (List UInt8))(cs:Array Value)(t:TypeId)(h:∀j (hj:j<gs.length),cs[j]?=some (.string ⟨gs[j].toArray⟩)):zcM (w.alloc (.cells cs t)) n gs :=
 ⟨by simp;omega,fun j hj=>by rw[World.cell?_alloc_at _ _ _ _ hn];exact h j hj⟩
theorem zeF(sub:List Tok→Option Ex×List Tok)(ts:List Tok)(hsuf:Suf sub)(hg:Fit ts)(hsub:∀ts',ts' <:+ ts→Reads 124 sub ts'):Reads 95 (uSev sub [[111,114]]) ts:=by
 intro w r en h henv hr
 have HR:Aside (RdAt en w r ts):=h
 have HE:Aside (TEnv w):=henv
 have hl:=h.lt
 clear h henv
 have cS:=fun W p h hs he=>zbD (en:=en) _ (fun args W=>by kernel_rfl) sub [[111,114]] ts hsuf hg hsub W r p h hs he hr
 have X0:=zaq w (.string ⟨#[]⟩) (.string ⟨#[]⟩) (.int .i64 0) (.int .i64 0) (.string ⟨#[]⟩) (.slice none 0 0) (.int .i64 0) 30
 have b0:=(Below.refl w.heap.size w).alloc (Nat.le_refl _) (.cells #[.string ⟨#[]⟩,.string ⟨#[]⟩,.int .i64 0,.int .i64 0,.string ⟨#[]⟩,.slice none 0 0,.int .i64 0] 30)
 have b1:=al (w.alloc (.cells #[.string ⟨#[]⟩,.string ⟨#[]⟩,.int .i64 0,.int .i64 0,.string ⟨#[]⟩,.slice none 0 0,.int .i64 0] 30)) (.cells #[.string ⟨#[111,114]⟩] 9)
 have X1:=X0.on b1
 have cO:=zaA (w.heap.size+1) 1 r [[111,114]] ((w.alloc (.cells #[.string ⟨#[]⟩,.string ⟨#[]⟩,.int .i64 0,.int .i64 0,.string ⟨#[]⟩,.slice none 0 0,.int .i64 0] 30)).alloc (.cells #[.string ⟨#[111,114]⟩] 9)) (by decide) (zaw _ _ (by simp) _ _ _ (fun j hj=>match j,hj with
  | 0,_=>rfl)) (by omega) (by simp;omega)
 have b2:=b0.trans (b1.mono (by simp))
 clear X0 b1 b0
 go_enter Tryz.func95,Tryz.ntmps95
 go_wp2_with fail
 refine cO.mono ?_
 rintro e w2 ⟨⟨p,rfl,hp⟩,b3⟩
 have X2:=X1.on b3
 have B2:=b2.trans (b3.mono (by simp;omega))
 have hz2:w.heap.size+2≤w2.heap.size:=by have:=b3.size;simpa using this
 clear X1 b2 b3 cO
 go_wp2_with fail
 refine (cS _ p (HR.out.on B2) hp (HE.out.on B2)).mono ?_
 rintro e w3 ⟨v,ok,x,rfl,hx,hrd,hbt,hres⟩
 obtain⟨u0,u1,u2,u3,u4,u5,u6,u7,u8,rfl⟩:=hx.out.agg
 obtain⟨c0,c1,c2,c3,c4,c5,c6,cf,cl⟩:=X2.but hbt.out (by omega)
 have rf0:=cf 0
 have rf1:=cf 1
 have rf2:=cf 2
 have rf3:=cf 3
 have rf4:=cf 4
 have rf5:=cf 5
 have rf6:=cf 6
 clear cf X2 cS
 have bE:=al w3 (.cells #[.string u0,.string u1,.int .i64 u2,.int .i64 u3,.string u4,.slice u5 u6 u7,.int .i64 u8] 30)
 have hz3:w.heap.size+2≤w3.heap.size:=by have:=hbt.out.size;omega
 cases ok
 ·go_wp2
  refine bodyPost_ret (v:=.tuple #[.agg #[.string ⟨#[]⟩,.string ⟨#[]⟩,.int .i64 0,.int .i64 0,.string ⟨#[]⟩,.slice none 0 0,.int .i64 0],.bool false]) (by simp[results,Tryz.results95,go_sem,c0,c1,c2,c3,c4,c5,c6,cl]) rfl ⟨_,false,.node ⟨#[]⟩ ⟨#[]⟩ 0 0 ⟨#[]⟩ 0 [],rfl,?_,?_,?_,hres⟩
  ·exact zid (by decide) (by decide) (by decide)
  ·exact (hrd.out.set7 (by omega) _ _ _ _ _ _ _).on (al _ _)
  ·exact (((But.of_below' B2 (by omega)).trans hbt.out).set7 (Nat.le_refl _) (by omega) _ _ _ _ _ _ _).on (al _ _) hl
 ·go_wp2
  refine bodyPost_ret (v:=.tuple #[.agg #[.string u0,.string u1,.int .i64 u2,.int .i64 u3,.string u4,.slice u5 u6 u7,.int .i64 u8],.bool true]) (by simp[results,Tryz.results95,go_sem,c0,c1,c2,c3,c4,c5,c6,cl]) rfl ⟨_,true,x,rfl,?_,?_,?_,hres⟩
  ·exact (ExIn.low (fun b _ (hb:w2.heap.size≤b)=>(show w.heap.size≤b by omega)) _ _ (hx.out.set7 (fun b (hb:w2.heap.size≤b)=>by omega) _ _ _ _ _ _ _)).on (al _ _)
  ·exact (hrd.out.set7 (by omega) _ _ _ _ _ _ _).on (al _ _)
  ·exact (((But.of_below' B2 (by omega)).trans hbt.out).set7 (Nat.le_refl _) (by omega) _ _ _ _ _ _ _).on (al _ _) hl
theorem zeb(sub:List Tok→Option Ex×List Tok)(ts:List Tok)(hsuf:Suf sub)(hg:Fit ts)(hsub:∀ts',ts' <:+ ts→Reads 156 sub ts'):Reads 124 (uSev sub [[97,110,100]]) ts:=by
 intro w r en h henv hr
 have HR:Aside (RdAt en w r ts):=h
 have HE:Aside (TEnv w):=henv
 have hl:=h.lt
 clear h henv
 have cS:=fun W p h hs he=>zbD (en:=en) _ (fun args W=>by kernel_rfl) sub [[97,110,100]] ts hsuf hg hsub W r p h hs he hr
 have X0:=zaq w (.string ⟨#[]⟩) (.string ⟨#[]⟩) (.int .i64 0) (.int .i64 0) (.string ⟨#[]⟩) (.slice none 0 0) (.int .i64 0) 30
 have b0:=(Below.refl w.heap.size w).alloc (Nat.le_refl _) (.cells #[.string ⟨#[]⟩,.string ⟨#[]⟩,.int .i64 0,.int .i64 0,.string ⟨#[]⟩,.slice none 0 0,.int .i64 0] 30)
 have b1:=al (w.alloc (.cells #[.string ⟨#[]⟩,.string ⟨#[]⟩,.int .i64 0,.int .i64 0,.string ⟨#[]⟩,.slice none 0 0,.int .i64 0] 30)) (.cells #[.string ⟨#[97,110,100]⟩] 9)
 have X1:=X0.on b1
 have cO:=zaA (w.heap.size+1) 1 r [[97,110,100]] ((w.alloc (.cells #[.string ⟨#[]⟩,.string ⟨#[]⟩,.int .i64 0,.int .i64 0,.string ⟨#[]⟩,.slice none 0 0,.int .i64 0] 30)).alloc (.cells #[.string ⟨#[97,110,100]⟩] 9)) (by decide) (zaw _ _ (by simp) _ _ _ (fun j hj=>match j,hj with
  | 0,_=>rfl)) (by omega) (by simp;omega)
 have b2:=b0.trans (b1.mono (by simp))
 clear X0 b1 b0
 go_enter Tryz.func124,Tryz.ntmps124
 go_wp2_with fail
 refine cO.mono ?_
 rintro e w2 ⟨⟨p,rfl,hp⟩,b3⟩
 have X2:=X1.on b3
 have B2:=b2.trans (b3.mono (by simp;omega))
 have hz2:w.heap.size+2≤w2.heap.size:=by have:=b3.size;simpa using this
 clear X1 b2 b3 cO
 go_wp2_with fail
 refine (cS _ p (HR.out.on B2) hp (HE.out.on B2)).mono ?_
 rintro e w3 ⟨v,ok,x,rfl,hx,hrd,hbt,hres⟩
 obtain⟨u0,u1,u2,u3,u4,u5,u6,u7,u8,rfl⟩:=hx.out.agg
 obtain⟨c0,c1,c2,c3,c4,c5,c6,cf,cl⟩:=X2.but hbt.out (by omega)
 have rf0:=cf 0
 have rf1:=cf 1
 have rf2:=cf 2
 have rf3:=cf 3
 have rf4:=cf 4
 have rf5:=cf 5
 have rf6:=cf 6
 clear cf X2 cS
 go_wp2
 refine bodyPost_ret (v:=.tuple #[.agg #[.string u0,.string u1,.int .i64 u2,.int .i64 u3,.string u4,.slice u5 u6 u7,.int .i64 u8],.bool ok]) (by simp[results,Tryz.results124,go_sem,c0,c1,c2,c3,c4,c5,c6]) rfl ⟨_,ok,x,rfl,?_,?_,?_,hres⟩
 ·exact ExIn.low (fun b _ (hb:w2.heap.size≤b)=>(show w.heap.size≤b by omega)) _ _ (hx.out.set7 (fun b (hb:w2.heap.size≤b)=>by omega) _ _ _ _ _ _ _)
 ·exact hrd.out.set7 (by omega) _ _ _ _ _ _ _
 ·exact ((But.of_below' B2 (by omega)).trans hbt.out).set7 (Nat.le_refl _) (by omega) _ _ _ _ _ _ _
theorem zsI(sub:List Tok→Option Ex×List Tok)(ts:List Tok)(hsuf:Suf sub)(hg:Fit ts)(hsub:∀ts',ts' <:+ ts→Reads 231 sub ts'):Reads 211 (uSev sub [[43],[45]]) ts:=by
 intro w r en h henv hr
 have HR:Aside (RdAt en w r ts):=h
 have HE:Aside (TEnv w):=henv
 have hl:=h.lt
 clear h henv
 have cS:=fun W p h hs he=>zbD (en:=en) _ (fun args W=>by kernel_rfl) sub [[43],[45]] ts hsuf hg hsub W r p h hs he hr
 have X0:=zaq w (.string ⟨#[]⟩) (.string ⟨#[]⟩) (.int .i64 0) (.int .i64 0) (.string ⟨#[]⟩) (.slice none 0 0) (.int .i64 0) 30
 have b0:=(Below.refl w.heap.size w).alloc (Nat.le_refl _) (.cells #[.string ⟨#[]⟩,.string ⟨#[]⟩,.int .i64 0,.int .i64 0,.string ⟨#[]⟩,.slice none 0 0,.int .i64 0] 30)
 have b1:=al (w.alloc (.cells #[.string ⟨#[]⟩,.string ⟨#[]⟩,.int .i64 0,.int .i64 0,.string ⟨#[]⟩,.slice none 0 0,.int .i64 0] 30)) (.cells #[.string ⟨#[43]⟩,.string ⟨#[45]⟩] 9)
 have X1:=X0.on b1
 have cO:=zaA (w.heap.size+1) 2 r [[43],[45]] ((w.alloc (.cells #[.string ⟨#[]⟩,.string ⟨#[]⟩,.int .i64 0,.int .i64 0,.string ⟨#[]⟩,.slice none 0 0,.int .i64 0] 30)).alloc (.cells #[.string ⟨#[43]⟩,.string ⟨#[45]⟩] 9)) (by decide) (zaw _ _ (by simp) _ _ _ (fun j hj=>match j,hj with
  | 0,_=>rfl
  | 1,_=>rfl)) (by omega) (by simp;omega)
 have b2:=b0.trans (b1.mono (by simp))
 clear X0 b1 b0
 go_enter Tryz.func211,Tryz.ntmps211
 go_wp2_with fail
 refine cO.mono ?_
 rintro e w2 ⟨⟨p,rfl,hp⟩,b3⟩
 have X2:=X1.on b3
 have B2:=b2.trans (b3.mono (by simp;omega))
 have hz2:w.heap.size+2≤w2.heap.size:=by have:=b3.size;simpa using this
 clear X1 b2 b3 cO
 go_wp2_with fail
 refine (cS _ p (HR.out.on B2) hp (HE.out.on B2)).mono ?_
 rintro e w3 ⟨v,ok,x,rfl,hx,hrd,hbt,hres⟩
 obtain⟨u0,u1,u2,u3,u4,u5,u6,u7,u8,rfl⟩:=hx.out.agg
 obtain⟨c0,c1,c2,c3,c4,c5,c6,cf,cl⟩:=X2.but hbt.out (by omega)
 have rf0:=cf 0
 have rf1:=cf 1
 have rf2:=cf 2
 have rf3:=cf 3
 have rf4:=cf 4
 have rf5:=cf 5
 have rf6:=cf 6
 clear cf X2 cS
 go_wp2
 refine bodyPost_ret (v:=.tuple #[.agg #[.string u0,.string u1,.int .i64 u2,.int .i64 u3,.string u4,.slice u5 u6 u7,.int .i64 u8],.bool ok]) (by simp[results,Tryz.results211,go_sem,c0,c1,c2,c3,c4,c5,c6]) rfl ⟨_,ok,x,rfl,?_,?_,?_,hres⟩
 ·exact ExIn.low (fun b _ (hb:w2.heap.size≤b)=>(show w.heap.size≤b by omega)) _ _ (hx.out.set7 (fun b (hb:w2.heap.size≤b)=>by omega) _ _ _ _ _ _ _)
 ·exact hrd.out.set7 (by omega) _ _ _ _ _ _ _
 ·exact ((But.of_below' B2 (by omega)).trans hbt.out).set7 (Nat.le_refl _) (by omega) _ _ _ _ _ _ _
theorem zjb(sub:List Tok→Option Ex×List Tok)(ts:List Tok)(hsuf:Suf sub)(hg:Fit ts)(hsub:∀ts',ts' <:+ ts→Reads 247 sub ts'):Reads 231 (uSev sub [[42],[47],[37]]) ts:=by
 intro w r en h henv hr
 have HR:Aside (RdAt en w r ts):=h
 have HE:Aside (TEnv w):=henv
 have hl:=h.lt
 clear h henv
 have cS:=fun W p h hs he=>zbD (en:=en) _ (fun args W=>by kernel_rfl) sub [[42],[47],[37]] ts hsuf hg hsub W r p h hs he hr
 have X0:=zaq w (.string ⟨#[]⟩) (.string ⟨#[]⟩) (.int .i64 0) (.int .i64 0) (.string ⟨#[]⟩) (.slice none 0 0) (.int .i64 0) 30
 have b0:=(Below.refl w.heap.size w).alloc (Nat.le_refl _) (.cells #[.string ⟨#[]⟩,.string ⟨#[]⟩,.int .i64 0,.int .i64 0,.string ⟨#[]⟩,.slice none 0 0,.int .i64 0] 30)
 have b1:=al (w.alloc (.cells #[.string ⟨#[]⟩,.string ⟨#[]⟩,.int .i64 0,.int .i64 0,.string ⟨#[]⟩,.slice none 0 0,.int .i64 0] 30)) (.cells #[.string ⟨#[42]⟩,.string ⟨#[47]⟩,.string ⟨#[37]⟩] 9)
 have X1:=X0.on b1
 have cO:=zaA (w.heap.size+1) 3 r [[42],[47],[37]] ((w.alloc (.cells #[.string ⟨#[]⟩,.string ⟨#[]⟩,.int .i64 0,.int .i64 0,.string ⟨#[]⟩,.slice none 0 0,.int .i64 0] 30)).alloc (.cells #[.string ⟨#[42]⟩,.string ⟨#[47]⟩,.string ⟨#[37]⟩] 9)) (by decide) (zaw _ _ (by simp) _ _ _ (fun j hj=>match j,hj with
  | 0,_=>rfl
  | 1,_=>rfl
  | 2,_=>rfl)) (by omega) (by simp;omega)
 have b2:=b0.trans (b1.mono (by simp))
 clear X0 b1 b0
 go_enter Tryz.func231,Tryz.ntmps231
 go_wp2_with fail
 refine cO.mono ?_
 rintro e w2 ⟨⟨p,rfl,hp⟩,b3⟩
 have X2:=X1.on b3
 have B2:=b2.trans (b3.mono (by simp;omega))
 have hz2:w.heap.size+2≤w2.heap.size:=by have:=b3.size;simpa using this
 clear X1 b2 b3 cO
 go_wp2_with fail
 refine (cS _ p (HR.out.on B2) hp (HE.out.on B2)).mono ?_
 rintro e w3 ⟨v,ok,x,rfl,hx,hrd,hbt,hres⟩
 obtain⟨u0,u1,u2,u3,u4,u5,u6,u7,u8,rfl⟩:=hx.out.agg
 obtain⟨c0,c1,c2,c3,c4,c5,c6,cf,cl⟩:=X2.but hbt.out (by omega)
 have rf0:=cf 0
 have rf1:=cf 1
 have rf2:=cf 2
 have rf3:=cf 3
 have rf4:=cf 4
 have rf5:=cf 5
 have rf6:=cf 6
 clear cf X2 cS
 go_wp2
 refine bodyPost_ret (v:=.tuple #[.agg #[.string u0,.string u1,.int .i64 u2,.int .i64 u3,.string u4,.slice u5 u6 u7,.int .i64 u8],.bool ok]) (by simp[results,Tryz.results231,go_sem,c0,c1,c2,c3,c4,c5,c6]) rfl ⟨_,ok,x,rfl,?_,?_,?_,hres⟩
 ·exact ExIn.low (fun b _ (hb:w2.heap.size≤b)=>(show w.heap.size≤b by omega)) _ _ (hx.out.set7 (fun b (hb:w2.heap.size≤b)=>by omega) _ _ _ _ _ _ _)
 ·exact hrd.out.set7 (by omega) _ _ _ _ _ _ _
 ·exact ((But.of_below' B2 (by omega)).trans hbt.out).set7 (Nat.le_refl _) (by omega) _ _ _ _ _ _ _
end
section
open Go.BigFrame
variable {en : Nat}

theorem ziW{opl:List UInt8}{gs:List (List UInt8)}{sub other:List Tok→Option Ex×List Tok}{ts rs:List Tok}{t:Tok}(hn:nxT (sgT gs) ts=some (t,rs)):zba opl gs sub other ts=((sub rs).1.map fun e=>op1 opl (t.2.2:Int) [e],(sub rs).2):=by
 rw[zba,hn]
 simp only
 cases sub rs with
 | mk o r=>cases o<;>rfl
theorem zuo{ok:Bool}{x:Ex}{o:Option Ex}{F:Ex→Ex}(h:o=if ok=true then some x else none):o.map F=if ok=true then some (F x) else none:=by
 subst h
 cases ok<;>rfl
theorem zdD(f g:FuncId)(hentf:∀(args:Array Value) (W:World),Sem.run Tryz.prog (callFunc f args) W=.ok (.enter f args) W)(hentg:∀(args:Array Value) (W:World),Sem.run Tryz.prog (callFunc g args) W=.ok (.enter g args) W)(sub other:List Tok→Option Ex×List Tok)(opl:List UInt8)(hop:(⟨opl.toArray⟩:ByteArray).size≤maxLen)(gs:List (List UInt8))(ts:List Tok)(hg:Fit ts)
  (hsub:∀t rs,ts=t::rs→Reads f sub rs)(hoth:Reads g other ts)(w:World)(r p:Nat)(h:RdAt en w r ts)(hs:zbm w r p gs)(henv:TEnv w)(hr:12≤r) :
  Calls Tryz.prog 184 #[.pointer (some ⟨r,0,none⟩),.string ⟨opl.toArray⟩,signV p,partV f r,partV g r] w fun e w'=>∃v ok x,e=.returned (.tuple #[v,.bool ok])∧Aside (ExIn w' (w.heap.size≤·) v x)∧Aside (RdAt en w' r (zba opl gs sub other ts).2)∧Aside (But r w w')∧Hid ((zba opl gs sub other ts).1=if ok=true then some x else none):=by
 have HR:Aside (RdAt en w r ts):=h
 have HS:Aside (zbm w r p gs):=hs
 have HE:Aside (TEnv w):=henv
 have hl:=h.lt
 clear h hs henv
 have b0:=al w (.cells #[.string ⟨#[]⟩,.string ⟨#[]⟩,.int .i64 0,.int .i64 0,.string ⟨#[]⟩,.slice none 0 0,.int .i64 0] 30)
 have X0:=zaq w (.string ⟨#[]⟩) (.string ⟨#[]⟩) (.int .i64 0) (.int .i64 0) (.string ⟨#[]⟩) (.slice none 0 0) (.int .i64 0) 30
 cases hn:nxT (sgT gs) ts with
 | none =>
  have cT:=zap gs p _ r ts (HR.out.on b0) (HS.out.but (But.of_below' b0 (by omega))).sign hn
  have hU:zba opl gs sub other ts=other ts:=by rw[zba,hn]
  rw[hU]
  rw[noTok] at cT
  clear hn hU
  go_enter Tryz.func184,Tryz.ntmps184
  go_wp2_with fail
  refine cT.mono ?_
  rintro e w2 ⟨rfl,rd2,b2⟩
  have X2:=X0.but b2 (by omega)
  have hz2:w.heap.size+1≤w2.heap.size:=by have:=b2.size;simpa using this
  have bb:=al w2 (.cells #[.int .i64 0,.string ⟨#[]⟩,.int .i64 0] 83)
  have B2:But r w _:=(But.of_below' b0 (by omega)).trans b2
  clear b2 b0 X0 cT
  go_wp2_with fail
  refine (hoth _ r (rd2.on bb) (HE.out.but (B2.on bb hl) hr) hr).mono ?_
  rintro e w3 ⟨v,ok,x,rfl,hx,hrd,hbt,hres⟩
  obtain⟨u0,u1,u2,u3,u4,u5,u6,u7,u8,rfl⟩:=hx.out.agg
  obtain⟨c0,c1,c2,c3,c4,c5,c6,cf,cl⟩:=(X2.on bb).but hbt.out (by omega)
  have rf0:=cf 0
  have rf1:=cf 1
  have rf2:=cf 2
  have rf3:=cf 3
  have rf4:=cf 4
  have rf5:=cf 5
  have rf6:=cf 6
  have B3:=(B2.on bb hl).trans hbt.out
  clear cf X2
  go_wp2
  refine bodyPost_ret (v:=.tuple #[.agg #[.string u0,.string u1,.int .i64 u2,.int .i64 u3,.string u4,.slice u5 u6 u7,.int .i64 u8],.bool ok]) (by simp[results,Tryz.results184,go_sem,c0,c1,c2,c3,c4,c5,c6]) rfl ⟨_,ok,x,rfl,?_,?_,?_,hres⟩
  ·exact ExIn.low (fun b _ hb=>(show w.heap.size≤b by simp at hb;omega)) _ _ (hx.out.set7 (fun b hb=>by simp at hb;omega) _ _ _ _ _ _ _)
  ·exact hrd.out.set7 (by omega) _ _ _ _ _ _ _
  ·exact B3.set7 (Nat.le_refl _) (by omega) _ _ _ _ _ _ _
 | some y =>
  obtain⟨tt,rs⟩:=y
  have cT:=zao gs p _ r tt ts rs (HR.out.on b0) (HS.out.but (But.of_below' b0 (by omega))).sign hn
  have cP:=hsub tt rs (zag hn).1
  have HN:Hid (nxT (sgT gs) ts=some (tt,rs)):=hn
  obtain⟨tk,tx,ta⟩:=tt
  rw[tokV] at cT
  simp only at cT
  clear hn
  go_enter Tryz.func184,Tryz.ntmps184
  go_wp2_with fail
  refine cT.mono ?_
  rintro e w2 ⟨rfl,rd2,b2⟩
  have X2:=X0.but b2 (by omega)
  have hz2:w.heap.size+1≤w2.heap.size:=by have:=b2.size;simpa using this
  have bb:=al w2 (.cells #[.int .i64 tk,.string tx,.int .i64 (ta:Int)] 83)
  have B2:But r w _:=(But.of_below' b0 (by omega)).trans b2
  clear b2 b0 X0 cT
  go_wp2_with fail
  refine (cP _ r (rd2.on bb) (HE.out.but (B2.on bb hl) hr) hr).mono ?_
  rintro e w3 ⟨v,ok,x,rfl,hx,hrd,hbt,hres⟩
  obtain⟨u0,u1,u2,u3,u4,u5,u6,u7,u8,rfl⟩:=hx.out.agg
  obtain⟨c0,c1,c2,c3,c4,c5,c6,cf,cl⟩:=(X2.on bb).but hbt.out (by omega)
  have rf0:=cf 0
  have rf1:=cf 1
  have rf2:=cf 2
  have rf3:=cf 3
  have rf4:=cf 4
  have rf5:=cf 5
  have rf6:=cf 6
  have B3:=(B2.on bb hl).trans hbt.out
  have hz3:w2.heap.size+1≤w3.heap.size:=by have:=hbt.out.size;simpa using this
  have hlt3:w2.heap.size<w3.heap.size:=by omega
  have g2:w3.cell? ⟨w2.heap.size,2,none⟩=some (.int .i64 (ta:Int)):=by
   rw[hbt.out.cell _ (by simp) (by omega),World.cell?_alloc_at _ _ _ _ rfl];rfl
  have hU:=ziW (opl:=opl) (sub:=sub) (other:=other) HN.out
  have RU:=hx.out.set7 (z:=w.heap.size) (fun b hb=>by simp at hb;omega) (.string ⟨opl.toArray⟩) (.string ⟨#[]⟩) (.int .i64 0) (.int .i64 0) (.string ⟨#[]⟩) (.slice (some ⟨w3.heap.size+1,0,none⟩) 1 1) (.int .i64 (ta:Int))
  clear cf X2
  go_wp2
  refine bodyPost_ret (v:=.tuple #[.agg #[.string ⟨opl.toArray⟩,.string ⟨#[]⟩,.int .i64 0,.int .i64 0,.string ⟨#[]⟩,.slice (some ⟨w3.heap.size+1,0,none⟩) 1 1,.int .i64 (ta:Int)],.bool ok]) (by simp[results,Tryz.results184,go_sem,c0,c1,c2,c3,c4,c5,c6,cl]) rfl ⟨_,ok,op1 opl (ta:Int) [x],rfl,?_,?_,?_,?_⟩
  ·exact zvu (ExIn.low (lo':=(w.heap.size≤·)) (fun b _ hb=>(show w.heap.size≤b by simp at hb;omega)) _ _ RU) ((al _ _).trans ((al _ _).mono (by simp))) (by simp[World.setCell]) (show w.heap.size≤w3.heap.size+1 by omega) (fun i=>World.cell?_alloc_at _ _ _ _ (by simp[World.setCell])) hop (by decide) (by decide)
  ·rw[hU];exact ((hrd.out.set7 (by omega) _ _ _ _ _ _ _).on (al _ _)).on (al _ _)
  ·exact ((B3.set7 (Nat.le_refl _) (by omega) _ _ _ _ _ _ _).on (al _ _) hl).on (al _ _) hl
  ·rw[hU];exact zuo hres.out
theorem zkA(sub other:List Tok→Option Ex×List Tok)(ts:List Tok)(hg:Fit ts)(hsub:∀t rs,ts=t::rs→Reads 156 sub rs)(hoth:Reads 185 other ts):Reads 156 (zba [110,111,116] [[110,111,116]] sub other) ts:=by
 intro w r en h henv hr
 have HR:Aside (RdAt en w r ts):=h
 have HE:Aside (TEnv w):=henv
 have hl:=h.lt
 clear h henv
 have cS:=fun W p h hs he=>zdD (en:=en) 156 185 (fun args W=>by kernel_rfl) (fun args W=>by kernel_rfl) sub other [110,111,116] (by decide) [[110,111,116]] ts hg hsub hoth W r p h hs he hr
 have X0:=zaq w (.string ⟨#[]⟩) (.string ⟨#[]⟩) (.int .i64 0) (.int .i64 0) (.string ⟨#[]⟩) (.slice none 0 0) (.int .i64 0) 30
 have b0:=(Below.refl w.heap.size w).alloc (Nat.le_refl _) (.cells #[.string ⟨#[]⟩,.string ⟨#[]⟩,.int .i64 0,.int .i64 0,.string ⟨#[]⟩,.slice none 0 0,.int .i64 0] 30)
 have b1:=al (w.alloc (.cells #[.string ⟨#[]⟩,.string ⟨#[]⟩,.int .i64 0,.int .i64 0,.string ⟨#[]⟩,.slice none 0 0,.int .i64 0] 30)) (.cells #[.string ⟨#[110,111,116]⟩] 9)
 have X1:=X0.on b1
 have cO:=zaA (w.heap.size+1) 1 r [[110,111,116]] ((w.alloc (.cells #[.string ⟨#[]⟩,.string ⟨#[]⟩,.int .i64 0,.int .i64 0,.string ⟨#[]⟩,.slice none 0 0,.int .i64 0] 30)).alloc (.cells #[.string ⟨#[110,111,116]⟩] 9)) (by decide) (zaw _ _ (by simp) _ _ _ (fun j hj=>match j,hj with
  | 0,_=>rfl)) (by omega) (by simp;omega)
 have b2:=b0.trans (b1.mono (by simp))
 clear X0 b1 b0
 go_enter Tryz.func156,Tryz.ntmps156
 go_wp2_with fail
 refine cO.mono ?_
 rintro e w2 ⟨⟨p,rfl,hp⟩,b3⟩
 have X2:=X1.on b3
 have B2:=b2.trans (b3.mono (by simp;omega))
 have hz2:w.heap.size+2≤w2.heap.size:=by have:=b3.size;simpa using this
 clear X1 b2 b3 cO
 go_wp2_with fail
 refine (cS _ p (HR.out.on B2) hp (HE.out.on B2)).mono ?_
 rintro e w3 ⟨v,ok,x,rfl,hx,hrd,hbt,hres⟩
 obtain⟨u0,u1,u2,u3,u4,u5,u6,u7,u8,rfl⟩:=hx.out.agg
 obtain⟨c0,c1,c2,c3,c4,c5,c6,cf,cl⟩:=X2.but hbt.out (by omega)
 have rf0:=cf 0
 have rf1:=cf 1
 have rf2:=cf 2
 have rf3:=cf 3
 have rf4:=cf 4
 have rf5:=cf 5
 have rf6:=cf 6
 clear cf X2 cS
 go_wp2
 refine bodyPost_ret (v:=.tuple #[.agg #[.string u0,.string u1,.int .i64 u2,.int .i64 u3,.string u4,.slice u5 u6 u7,.int .i64 u8],.bool ok]) (by simp[results,Tryz.results156,go_sem,c0,c1,c2,c3,c4,c5,c6]) rfl ⟨_,ok,x,rfl,?_,?_,?_,hres⟩
 ·exact ExIn.low (fun b _ (hb:w2.heap.size≤b)=>(show w.heap.size≤b by omega)) _ _ (hx.out.set7 (fun b (hb:w2.heap.size≤b)=>by omega) _ _ _ _ _ _ _)
 ·exact hrd.out.set7 (by omega) _ _ _ _ _ _ _
 ·exact ((But.of_below' B2 (by omega)).trans hbt.out).set7 (Nat.le_refl _) (by omega) _ _ _ _ _ _ _
theorem zhG(sub other:List Tok→Option Ex×List Tok)(ts:List Tok)(hg:Fit ts)(hsub:∀t rs,ts=t::rs→Reads 247 sub rs)(hoth:Reads 264 other ts):Reads 247 (zba [110,101,103] [[45]] sub other) ts:=by
 intro w r en h henv hr
 have HR:Aside (RdAt en w r ts):=h
 have HE:Aside (TEnv w):=henv
 have hl:=h.lt
 clear h henv
 have cS:=fun W p h hs he=>zdD (en:=en) 247 264 (fun args W=>by kernel_rfl) (fun args W=>by kernel_rfl) sub other [110,101,103] (by decide) [[45]] ts hg hsub hoth W r p h hs he hr
 have X0:=zaq w (.string ⟨#[]⟩) (.string ⟨#[]⟩) (.int .i64 0) (.int .i64 0) (.string ⟨#[]⟩) (.slice none 0 0) (.int .i64 0) 30
 have b0:=(Below.refl w.heap.size w).alloc (Nat.le_refl _) (.cells #[.string ⟨#[]⟩,.string ⟨#[]⟩,.int .i64 0,.int .i64 0,.string ⟨#[]⟩,.slice none 0 0,.int .i64 0] 30)
 have b1:=al (w.alloc (.cells #[.string ⟨#[]⟩,.string ⟨#[]⟩,.int .i64 0,.int .i64 0,.string ⟨#[]⟩,.slice none 0 0,.int .i64 0] 30)) (.cells #[.string ⟨#[45]⟩] 9)
 have X1:=X0.on b1
 have cO:=zaA (w.heap.size+1) 1 r [[45]] ((w.alloc (.cells #[.string ⟨#[]⟩,.string ⟨#[]⟩,.int .i64 0,.int .i64 0,.string ⟨#[]⟩,.slice none 0 0,.int .i64 0] 30)).alloc (.cells #[.string ⟨#[45]⟩] 9)) (by decide) (zaw _ _ (by simp) _ _ _ (fun j hj=>match j,hj with
  | 0,_=>rfl)) (by omega) (by simp;omega)
 have b2:=b0.trans (b1.mono (by simp))
 clear X0 b1 b0
 go_enter Tryz.func247,Tryz.ntmps247
 go_wp2_with fail
 refine cO.mono ?_
 rintro e w2 ⟨⟨p,rfl,hp⟩,b3⟩
 have X2:=X1.on b3
 have B2:=b2.trans (b3.mono (by simp;omega))
 have hz2:w.heap.size+2≤w2.heap.size:=by have:=b3.size;simpa using this
 clear X1 b2 b3 cO
 go_wp2_with fail
 refine (cS _ p (HR.out.on B2) hp (HE.out.on B2)).mono ?_
 rintro e w3 ⟨v,ok,x,rfl,hx,hrd,hbt,hres⟩
 obtain⟨u0,u1,u2,u3,u4,u5,u6,u7,u8,rfl⟩:=hx.out.agg
 obtain⟨c0,c1,c2,c3,c4,c5,c6,cf,cl⟩:=X2.but hbt.out (by omega)
 have rf0:=cf 0
 have rf1:=cf 1
 have rf2:=cf 2
 have rf3:=cf 3
 have rf4:=cf 4
 have rf5:=cf 5
 have rf6:=cf 6
 clear cf X2 cS
 go_wp2
 refine bodyPost_ret (v:=.tuple #[.agg #[.string u0,.string u1,.int .i64 u2,.int .i64 u3,.string u4,.slice u5 u6 u7,.int .i64 u8],.bool ok]) (by simp[results,Tryz.results247,go_sem,c0,c1,c2,c3,c4,c5,c6]) rfl ⟨_,ok,x,rfl,?_,?_,?_,hres⟩
 ·exact ExIn.low (fun b _ (hb:w2.heap.size≤b)=>(show w.heap.size≤b by omega)) _ _ (hx.out.set7 (fun b (hb:w2.heap.size≤b)=>by omega) _ _ _ _ _ _ _)
 ·exact hrd.out.set7 (by omega) _ _ _ _ _ _ _
 ·exact ((But.of_below' B2 (by omega)).trans hbt.out).set7 (Nat.le_refl _) (by omega) _ _ _ _ _ _ _
end
section
open Go.BigFrame
variable {en : Nat}

theorem zmZ{sub:List Tok→Option Ex×List Tok}{ts:List Tok}(h:(sub ts).1=none):uCmp sub ts=(none,(sub ts).2):=by
 rw[uCmp]
 cases h3:sub ts with
 | mk o r=>rw[h3] at h;simp only at h;subst h;rfl
theorem ztb{sub:List Tok→Option Ex×List Tok}{ts:List Tok}{a:Ex}(h:(sub ts).1=some a)(hn:nxT (sgT cmpL) (sub ts).2=none):uCmp sub ts=(some a,(sub ts).2):=by
 rw[uCmp]
 cases h3:sub ts with
 | mk o r=>rw[h3] at h hn;simp only at h hn;subst h;simp only[hn]
theorem zqC{sub:List Tok→Option Ex×List Tok}{ts rs:List Tok}{a:Ex}{t:Tok}(h:(sub ts).1=some a)(hn:nxT (sgT cmpL) (sub ts).2=some (t,rs)):uCmp sub ts=((sub rs).1.map fun b=>betT a t b,(sub rs).2):=by
 rw[uCmp]
 cases h3:sub ts with
 | mk o r =>
  rw[h3] at h hn;simp only at h hn;subst h;simp only[hn]
  cases sub rs with
  | mk o r=>cases o<;>rfl
theorem zeA(W:World)(lo:Nat→Prop):ExIn W lo (.agg #[.string ⟨#[]⟩,.string ⟨#[]⟩,.int .i64 0,.int .i64 0,.string ⟨#[]⟩,.slice none 0 0,.int .i64 0]) ex0:=by
 rw[ex0]
 exact zid (by decide) (by decide) (by decide)
theorem zfp(sub:List Tok→Option Ex×List Tok)(ts:List Tok)(hsuf:Suf sub)(hg:Fit ts)(hsub:∀ts',ts' <:+ ts→Reads 211 sub ts'):Reads 185 (uCmp sub) ts:=by
 intro w r en h henv hr
 have HR:Aside (RdAt en w r ts):=h
 have HE:Aside (TEnv w):=henv
 have HG:Aside (Fit ts):=hg
 have hl:=h.lt
 have cA:=hsub ts List.suffix_rfl
 have HC:Aside (∀ts',ts' <:+ ts→Reads 211 sub ts'):=hsub
 clear h henv hg hsub
 have b0:=al w (.cells #[.string ⟨#[]⟩,.string ⟨#[]⟩,.int .i64 0,.int .i64 0,.string ⟨#[]⟩,.slice none 0 0,.int .i64 0] 30)
 have X0:=zaq w (.string ⟨#[]⟩) (.string ⟨#[]⟩) (.int .i64 0) (.int .i64 0) (.string ⟨#[]⟩) (.slice none 0 0) (.int .i64 0) 30
 go_enter Tryz.func185,Tryz.ntmps185
 go_wp2_with fail
 refine (cA _ r (HR.out.on b0) (HE.out.on b0) hr).mono ?_
 rintro e w1 ⟨v,ok,x,rfl,hx,hrd,hbt,hres⟩
 obtain⟨o1,n1,t1,k1,s1,p1,m1,q1,a1,rfl⟩:=hx.out.agg
 have X1:=X0.but hbt.out (by omega)
 have L1:=zaq w1 (.string o1) (.string n1) (.int .i64 t1) (.int .i64 k1) (.string s1) (.slice p1 m1 q1) (.int .i64 a1) 30
 have bb:=al w1 (.cells #[.string o1,.string n1,.int .i64 t1,.int .i64 k1,.string s1,.slice p1 m1 q1,.int .i64 a1] 30)
 have X2:=X1.on bb
 have hz0:w.heap.size+1≤w1.heap.size:=by have:=hbt.out.size;simpa using this
 have B1:But r w w1:=(But.of_below' b0 (by omega)).trans hbt.out
 clear X0 cA
 cases ok
 ·have hU:=zmZ (sub:=sub) (ts:=ts) hres.out
  obtain⟨d0,d1,d2,d3,d4,d5,d6,df,dl⟩:=X1
  have df0:=df 0
  have df1:=df 1
  have df2:=df 2
  have df3:=df 3
  have df4:=df 4
  have df5:=df 5
  have df6:=df 6
  clear df L1 X2 bb
  go_wp2
  refine bodyPost_ret (v:=.tuple #[.agg #[.string ⟨#[]⟩,.string ⟨#[]⟩,.int .i64 0,.int .i64 0,.string ⟨#[]⟩,.slice none 0 0,.int .i64 0],.bool false]) (by simp[results,Tryz.results185,go_sem,d0,d1,d2,d3,d4,d5,d6,dl]) rfl ⟨_,false,ex0,rfl,?_,?_,?_,?_⟩
  ·exact zeA _ _
  ·rw[hU];exact (hrd.out.set7 (by omega) _ _ _ _ _ _ _).on (al _ _)
  ·exact (B1.set7 (Nat.le_refl _) (by omega) _ _ _ _ _ _ _).on (al _ _) hl
  ·rw[hU];exact rfl
 ·have b2:=al (w1.alloc (.cells #[.string o1,.string n1,.int .i64 t1,.int .i64 k1,.string s1,.slice p1 m1 q1,.int .i64 a1] 30)) (.cells #[.string ⟨#[61]⟩,.string ⟨#[60,62]⟩,.string ⟨#[60]⟩,.string ⟨#[60,61]⟩,.string ⟨#[62]⟩,.string ⟨#[62,61]⟩] 9)
  have cO:=zaA (w1.heap.size+1) 6 r cmpL ((w1.alloc (.cells #[.string o1,.string n1,.int .i64 t1,.int .i64 k1,.string s1,.slice p1 m1 q1,.int .i64 a1] 30)).alloc (.cells #[.string ⟨#[61]⟩,.string ⟨#[60,62]⟩,.string ⟨#[60]⟩,.string ⟨#[60,61]⟩,.string ⟨#[62]⟩,.string ⟨#[62,61]⟩] 9)) (by decide) (zaw _ _ (by simp) _ _ _ (fun j hj=>match j,hj with
   | 0,_=>rfl
   | 1,_=>rfl
   | 2,_=>rfl
   | 3,_=>rfl
   | 4,_=>rfl
   | 5,_=>rfl)) (by omega) (by simp;omega)
  go_wp2_with fail
  refine cO.mono ?_
  rintro e w2 ⟨⟨p,rfl,hp⟩,b3⟩
  have B2:Below w1.heap.size w1 w2:=(bb.trans (b2.mono (by simp))).trans (b3.mono (by simp;omega))
  have hz2:w1.heap.size+2≤w2.heap.size:=by have:=b3.size;simpa using this
  have L2:=(L1.on b2).on b3
  have Z2:=X1.on B2
  have rd2:=hrd.out.on B2
  have x2:=ExIn.low (lo':=fun b=>w.heap.size<b∧b<w1.heap.size) (fun b h1 h2=>⟨by simp at h2;omega,h1⟩) _ _ hx.out
  have x3:=x2.on B2
  have BB2:=B1.on B2 hl
  clear X1 X2 L1 bb b2 b3 cO x2 hx hrd hbt B2
  cases hn:nxT (sgT cmpL) (sub ts).2 with
  | none =>
   have cT:=zap cmpL p w2 r (sub ts).2 rd2 hp.sign hn
   have hU:=ztb hres.out hn
   rw[noTok] at cT
   clear hn
   go_wp2_with fail
   refine cT.mono ?_
   rintro e w3 ⟨rfl,rd3,b3⟩
   have hz3:=b3.size
   obtain⟨c0,c1,c2,c3,c4,c5,c6,cf,cl⟩:=L2.but b3 (by omega)
   obtain⟨d0,d1,d2,d3,d4,d5,d6,df,dl⟩:=Z2.but b3 (by omega)
   have df0:=df 0
   have df1:=df 1
   have df2:=df 2
   have df3:=df 3
   have df4:=df 4
   have df5:=df 5
   have df6:=df 6
   clear df cf cT
   go_wp2
   refine bodyPost_ret (v:=.tuple #[.agg #[.string o1,.string n1,.int .i64 t1,.int .i64 k1,.string s1,.slice p1 m1 q1,.int .i64 a1],.bool true]) (by simp[results,Tryz.results185,go_sem,d0,d1,d2,d3,d4,d5,d6,dl]) rfl ⟨_,true,x,rfl,?_,?_,?_,?_⟩
   ·exact ExIn.low (fun b _ hb=>(show w.heap.size≤b by have:=hb.1;omega)) _ _ (((x3.but b3 (fun b hb=>by have:=hb.1;omega)).set7 (fun b hb=>by have:=hb.1;omega) _ _ _ _ _ _ _).on (al _ _))
   ·rw[hU];exact (rd3.set7 (by omega) _ _ _ _ _ _ _).on (al _ _)
   ·exact ((BB2.trans b3).set7 (Nat.le_refl _) (by omega) _ _ _ _ _ _ _).on (al _ _) hl
   ·rw[hU];exact rfl
  | some y =>
   obtain⟨tt,rs⟩:=y
   have cT:=zao cmpL p w2 r tt (sub ts).2 rs rd2 hp.sign hn
   have hU:=zqC hres.out hn
   have hsf:rs <:+ ts:=by
    have h1:=(zag hn).1
    have h2:=hsuf ts
    rw[h1] at h2
    exact (List.suffix_cons tt rs).trans h2
   have hts:tt.2.1.size≤400:=by
    have h1:=(zag hn).1
    have h2:=hsuf ts
    rw[h1] at h2
    exact HG.out _ (h2.mem List.mem_cons_self)
   have cP:=HC.out rs hsf
   have cBt:=fun W v2 y (h1:ExIn W (w.heap.size < ·) (.agg #[.string o1,.string n1,.int .i64 t1,.int .i64 k1,.string s1,.slice p1 m1 q1,.int .i64 a1]) x) (h2:ExIn W (w.heap.size < ·) v2 y) (hW:w.heap.size<W.heap.size)=>zez W _ tt _ v2 x y h1 h2 (fun b hb=>Nat.lt_of_lt_of_le hW hb) (by unfold maxLen;omega)
   rw[tokV] at cT cBt
   obtain⟨tk,tx,ta⟩:=tt
   simp only at cT cBt hts
   clear hn
   go_wp2_with fail
   refine cT.mono ?_
   rintro e w3 ⟨rfl,rd3,b3⟩
   have hz3:=b3.size
   have bb:=al w3 (.cells #[.int .i64 tk,.string tx,.int .i64 (ta:Int)] 83)
   have L3:=(L2.but b3 (by omega)).on bb
   have Z3:=(Z2.but b3 (by omega)).on bb
   have BB3:=(BB2.trans b3).on bb hl
   have x4:=(x3.but b3 (fun b hb=>by have:=hb.1;omega)).on bb
   clear L2 Z2 cT x3 BB2
   go_wp2_with fail
   refine (cP _ r (rd3.on bb) (HE.out.but BB3 hr) hr).mono ?_
   rintro e w4 ⟨v,ok,y,rfl,hy,hrd,hbt,hry⟩
   obtain⟨o9,n9,t9,k9,s9,p9,m9,c9,a9,rfl⟩:=hy.out.agg
   have hz4:w3.heap.size+1≤w4.heap.size:=by have:=hbt.out.size;simpa using this
   have hlt4:w3.heap.size<w4.heap.size:=by omega
   have T3:∀i,w4.cell? ⟨w3.heap.size,i,none⟩=(#[.int .i64 tk,.string tx,.int .i64 (ta:Int)]:Array Value)[i]?:=fun i=>by
    rw[hbt.out.cell _ (by simp) (by omega),World.cell?_alloc_at _ _ _ _ rfl]
   have g0:=T3 0
   have g1:=T3 1
   have g2:=T3 2
   simp at g0 g1 g2
   have BB4:=BB3.trans hbt.out
   have L4:=L3.but hbt.out (by omega)
   have Z4:=Z3.but hbt.out (by omega)
   have x5:=x4.but hbt.out (fun b hb=>by have:=hb.1;omega)
   have b5:=al w4 (.cells #[.string o9,.string n9,.int .i64 t9,.int .i64 k9,.string s9,.slice p9 m9 c9,.int .i64 a9] 30)
   have C4:=cBt _ _ y (ExIn.low (fun b _ hb=>(show w.heap.size<b by have:=hb.1;omega)) _ _ (x5.on b5)) (ExIn.low (fun b _ hb=>(show w.heap.size<b by simp at hb;omega)) _ _ (hy.out.on b5)) (by simp;omega)
   obtain⟨c0,c1,c2,c3,c4,c5,c6,cf,cl⟩:=L4
   have Z5:=Z4.on b5
   clear cf T3 L3 Z3 x4 x5 hy cBt cP bb
   go_wp2_with fail
   refine C4.mono ?_
   rintro e w5 ⟨⟨v,rfl,hv⟩,b6⟩
   obtain⟨u0,u1,u2,u3,u4,u5,u6,u7,u8,rfl⟩:=hv.agg
   obtain⟨d0,d1,d2,d3,d4,d5,d6,df,dl⟩:=Z5.on b6
   have df0:=df 0
   have df1:=df 1
   have df2:=df 2
   have df3:=df 3
   have df4:=df 4
   have df5:=df 5
   have df6:=df 6
   clear df
   go_wp2
   refine bodyPost_ret (v:=.tuple #[.agg #[.string u0,.string u1,.int .i64 u2,.int .i64 u3,.string u4,.slice u5 u6 u7,.int .i64 u8],.bool ok]) (by simp[results,Tryz.results185,go_sem,d0,d1,d2,d3,d4,d5,d6]) rfl ⟨_,ok,betT x (tk,tx,ta) y,rfl,?_,?_,?_,?_⟩
   ·exact ExIn.low (fun b _ (hb:w.heap.size<b)=>(show w.heap.size≤b by omega)) _ _ (hv.set7 (fun b (hb:w.heap.size<b)=>by omega) _ _ _ _ _ _ _)
   ·rw[hU];exact ((hrd.out.on b5).on b6).set7 (by omega) _ _ _ _ _ _ _
   ·exact ((BB4.on b5 hl).on b6 hl).set7 (Nat.le_refl _) (by omega) _ _ _ _ _ _ _
   ·rw[hU];exact zuo hry.out
end
def zaZ(w:World)(b off:Nat)(zs:List (ByteArray×Int)):Prop :=
 b<w.heap.size∧∀j (h:j<zs.length),w.cell? ⟨b,off+j*2,none⟩=some (.string zs[j].1)∧w.cell? ⟨b,off+j*2+1,none⟩=some (.int .i64 zs[j].2)
theorem zaZ.on{w w':World}{b off:Nat}{zs:List (ByteArray×Int)}(h:zaZ w b off zs)(hb:Below w.heap.size w w'):zaZ w' b off zs :=
 ⟨by have:=hb.size;have:=h.1;omega,fun j hj=>by
  rw[hb.cell (p:=⟨b,off+j*2,none⟩) h.1,hb.cell (p:=⟨b,off+j*2+1,none⟩) h.1];exact h.2 j hj⟩
theorem zaZ.take{w:World}{b off:Nat}{zs:List (ByteArray×Int)}(h:zaZ w b off zs)(k:Nat):zaZ w b off (zs.take k) :=
 ⟨h.1,fun j hj=>by
  have hj':j<zs.length:=by rw[List.length_take] at hj;omega
  have:=h.2 j hj'
  simpa [List.getElem_take] using this⟩
def findN(x:List UInt8)(zs:List (ByteArray×Int)):Int:=match zs.findIdx? (fun z=>z.1.data.toList == x) with
 | some k=>k
 | none=>-1
theorem zij{x:List UInt8}{zs:List (ByteArray×Int)}{k:Nat}(h:k<zs.length)(he:zs[k].1.data.toList=x)(hn:∀j (hj:j<k),zs[j].1.data.toList≠x):findN x zs=k:=by
 have:zs.findIdx? (fun z=>z.1.data.toList == x)=some k:=by
  rw[List.findIdx?_eq_some_iff_getElem]
  exact⟨h,by simpa using he,fun j hj=>by simpa using hn j hj⟩
 rw[findN,this]
theorem zkq{x:List UInt8}{zs:List (ByteArray×Int)}(hn:∀j (hj:j<zs.length),zs[j].1.data.toList≠x):findN x zs=-1:=by
 have:zs.findIdx? (fun z=>z.1.data.toList == x)=none:=by
  rw[List.findIdx?_eq_none_iff]
  intro z hz
  obtain⟨j,hj,rfl⟩:=List.getElem_of_mem hz
  simpa using hn j hj
 rw[findN,this]

theorem zkE(nm x:ByteArray)(t:Int)(p:Nat)(w:World)(hp:w.cell? ⟨p,0,none⟩=some (.string nm)) :
  Calls Tryz.prog 140 #[.agg #[.string x,.int .i64 t],.pointer (some ⟨p,0,none⟩)] w fun e w'=>e=.returned (.bool (x.data.toList == nm.data.toList))∧Below w.heap.size w w':=by
 have hl:p<w.heap.size:=by
  rcases Nat.lt_or_ge p w.heap.size with h'|h'
  ·exact h'
  ·simp[World.cell?,Array.getElem?_eq_none h'] at hp
 go_enter Tryz.func140,Tryz.ntmps140
 go_wp2
 go_ret
 exact⟨by simp only[Lib.toList_data];rfl,(Below.refl _ _).alloc (Nat.le_refl _) _⟩
theorem zgh(nm:ByteArray)(b off c p:Nat)(zs:List (ByteArray×Int))(w:World)(hn:zs.length≤9223372036854775807)(hc:zaZ w b off zs)(hp:w.cell? ⟨p,0,none⟩=some (.string nm))(hpl:p<w.heap.size) :
  Calls Tryz.prog 139 #[.slice (some ⟨b,off,none⟩) zs.length c,.func (.func 140) #[] #[.pointer (some ⟨p,0,none⟩)]] w fun e w'=>e=.returned (.int .i64 (findN nm.data.toList zs))∧Below w.heap.size w w':=by
 go_enter Tryz.func139,Tryz.ntmps139
 go_wp2
 go_loopg [5,8] zs.length (fun gg _ s8 wr=>∃kk:Nat,kk≤zs.length∧zs.length-kk≤gg∧s8=.int .i64 kk∧Aside (Below w.heap.size w wr)∧Aside (∀j (hj:j<zs.length),j<kk→zs[j].1.data.toList≠nm.data.toList))
 case atStart=>exact⟨0,Nat.zero_le _,by omega,rfl,Below.refl _ w,fun j _ hj=>absurd hj (Nat.not_lt_zero _)⟩
 case round =>
  obtain⟨kk,hkk,hg,rfl,BW,A⟩:=hrel
  by_cases hlt:kk<zs.length
  ·have hltz:(kk:Int)<(zs.length:Int):=by omega
   obtain⟨c0,c1⟩:=(hc.on BW.out).2 kk hlt
   generalize hy:zs[kk]=y at c0 c1
   obtain⟨yn,yt⟩:=y
   have hcall:=zkE nm yn yt p wr (by rw[BW.out.cell (p:=⟨p,0,none⟩) hpl];exact hp)
   have HY:Hid (zs[kk]=(yn,yt)):=hy
   clear hy
   by_cases he:yn.data.toList=nm.data.toList
   ·have hq:(yn.data.toList == nm.data.toList)=true:=by simpa using he
    rw[hq] at hcall
    go_wp2_with (go_at_call 140;refine hcall.mono ?_;rintro e w' ⟨rfl,hb'⟩)
    go_ret
    refine⟨?_,BW.out.trans (hb'.mono BW.out.size)⟩
    rw[zij hlt (by rw[HY.out];exact he) (fun j hj=>A.out j (by omega) hj)]
    rfl
   ·have hq:(yn.data.toList == nm.data.toList)=false:=by simpa using he
    rw[hq] at hcall
    go_wp2_with (go_at_call 140;refine hcall.mono ?_;rintro e w' ⟨rfl,hb'⟩)
    go_roundg (zs.length-(kk+1))
    case measure=>omega
    case rel =>
     refine⟨kk+1,by omega,by omega,by go_num,BW.out.trans (hb'.mono BW.out.size),(show Aside _ from fun j hj hjk=>?_)⟩
     by_cases e:j=kk
     ·subst e
      rw[HY.out];exact he
     ·exact A.out j hj (by omega)
  ·have hltz:¬(kk:Int)<(zs.length:Int):=by omega
   go_wp2
   go_ret
   refine⟨?_,BW.out⟩
   rw[zkq (fun j hj=>A.out j hj (by omega))]
   rfl
theorem zfb(nm:ByteArray)(b off c:Nat)(zs:List (ByteArray×Int))(w:World)(hn:zs.length≤9223372036854775807)(hc:zaZ w b off zs) :
  Calls Tryz.prog 109 #[.slice (some ⟨b,off,none⟩) zs.length c,.string nm] w fun e w'=>e=.returned (.int .i64 (findN nm.data.toList zs))∧Below w.heap.size w w':=by
 have hb0:Below w.heap.size w (w.alloc (.cells #[.string nm] 9)):=(Below.refl _ _).alloc (Nat.le_refl _) _
 have hc1:=hc.on hb0
 go_enter Tryz.func109,Tryz.ntmps109
 go_wp2_with fail
 refine (zgh nm b off c w.heap.size zs _ hn hc1 (by simp) (by simp)).mono ?_
 rintro e w' ⟨rfl,b1⟩
 go_wp2
 go_ret
 exact⟨rfl,hb0.trans (b1.mono (by simp))⟩
theorem zbA(x:List UInt8)(zs:List (ByteArray×Int)):(findN x zs=-1∧∀j (hj:j<zs.length),zs[j].1.data.toList≠x)∨∃k:Nat,findN x zs=k∧∃h:k<zs.length,zs[k].1.data.toList=x∧∀j (hj:j<k),zs[j].1.data.toList≠x:=by
 rw[findN]
 cases h:zs.findIdx? (fun z=>z.1.data.toList == x) with
 | none =>
  left
  refine⟨rfl,fun j hj=>?_⟩
  rw[List.findIdx?_eq_none_iff] at h
  simpa using h _ (List.getElem_mem hj)
 | some k =>
  right
  rw[List.findIdx?_eq_some_iff_getElem] at h
  obtain⟨hk,he,hn⟩:=h
  exact⟨k,rfl,hk,by simpa using he,fun j hj=>by simpa using hn j hj⟩
theorem zgP(nm:ByteArray)(b off c:Nat)(zs:List (ByteArray×Int))(w:World)(hn:zs.length≤9223372036854775807)(hc:zaZ w b off zs)(k:Nat)(hk:findN nm.data.toList zs=k) :
  Calls Tryz.prog 76 #[.slice (some ⟨b,off,none⟩) zs.length c,.string nm] w fun e w'=>e=.returned (.tuple #[.int .i64 k,.nilIface])∧Below w.heap.size w w':=by
 go_enter Tryz.func76,Tryz.ntmps76
 go_wp2_with fail
 refine (zfb nm b off c zs _ hn hc).mono ?_
 rintro e w' ⟨rfl,b1⟩
 rw[hk]
 go_wp2
 go_ret2
 exact⟨rfl,b1⟩
theorem ziK(nm:ByteArray)(b off c:Nat)(zs:List (ByteArray×Int))(w:World)(hn:zs.length≤9223372036854775807)(hc:zaZ w b off zs)(hk:findN nm.data.toList zs=-1) :
  Calls Tryz.prog 76 #[.slice (some ⟨b,off,none⟩) zs.length c,.string nm] w fun e w'=>e=.returned (.tuple #[.int .i64 0,.iface 35 (.int .i64 5)])∧Below w.heap.size w w':=by
 go_enter Tryz.func76,Tryz.ntmps76
 go_wp2_with fail
 refine (zfb nm b off c zs _ hn hc).mono ?_
 rintro e w' ⟨rfl,b1⟩
 rw[hk]
 go_wp2
 go_ret2
 exact⟨rfl,b1⟩

def letN(c:UInt8):Bool:=decide (97≤c.toNat)&&decide (c.toNat≤122)
def nameB(l:List UInt8):Bool:=decide (1≤l.length)&&(decide (l.length≤8)&&l.all letN)
def noLet(r:Int):Bool:=decide (r<97)||decide (122<r)
theorem zeu(r:Int)(w:World) :
  Calls Tryz.prog 121 #[.int .i32 r] w fun e w'=>e=.returned (.bool (noLet r))∧w'=w:=by
 by_cases h1:r<97
 ·rw[show noLet r=true by simp[noLet,h1]]
  go_enter Tryz.func121,Tryz.ntmps121
  go_wp2
  go_ret
  exact⟨rfl,rfl⟩
 ·by_cases h2:122<r
  ·rw[show noLet r=true by simp[noLet,h2]]
   go_enter Tryz.func121,Tryz.ntmps121
   go_wp2
   go_ret
   exact⟨rfl,rfl⟩
  ·rw[show noLet r=false by simp[noLet,h1,h2]]
   go_enter Tryz.func121,Tryz.ntmps121
   go_wp2
   go_ret
   exact⟨rfl,rfl⟩
theorem zpZ(s:ByteArray)(k:Nat)(h:k<s.size):(s.data.toList.take (k+1)).all letN=((s.data.toList.take k).all letN&&letN s[k]):=by
 have:s.data.toList.take (k+1)=s.data.toList.take k++[s[k]]:=by
  rw[List.take_succ_eq_append_getElem (by simpa using h)];rfl
 rw[this,List.all_append];simp
theorem zsk(s:ByteArray)(k:Nat)(h:k<s.size)(hc:letN s[k]=false):s.data.toList.all letN=false:=by
 rw[List.all_eq_false]
 exact⟨s[k],by rw[show s[k]=s.data.toList[k]'(by simpa using h) from rfl];exact List.getElem_mem _,by simp[hc]⟩
theorem zfx(s:ByteArray)(w:World) :
  Calls Tryz.prog 183 #[.string s,.func (.func 121) #[] #[],.bool true] w fun e w'=>(∃k:Int,e=.returned (.int .i64 k)∧decide (0≤k)=!s.data.toList.all letN)∧Below w.heap.size w w':=by
 go_enter Tryz.func183,Tryz.ntmps183
 go_wp2
 go_loopg [7,8] s.size (fun gf _ _ wx=>∃pos:Nat,wx.heap[w.heap.size]?=some (.stringIter s pos)∧Below w.heap.size w wx∧Hid ((s.data.toList.take pos).all letN=true)∧s.size≤pos+gf∧pos≤s.size)
 case atStart=>exact⟨0,World.iter_heap w s 0,(Below.refl _ w).alloc (Nat.le_refl _) _,(show Hid _ by simp[Hid]),by omega,by omega⟩
 case round =>
  obtain⟨pos,hit,hbw,HA,hfu,hps'⟩:=hrel
  by_cases hps:pos<s.size
  ·obtain⟨g',rfl⟩:∃g',gk=g'+1:=⟨gk-1,by omega⟩
   have hnx:∀ty,(Instr.next (.pointer (some ⟨w.heap.size,0,none⟩)) true ty).run Tryz.prog wr=_:=fun ty=>Lib.run_next_any_at wr w.heap.size s pos ty hit hps
   have hit2:=Lib.iterAt_heap wr w.heap.size s pos (pos+(Utf8.decode s pos).2) hit
   have hbw2:=Lib.below_iterAt hbw (k:=w.heap.size) (Nat.le_refl _) s (pos+(Utf8.decode s pos).2)
   by_cases hl:letN s[pos]=true
   ·have hlow:s[pos].toNat<128∧97≤s[pos].toNat∧s[pos].toNat≤122:=by simp[letN] at hl;omega
    have hd:=decode_ascii s pos hps hlow.1
    rw[hd] at hnx hit2 hbw2
    obtain⟨W,hWd⟩:∃W,wr.iterAt w.heap.size s (pos+1)=W:=⟨_,rfl⟩
    simp only[hWd] at hnx hit2 hbw2
    obtain⟨R,hR⟩:∃R:Int,(s[pos].toNat:Int)=R:=⟨_,rfl⟩
    simp only[hR] at hnx
    have cS:=zeu R W
    rw[show noLet R=false by simp[noLet];omega] at cS
    have HT:Hid ((s.data.toList.take (pos+1)).all letN=true):=by
     show _=_
     rw[zpZ s pos hps,HA.out,hl];rfl
    go_wp2_with (go_at_call 121;refine cS.mono ?_;rintro e W' ⟨rfl,rfl⟩)
    go_roundg g'
    case measure=>omega
    case rel=>exact⟨pos+1,hit2,hbw2,HT,by omega,by omega⟩
   ·have hl':letN s[pos]=false:=by simpa using hl
    have HF:Hid (s.data.toList.all letN=false):=zsk s pos hps hl'
    obtain⟨R,hR⟩:∃R,(Utf8.decode s pos).1=R:=⟨_,rfl⟩
    obtain⟨K,hK⟩:∃K,(Utf8.decode s pos).2=K:=⟨_,rfl⟩
    have hno:noLet (R:Int)=true:=by
     by_cases hlow:s[pos].toNat<128
     ·have hd:=decode_ascii s pos hps hlow
      rw[hd] at hR
      simp only at hR
      subst hR
      simp[letN] at hl'
      simp[noLet]
      omega
     ·have:=(decode_high s pos hps (by omega)).1
      rw[hR] at this
      simp[noLet];omega
    rw[hR,hK] at hnx
    rw[hK] at hit2 hbw2
    obtain⟨W,hWd⟩:∃W,wr.iterAt w.heap.size s (pos+K)=W:=⟨_,rfl⟩
    rw[hWd] at hnx hit2 hbw2
    have cS:=zeu (R:Int) W
    rw[hno] at cS
    go_wp2_with (go_at_call 121;refine cS.mono ?_;rintro e W' ⟨rfl,rfl⟩)
    go_ret
    exact⟨⟨pos,rfl,by rw[HF.out];simp⟩,hbw2⟩
  ·have hnx:∀ty,(Instr.next (.pointer (some ⟨w.heap.size,0,none⟩)) true ty).run Tryz.prog wr=_:=fun ty=>Lib.run_next_end_at wr w.heap.size s pos ty hit hps
   have HF:Hid (s.data.toList.all letN=true):=by
    show _=_
    have:=HA.out
    rwa [List.take_of_length_le (by simp;omega)] at this
   go_wp2
   go_ret
   exact⟨⟨-1,rfl,by rw[HF.out];rfl⟩,hbw⟩
theorem zcV(s:ByteArray)(w:World) :
  Calls Tryz.prog 122 #[.string s,.func (.func 121) #[] #[]] w fun e w'=>e=.returned (.bool (!s.data.toList.all letN))∧Below w.heap.size w w':=by
 have hI:Calls Tryz.prog 154 #[.string s,.func (.func 121) #[] #[]] w fun e w'=>(∃k:Int,e=.returned (.int .i64 k)∧Hid (decide (0≤k)=!s.data.toList.all letN))∧Below w.heap.size w w':=by
  go_enter Tryz.func154,Tryz.ntmps154
  go_wp2_with fail
  refine (zfx s _).mono ?_
  rintro e w' ⟨⟨k,rfl,hk⟩,b1⟩
  have HK:Hid (decide (0≤k)=!s.data.toList.all letN):=hk
  clear hk
  go_wp2
  go_ret
  exact⟨⟨k,rfl,HK⟩,b1⟩
 generalize (!s.data.toList.all letN)=g at hI
 go_enter Tryz.func122,Tryz.ntmps122
 go_wp2_with fail
 refine hI.mono ?_
 rintro e w' ⟨⟨k,rfl,HK⟩,b1⟩
 go_wp2
 go_ret
 refine⟨?_,b1⟩
 rw[←HK.out]
 rfl
theorem zdH(s:ByteArray)(w:World)(hs:s.size≤maxLen) :
  Calls Tryz.prog 93 #[.string s] w fun e w'=>e=.returned (.bool (nameB s.data.toList))∧Below w.heap.size w w':=by
 have hs2:=hs
 unfold maxLen at hs2
 have hd:s.data.toList.length=s.size:=by simp
 by_cases h1:1≤s.size
 ·by_cases h2:s.size≤8
  ·have hnm:nameB s.data.toList=!(!s.data.toList.all letN):=by rw[nameB,hd,decide_eq_true h1,decide_eq_true h2];simp
   rw[hnm]
   generalize hg:(!s.data.toList.all letN)=g
   have cS:=zcV s
   rw[hg] at cS
   clear hg hnm
   have z1:(1:Int)≤(s.size:Int):=by omega
   have z2:(s.size:Int)≤8:=by omega
   go_enter Tryz.func93,Tryz.ntmps93
   go_wp2_with (go_at_call 122;refine (cS _).mono ?_;rintro e w' ⟨rfl,b1⟩)
   go_ret
   exact⟨rfl,b1⟩
  ·have hnm:nameB s.data.toList=false:=by rw[nameB,hd,decide_eq_false h2];simp
   rw[hnm]
   have z1:(1:Int)≤(s.size:Int):=by omega
   have z2:¬(s.size:Int)≤8:=by omega
   go_enter Tryz.func93,Tryz.ntmps93
   go_wp2
   go_ret
   exact⟨rfl,Below.refl _ _⟩
 ·have hnm:nameB s.data.toList=false:=by rw[nameB,hd,decide_eq_false h1];simp
  rw[hnm]
  have z1:¬(1:Int)≤(s.size:Int):=by omega
  go_enter Tryz.func93,Tryz.ntmps93
  go_wp2
  go_ret
  exact⟨rfl,Below.refl _ _⟩
section
open Go.BigFrame
theorem zty(k:Nat)(hk:k<19):∃S:ByteArray,(∀W:World,Sem.run Tryz.prog (Instr.index 196 (.agg zkM) (.int .i64 (k:Int))) W=.ok (.string S) W)∧zcy[k]'hk=S.data.toList:=by
 have h:k=0∨k=1∨k=2∨k=3∨k=4∨k=5∨k=6∨k=7∨k=8∨k=9∨k=10∨k=11∨k=12∨k=13∨k=14∨k=15∨k=16∨k=17∨k=18:=by omega
 rcases h with rfl|rfl|rfl|rfl|rfl|rfl|rfl|rfl|rfl|rfl|rfl|rfl|rfl|rfl|rfl|rfl|rfl|rfl|rfl
 ·exact⟨⟨#[111,114]⟩,fun W=>by kernel_rfl,rfl⟩
 ·exact⟨⟨#[97,110,100]⟩,fun W=>by kernel_rfl,rfl⟩
 ·exact⟨⟨#[110,111,116]⟩,fun W=>by kernel_rfl,rfl⟩
 ·exact⟨⟨#[116,114,117,101]⟩,fun W=>by kernel_rfl,rfl⟩
 ·exact⟨⟨#[102,97,108,115,101]⟩,fun W=>by kernel_rfl,rfl⟩
 ·exact⟨⟨#[108,101,110]⟩,fun W=>by kernel_rfl,rfl⟩
 ·exact⟨⟨#[105,102]⟩,fun W=>by kernel_rfl,rfl⟩
 ·exact⟨⟨#[115,101,108,101,99,116]⟩,fun W=>by kernel_rfl,rfl⟩
 ·exact⟨⟨#[97,115]⟩,fun W=>by kernel_rfl,rfl⟩
 ·exact⟨⟨#[102,114,111,109]⟩,fun W=>by kernel_rfl,rfl⟩
 ·exact⟨⟨#[119,104,101,114,101]⟩,fun W=>by kernel_rfl,rfl⟩
 ·exact⟨⟨#[103,114,111,117,112]⟩,fun W=>by kernel_rfl,rfl⟩
 ·exact⟨⟨#[98,121]⟩,fun W=>by kernel_rfl,rfl⟩
 ·exact⟨⟨#[119,105,110,100,111,119]⟩,fun W=>by kernel_rfl,rfl⟩
 ·exact⟨⟨#[115,108,105,100,101]⟩,fun W=>by kernel_rfl,rfl⟩
 ·exact⟨⟨#[99,111,117,110,116]⟩,fun W=>by kernel_rfl,rfl⟩
 ·exact⟨⟨#[115,117,109]⟩,fun W=>by kernel_rfl,rfl⟩
 ·exact⟨⟨#[108,101,97,115,116]⟩,fun W=>by kernel_rfl,rfl⟩
 ·exact⟨⟨#[109,111,115,116]⟩,fun W=>by kernel_rfl,rfl⟩
theorem zrK(k:Nat)(hk:k<19):∃(S:ByteArray) (n:Int),(∀W:World,Sem.run Tryz.prog (Instr.index 162 (.agg opsC) (.int .i64 (k:Int))) W=.ok (.agg #[.string S,.int .i64 n]) W)∧(opsL[k]'hk).1=S.data.toList∧(opsL[k]'hk).2=n:=by
 have h:k=0∨k=1∨k=2∨k=3∨k=4∨k=5∨k=6∨k=7∨k=8∨k=9∨k=10∨k=11∨k=12∨k=13∨k=14∨k=15∨k=16∨k=17∨k=18:=by omega
 rcases h with rfl|rfl|rfl|rfl|rfl|rfl|rfl|rfl|rfl|rfl|rfl|rfl|rfl|rfl|rfl|rfl|rfl|rfl|rfl
 ·exact⟨⟨#[118,97,108]⟩,0,fun W=>by kernel_rfl,rfl,rfl⟩
 ·exact⟨⟨#[99,111,108]⟩,0,fun W=>by kernel_rfl,rfl,rfl⟩
 ·exact⟨⟨#[111,114]⟩,2,fun W=>by kernel_rfl,rfl,rfl⟩
 ·exact⟨⟨#[97,110,100]⟩,2,fun W=>by kernel_rfl,rfl,rfl⟩
 ·exact⟨⟨#[110,111,116]⟩,1,fun W=>by kernel_rfl,rfl,rfl⟩
 ·exact⟨⟨#[61]⟩,2,fun W=>by kernel_rfl,rfl,rfl⟩
 ·exact⟨⟨#[60,62]⟩,2,fun W=>by kernel_rfl,rfl,rfl⟩
 ·exact⟨⟨#[60]⟩,2,fun W=>by kernel_rfl,rfl,rfl⟩
 ·exact⟨⟨#[60,61]⟩,2,fun W=>by kernel_rfl,rfl,rfl⟩
 ·exact⟨⟨#[62]⟩,2,fun W=>by kernel_rfl,rfl,rfl⟩
 ·exact⟨⟨#[62,61]⟩,2,fun W=>by kernel_rfl,rfl,rfl⟩
 ·exact⟨⟨#[43]⟩,2,fun W=>by kernel_rfl,rfl,rfl⟩
 ·exact⟨⟨#[45]⟩,2,fun W=>by kernel_rfl,rfl,rfl⟩
 ·exact⟨⟨#[42]⟩,2,fun W=>by kernel_rfl,rfl,rfl⟩
 ·exact⟨⟨#[47]⟩,2,fun W=>by kernel_rfl,rfl,rfl⟩
 ·exact⟨⟨#[37]⟩,2,fun W=>by kernel_rfl,rfl,rfl⟩
 ·exact⟨⟨#[110,101,103]⟩,1,fun W=>by kernel_rfl,rfl,rfl⟩
 ·exact⟨⟨#[108,101,110]⟩,1,fun W=>by kernel_rfl,rfl,rfl⟩
 ·exact⟨⟨#[105,102]⟩,3,fun W=>by kernel_rfl,rfl,rfl⟩
theorem zmj(x:ByteArray)(w:World)(henv:TEnv w) :
  Calls Tryz.prog 94 #[.string x] w fun e w'=>e=.returned (.bool (zcy.any (· == x.data.toList)))∧w'=w:=by
 obtain⟨tt,fr,hgl⟩:=henv.wds
 obtain⟨R,hR⟩:∃R,zcy.any (· == x.data.toList)=R:=⟨_,rfl⟩
 have HR:Hid (zcy.any (· == x.data.toList)=R):=hR
 rw[hR]
 clear hR
 go_enter Tryz.func94,Tryz.ntmps94
 go_wp2_with (refine wpList_load_row rfl 196 _ rfl 3 rfl tt _ fr _ hgl Tryz.underlying196 rfl (by kernel_rfl) ?_)
 have hat:=zty
 generalize Value.agg zkM=AR at hat ⊢
 clear hgl
 go_loopg [4,6] 19 (fun gg _ s6 wr=>∃kk:Nat,kk≤19∧19-kk≤gg∧s6=.int .i64 kk∧wr=w∧Hid ((zcy.drop kk).any (· == x.data.toList)=R))
 case atStart=>exact⟨0,Nat.zero_le _,by omega,rfl,rfl,HR⟩
 case round =>
  obtain⟨kk,hkk,hg,rfl,rfl,HE⟩:=hrel
  clear HR
  by_cases hlt:kk<19
  ·have hltz:(kk:Int)<19:=by omega
   obtain⟨S,hS,hS1⟩:=hat kk hlt
   clear hat
   have hd:zcy.drop kk=S.data.toList::zcy.drop (kk+1):=by
    rw[List.drop_eq_getElem_cons (show kk<zcy.length from hlt)]
    exact congrArg (·::_) hS1
   have HS:Hid ((S.data.toList::zcy.drop (kk+1)).any (· == x.data.toList)=R):=by show _=_;rw[←hd];exact HE.out
   clear hd hS1 HE
   by_cases he:S.data.toList=x.data.toList
   ·have hq:(S.toList == x.toList)=true:=by rw[Lib.toList_data,Lib.toList_data];simpa using he
    have hR2:true=R:=by
     have hb:(S.data.toList == x.data.toList)=true:=by simpa using he
     rw[←HS.out,List.any_cons,hb];rfl
    subst hR2
    clear HS
    go_wp2
    go_ret
    exact⟨rfl,rfl⟩
   ·have hq:(S.toList == x.toList)=false:=by rw[Lib.toList_data,Lib.toList_data];simpa using he
    have HS2:Hid ((zcy.drop (kk+1)).any (· == x.data.toList)=R):=by
     show _=_
     have hb:(S.data.toList == x.data.toList)=false:=by simpa using he
     rw[←HS.out,List.any_cons,hb,Bool.false_or]
    clear HS
    go_wp2
    go_roundg (19-(kk+1))
    case measure=>omega
    case rel=>exact⟨kk+1,by omega,by omega,by go_num,rfl,HS2⟩
  ·have hltz:¬(kk:Int)<19:=by omega
   have hR2:false=R:=by rw[←HE.out,List.drop_eq_nil_of_le (by show 19≤kk;omega)];rfl
   subst hR2
   clear HE
   go_wp2
   go_ret
   exact⟨rfl,rfl⟩
def apL(x:List UInt8):List (List UInt8×Int)→Int×Bool
 | []=>(0,false)
 | o::os=>if o.1=x then (o.2,true) else apL x os
theorem zfP(x:ByteArray)(w:World)(henv:TEnv w)(n:Int)(ok:Bool)(hx:apL x.data.toList opsL=(n,ok)) :
  Calls Tryz.prog 64 #[.string x] w fun e w'=>e=.returned (.tuple #[.int .i64 n,.bool ok])∧Below w.heap.size w w':=by
 obtain⟨tt,fr,hgl⟩:=henv.ops
 have HX:Hid (apL x.data.toList opsL=(n,ok)):=hx
 clear hx
 go_enter Tryz.func64,Tryz.ntmps64
 go_wp2_with (refine wpList_load_row rfl 162 _ rfl 0 rfl tt _ fr _ hgl Tryz.underlying162 rfl (by kernel_rfl) ?_)
 have hat:=zrK
 generalize Value.agg opsC=AR at hat ⊢
 clear hgl
 go_loopg [5,7] 19 (fun gg _ s7 wr=>∃kk:Nat,kk≤19∧19-kk≤gg∧s7=.int .i64 kk∧Aside (Below w.heap.size w wr)∧Hid (apL x.data.toList (opsL.drop kk)=(n,ok)))
 case atStart=>exact⟨0,Nat.zero_le _,by omega,rfl,(show Aside _ from Below.refl _ _),HX⟩
 case round =>
  obtain⟨kk,hkk,hg,rfl,BW,HE⟩:=hrel
  clear HX
  by_cases hlt:kk<19
  ·have hltz:(kk:Int)<19:=by omega
   obtain⟨S,m,hS,hS1,hS2⟩:=hat kk hlt
   clear hat
   have hd:opsL.drop kk=(S.data.toList,m)::opsL.drop (kk+1):=by
    rw[List.drop_eq_getElem_cons (show kk<opsL.length from hlt)]
    congr 1
    exact Prod.ext hS1 hS2
   have HS:Hid (apL x.data.toList ((S.data.toList,m)::opsL.drop (kk+1))=(n,ok)):=by show _=_;rw[←hd];exact HE.out
   clear hd hS1 hS2 HE
   by_cases he:S.data.toList=x.data.toList
   ·have hq:(S.toList == x.toList)=true:=by rw[Lib.toList_data,Lib.toList_data];simpa using he
    have hR2:(m,true)=(n,ok):=by rw[←HS.out,apL,if_pos he]
    obtain⟨rfl,rfl⟩:=Prod.mk.inj hR2
    clear HS
    go_wp2
    go_ret2
    exact⟨rfl,BW.out.alloc (by have:=BW.out.size;omega) _⟩
   ·have hq:(S.toList == x.toList)=false:=by rw[Lib.toList_data,Lib.toList_data];simpa using he
    have HS2:Hid (apL x.data.toList (opsL.drop (kk+1))=(n,ok)):=by
     show _=_
     rw[←HS.out,apL,if_neg he]
    clear HS
    go_wp2
    go_roundg (19-(kk+1))
    case measure=>omega
    case rel=>exact⟨kk+1,by omega,by omega,by go_num,(show Aside _ from BW.out.alloc (by have:=BW.out.size;omega) _),HS2⟩
  ·have hltz:¬(kk:Int)<19:=by omega
   have hR2:((0:Int),false)=(n,ok):=by rw[←HE.out,List.drop_eq_nil_of_le (by show 19≤kk;omega)];rfl
   obtain⟨rfl,rfl⟩:=Prod.mk.inj hR2
   clear HE
   go_wp2
   go_ret2
   exact⟨rfl,BW.out⟩
theorem zrS(l:List UInt8):nameB l=zhn l:=by
 have hl:∀c:UInt8,letN c=letB c:=fun c=>by
  rw[letN,letB]
  congr 1<;>exact decide_eq_decide.2 (by omega)
 rw[nameB,zhn,show (letN:UInt8→Bool)=letB from funext hl]
 cases l with
 | nil=>simp
 | cons c r=>simp
theorem zbQ(x:ByteArray)(w:World)(henv:TEnv w)(hs:x.size≤maxLen) :
  Calls Tryz.prog 58 #[.string x] w fun e w'=>e=.returned (.bool (nameT x.data.toList))∧Below w.heap.size w w':=by
 have cN:=zdH x w hs
 have cW:=fun W (hb:Below w.heap.size w W)=>zmj x W (henv.on hb)
 have HT:Hid (nameT x.data.toList=(nameB x.data.toList&&!(zcy.any (· == x.data.toList)))):=by show _=_;rw[nameT,zrS]
 obtain⟨R,hR⟩:∃R,nameT x.data.toList=R:=⟨_,rfl⟩
 rw[hR] at HT ⊢
 clear hR
 generalize nameB x.data.toList=A at cN HT
 generalize zcy.any (· == x.data.toList)=B at cW HT
 cases A
 ·obtain rfl:R=false:=HT.out
  clear HT cW
  go_enter Tryz.func58,Tryz.ntmps58
  go_wp2_with fail
  refine cN.mono ?_
  rintro e w1 ⟨rfl,b1⟩
  go_wp2
  go_ret
  exact⟨rfl,b1⟩
 ·cases B
  ·obtain rfl:R=true:=HT.out
   clear HT
   go_enter Tryz.func58,Tryz.ntmps58
   go_wp2_with fail
   refine cN.mono ?_
   rintro e w1 ⟨rfl,b1⟩
   go_wp2_with fail
   refine (cW _ b1).mono ?_
   rintro e w2 ⟨rfl,rfl⟩
   go_wp2
   go_ret
   exact⟨rfl,b1⟩
  ·obtain rfl:R=false:=HT.out
   clear HT
   go_enter Tryz.func58,Tryz.ntmps58
   go_wp2_with fail
   refine cN.mono ?_
   rintro e w1 ⟨rfl,b1⟩
   go_wp2_with fail
   refine (cW _ b1).mono ?_
   rintro e w2 ⟨rfl,rfl⟩
   go_wp2
   go_ret
   exact⟨rfl,b1⟩
theorem zdL(t:Tok)(w:World)(henv:TEnv w)(hs:t.2.1.size≤maxLen) :
  Calls Tryz.prog 270 #[tokV t] w fun e w'=>e=.returned (.bool (nmT t))∧Below w.heap.size w w':=by
 obtain⟨tk,tx,ta⟩:=t
 rw[tokV,nmT]
 simp only at hs ⊢
 have cC:=fun W (hb:Below w.heap.size w W)=>zbQ tx W (henv.on hb) hs
 generalize nameT tx.data.toList=R at cC
 go_enter Tryz.func270,Tryz.ntmps270
 go_wp2_with fail
 refine (cC _ (al _ _)).mono ?_
 rintro e w1 ⟨rfl,b1⟩
 go_wp2
 go_ret
 exact⟨rfl,(al _ _).trans (b1.mono (by simp))⟩
theorem zeo(t:Tok)(w:World)(henv:TEnv w)(hs:t.2.1.size≤400) :
  Calls Tryz.prog 269 #[tokV t] w fun e w'=>e=.returned (.bool (vlT t))∧Below w.heap.size w w':=by
 obtain⟨tk,tx,ta⟩:=t
 rw[tokV,vlT]
 simp only at hs ⊢
 have cC:=fun W (hb:Below w.heap.size w W)=>zfo tx W (by omega) (henv.env.on hb)
 obtain⟨vt,vn,vl,er,hv⟩:∃vt vn vl er,readV tx=(vt,vn,vl,er):=⟨_,_,_,_,rfl⟩
 rw[hv] at cC ⊢
 rw[readR] at cC
 simp only at cC ⊢
 by_cases he:er=0
 ·subst he
  rw[errV,if_pos rfl] at cC
  go_enter Tryz.func269,Tryz.ntmps269
  go_wp2_with fail
  refine (cC _ (al _ _)).mono ?_
  rintro e w1 ⟨rfl,b1⟩
  go_wp2
  go_ret
  exact⟨rfl,((al _ _).trans (b1.mono (by simp))).alloc (by have:=b1.size;simp at this;omega) _⟩
 ·rw[errV,if_neg he] at cC
  have hd:decide (er=0)=false:=by simpa using he
  rw[hd]
  go_enter Tryz.func269,Tryz.ntmps269
  go_wp2_with fail
  refine (cC _ (al _ _)).mono ?_
  rintro e w1 ⟨rfl,b1⟩
  go_wp2
  go_ret
  exact⟨rfl,((al _ _).trans (b1.mono (by simp))).alloc (by have:=b1.size;simp at this;omega) _⟩
end
end Go.Proofs.YtopghagjmdbglaaGreatDoor
