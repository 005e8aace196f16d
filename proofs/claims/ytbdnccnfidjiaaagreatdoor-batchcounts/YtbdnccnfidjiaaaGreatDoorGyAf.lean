/-
  TreeR4, TreeR5, TreeR6, TreeR7.
-/
import Derived.Test.YtbdnccnfidjiaaaGreatDoorGyAe
namespace Go.Proofs.YtbdnccnfidjiaaaGreatDoor
open Go.RowKit
set_option linter.unusedVariables false
set_option linter.unusedSimpArgs false
set_option maxHeartbeats 8000000
section
open Go.BigFrame
variable {en : Nat}

def Reads(f:FuncId)(sub:List Tok→Option Ex×List Tok)(ts:List Tok):Prop:=∀(w:World) (r:Nat) ⦃en:Nat⦄,RdAt en w r ts→TEnv w→12≤r →
 Calls Tryz.prog f #[.pointer (some ⟨r,0,none⟩)] w fun e w'=>∃v ok x,e=.returned (.tuple #[v,.bool ok])∧Aside (ExIn w' (w.heap.size≤·) v x)∧Aside (RdAt en w' r (sub ts).2)∧Aside (But r w w')∧Hid ((sub ts).1=if ok=true then some x else none)
structure Box7(w:World)(b:Nat)(a0 a1 a2 a3 a4 a5 a6:Value):Prop where
 c0:w.cell? ⟨b,0,none⟩=some a0
 c1:w.cell? ⟨b,1,none⟩=some a1
 c2:w.cell? ⟨b,2,none⟩=some a2
 c3:w.cell? ⟨b,3,none⟩=some a3
 c4:w.cell? ⟨b,4,none⟩=some a4
 c5:w.cell? ⟨b,5,none⟩=some a5
 c6:w.cell? ⟨b,6,none⟩=some a6
 fz:∀o,w.frozen? ⟨b,o,none⟩=false
 lt:b<w.heap.size
theorem Box7.but{w w':World}{r b:Nat}{a0 a1 a2 a3 a4 a5 a6:Value}(h:Box7 w b a0 a1 a2 a3 a4 a5 a6)(hb:But r w w')(hr:b≠r):Box7 w' b a0 a1 a2 a3 a4 a5 a6:=by
 obtain⟨c0,c1,c2,c3,c4,c5,c6,fz,lt⟩:=h
 refine⟨?_,?_,?_,?_,?_,?_,?_,fun o=>by rw[zfb hb o lt hr];exact fz o,by have:=hb.size;omega⟩
 all_goals (rw[hb.cell _ lt hr];assumption)
theorem Box7.on{w w':World}{b:Nat}{a0 a1 a2 a3 a4 a5 a6:Value}(h:Box7 w b a0 a1 a2 a3 a4 a5 a6)(hb:Below w.heap.size w w'):Box7 w' b a0 a1 a2 a3 a4 a5 a6:=by
 obtain⟨c0,c1,c2,c3,c4,c5,c6,fz,lt⟩:=h
 have hc:=fun o=>hb.cell (p:=⟨b,o,none⟩) lt
 have hf:=fun o=>hb.frozen (p:=⟨b,o,none⟩) lt
 refine⟨?_,?_,?_,?_,?_,?_,?_,fun o=>by rw[hf];exact fz o,by have:=hb.size;omega⟩
 all_goals (rw[hc];assumption)
theorem zap(w:World)(a0 a1 a2 a3 a4 a5 a6:Value)(t:TypeId):Box7 (w.alloc (.cells #[a0,a1,a2,a3,a4,a5,a6] t)) w.heap.size a0 a1 a2 a3 a4 a5 a6:=by
 refine⟨?_,?_,?_,?_,?_,?_,?_,fun o=>World.frozen?_alloc_at _ _ _ _ rfl,by simp⟩
 all_goals (rw[World.cell?_alloc_at _ _ _ _ rfl];rfl)
theorem zqe(w:World)(n:Nat)(hn:n=w.heap.size)(a0 a1 a2 a3 a4 a5 a6:Value)(t:TypeId):Box7 (w.alloc (.cells #[a0,a1,a2,a3,a4,a5,a6] t)) n a0 a1 a2 a3 a4 a5 a6:=by
 subst hn
 exact zap w a0 a1 a2 a3 a4 a5 a6 t
theorem Box7.set{w:World}{b:Nat}{a0 a1 a2 a3 a4 a5 a6:Value}(h:Box7 w b a0 a1 a2 a3 a4 a5 a6)(v0 v1 v2 v3 v4 v5 v6:Value):Box7 (((((((w.setCell ⟨b,0,none⟩ v0).setCell ⟨b,1,none⟩ v1).setCell ⟨b,2,none⟩ v2).setCell ⟨b,3,none⟩ v3).setCell ⟨b,4,none⟩ v4).setCell ⟨b,5,none⟩ v5).setCell ⟨b,6,none⟩ v6) b v0 v1 v2 v3 v4 v5 v6:=by
 obtain⟨c0,c1,c2,c3,c4,c5,c6,fz,lt⟩:=h
 refine⟨?_,?_,?_,?_,?_,?_,?_,fun o=>by simpa using fz o,by simpa [World.setCell] using lt⟩
 all_goals simp[World.cell?_setCell_other,World.cell?_setCell_same,c0,c1,c2,c3,c4,c5,c6]
theorem Box7.far{w:World}{b z:Nat}{a0 a1 a2 a3 a4 a5 a6:Value}(h:Box7 w b a0 a1 a2 a3 a4 a5 a6)(hz:b≠z)(v0 v1 v2 v3 v4 v5 v6:Value):Box7 (((((((w.setCell ⟨z,0,none⟩ v0).setCell ⟨z,1,none⟩ v1).setCell ⟨z,2,none⟩ v2).setCell ⟨z,3,none⟩ v3).setCell ⟨z,4,none⟩ v4).setCell ⟨z,5,none⟩ v5).setCell ⟨z,6,none⟩ v6) b a0 a1 a2 a3 a4 a5 a6:=by
 obtain⟨c0,c1,c2,c3,c4,c5,c6,fz,lt⟩:=h
 refine⟨?_,?_,?_,?_,?_,?_,?_,fun o=>by simpa using fz o,by simpa [World.setCell] using lt⟩
 all_goals simp[World.cell?_setCell_other,c0,c1,c2,c3,c4,c5,c6]
theorem But.set7{r:Nat}{w w1:World}(h:But r w w1){z:Nat}(hz:w.heap.size≤z)(hr:r≤z)(v0 v1 v2 v3 v4 v5 v6:Value):But r w (((((((w1.setCell ⟨z,0,none⟩ v0).setCell ⟨z,1,none⟩ v1).setCell ⟨z,2,none⟩ v2).setCell ⟨z,3,none⟩ v3).setCell ⟨z,4,none⟩ v4).setCell ⟨z,5,none⟩ v5).setCell ⟨z,6,none⟩ v6) :=
 ((((((h.setNew z 0 hz hr v0).setNew z 1 hz hr v1).setNew z 2 hz hr v2).setNew z 3 hz hr v3).setNew z 4 hz hr v4).setNew z 5 hz hr v5).setNew z 6 hz hr v6
theorem ExIn.set7{w:World}{lo:Nat→Prop}{v:Value}{x:Ex}(h:ExIn w lo v x){z:Nat}(hz:∀b,lo b→b≠z)(v0 v1 v2 v3 v4 v5 v6:Value):ExIn (((((((w.setCell ⟨z,0,none⟩ v0).setCell ⟨z,1,none⟩ v1).setCell ⟨z,2,none⟩ v2).setCell ⟨z,3,none⟩ v3).setCell ⟨z,4,none⟩ v4).setCell ⟨z,5,none⟩ v5).setCell ⟨z,6,none⟩ v6) lo v x :=
 ExIn.keep (by simp[World.setCell]) (fun b o h1 h2=>by have:=hz b h1;simp[World.cell?_setCell_other]) x v h
theorem RdAt.set7{w:World}{r:Nat}{ts:List Tok}(h:RdAt en w r ts){z:Nat}(hz:r<z)(v0 v1 v2 v3 v4 v5 v6:Value):RdAt en (((((((w.setCell ⟨z,0,none⟩ v0).setCell ⟨z,1,none⟩ v1).setCell ⟨z,2,none⟩ v2).setCell ⟨z,3,none⟩ v3).setCell ⟨z,4,none⟩ v4).setCell ⟨z,5,none⟩ v5).setCell ⟨z,6,none⟩ v6) r ts :=
 h.onB (((((((( Below.refl (r+1) w).setCell (p:=⟨z,0,none⟩) hz v0).setCell (p:=⟨z,1,none⟩) hz v1).setCell (p:=⟨z,2,none⟩) hz v2).setCell (p:=⟨z,3,none⟩) hz v3).setCell (p:=⟨z,4,none⟩) hz v4).setCell (p:=⟨z,5,none⟩) hz v5).setCell (p:=⟨z,6,none⟩) hz v6) (by simp[World.setCell])
theorem al(W:World)(o:Obj):Below W.heap.size W (W.alloc o):=(Below.refl W.heap.size W).alloc (Nat.le_refl _) o
def Off(n e:Nat)(b:Nat):Prop:=n<b∧b≠e
def zhW(sub:List Tok→Option Ex×List Tok)(gs:List (List UInt8))(ts:List Tok)(gg:Nat)(ok:Bool)(x:Ex)(ts':List Tok):Prop :=
 ts' <:+ ts∧(ok=true→ts'.length<gg∧uSev sub gs ts=uLoop sub gs gg x ts')∧(ok=false→uSev sub gs ts=(none,ts'))
theorem zgP{sub:List Tok→Option Ex×List Tok}{gs:List (List UInt8)}{ts:List Tok}{ok:Bool}{x:Ex}(hsuf:Suf sub)(h:(sub ts).1=if ok=true then some x else none):zhW sub gs ts ((sub ts).2.length+1) ok x (sub ts).2:=by
 refine⟨hsuf ts,?_,?_⟩
 ·rintro rfl
  rw[if_pos rfl] at h
  refine⟨by omega,?_⟩
  rw[uSev]
  cases h3:sub ts with
  | mk o r=>rw[h3] at h;simp only at h;subst h;rfl
 ·rintro rfl
  rw[if_neg (by decide)] at h
  rw[uSev]
  cases h3:sub ts with
  | mk o r=>rw[h3] at h;simp only at h;subst h;rfl
theorem zkJ{sub:List Tok→Option Ex×List Tok}{gs:List (List UInt8)}{ts ts':List Tok}{gg:Nat}{x:Ex}(h:zhW sub gs ts gg true x ts')(hn:nxT (sgT gs) ts'=none):uSev sub gs ts=(some x,ts'):=by
 obtain⟨_,h2,_⟩:=h
 obtain⟨h3,h4⟩:=h2 rfl
 obtain⟨g,rfl⟩:∃g,gg=g+1:=⟨gg-1,by omega⟩
 rw[h4,uLoop,hn]
theorem ziz{sub:List Tok→Option Ex×List Tok}{gs:List (List UInt8)}{ts ts' rs:List Tok}{gg:Nat}{x y:Ex}{t:Tok}{ok:Bool}(hsuf:Suf sub)(h:zhW sub gs ts gg true x ts')(hn:nxT (sgT gs) ts'=some (t,rs))(hy:(sub rs).1=if ok=true then some y else none):zhW sub gs ts (gg-1) ok (betT x t y) (sub rs).2:=by
 obtain⟨h1,h2,_⟩:=h
 obtain⟨h3,h4⟩:=h2 rfl
 obtain⟨g,rfl⟩:∃g,gg=g+1:=⟨gg-1,by omega⟩
 obtain⟨rfl,_⟩:=zal hn
 have h5:=hsuf rs
 have h6:=h5.length_le
 refine⟨(h5.trans (List.suffix_cons t rs)).trans h1,?_,?_⟩
 ·rintro rfl
  rw[if_pos rfl] at hy
  simp only[List.length_cons] at h3
  refine⟨by omega,?_⟩
  rw[h4,uLoop,hn]
  cases h7:sub rs with
  | mk o r=>rw[h7] at hy;simp only at hy;subst hy;simp only[Nat.add_sub_cancel];rw[h7]
 ·rintro rfl
  rw[if_neg (by decide)] at hy
  rw[h4,uLoop,hn]
  cases h7:sub rs with
  | mk o r=>rw[h7] at hy;simp only at hy;subst hy;simp only;rw[h7]
abbrev partV(f:FuncId)(r:Nat):Value:=.func (.func f) #[.pointer (some ⟨r,0,none⟩)] #[]
set_option maxRecDepth 20000 in
theorem zbm(f:FuncId)(hent:∀(args:Array Value) (W:World),Sem.run Tryz.prog (callFunc f args) W=.ok (.enter f args) W)(sub:List Tok→Option Ex×List Tok)(gs:List (List UInt8))(ts:List Tok)(hsuf:Suf sub)(hg:Fit ts)
  (hsub:∀ts',ts' <:+ ts→Reads f sub ts')(w:World)(r p:Nat)(h:RdAt en w r ts)(hs:zaW w r p gs)(henv:TEnv w)(hr:12≤r) :
  Calls Tryz.prog 118 #[.pointer (some ⟨r,0,none⟩),partV f r,signV p] w fun e w'=>∃v ok x,e=.returned (.tuple #[v,.bool ok])∧Aside (ExIn w' (w.heap.size≤·) v x)∧Aside (RdAt en w' r (uSev sub gs ts).2)∧Aside (But r w w')∧Hid ((uSev sub gs ts).1=if ok=true then some x else none):=by
 have HR:Aside (RdAt en w r ts):=h
 have HS:Aside (zaW w r p gs):=hs
 have HE:Aside (TEnv w):=henv
 have HG:Aside (Fit ts):=hg
 have HC:Aside (∀ts',ts' <:+ ts→Reads f sub ts'):=hsub
 have hl:=h.lt
 clear h hs henv hg hsub
 go_enter Tryz.func118,Tryz.ntmps118
 have b0:=(Below.refl w.heap.size w).alloc (Nat.le_refl _) (.cells #[.string ⟨#[]⟩,.string ⟨#[]⟩,.int .i64 0,.int .i64 0,.string ⟨#[]⟩,.slice none 0 0,.int .i64 0] 31)
 have X0:=zap w (.string ⟨#[]⟩) (.string ⟨#[]⟩) (.int .i64 0) (.int .i64 0) (.string ⟨#[]⟩) (.slice none 0 0) (.int .i64 0) 31
 go_wp2_with fail
 refine (HC.out ts List.suffix_rfl _ r (HR.out.on b0) (HE.out.on b0) hr).mono ?_
 rintro e w1 ⟨v,ok,x,rfl,hx,hrd,hbt,hres⟩
 obtain⟨o1,n1,t1,k1,s1,p1,m1,c1,a1,rfl⟩:=hx.out.agg
 have X1:=X0.but hbt.out (by omega)
 clear X0
 have X2:=zap w1 (.string o1) (.string n1) (.int .i64 t1) (.int .i64 k1) (.string s1) (.slice p1 m1 c1) (.int .i64 a1) 31
 have bb:=(Below.refl w1.heap.size w1).alloc (Nat.le_refl _) (.cells #[.string o1,.string n1,.int .i64 t1,.int .i64 k1,.string s1,.slice p1 m1 c1,.int .i64 a1] 31)
 have hz0:w.heap.size+1≤w1.heap.size:=by have:=hbt.out.size;simpa using this
 have B1:But r w w1:=(But.of_below' b0 (by omega)).trans hbt.out
 go_wp2
 go_loopg [9,10,11,12] ((sub ts).2.length+1) (fun gg s9 _ _ _ wr=>∃(ok':Bool) (x':Ex) (ts':List Tok) (o n:ByteArray) (t k:Int) (s:ByteArray) (q:Option Addr) (m c:Nat) (a:Int),s9=.bool ok'∧Aside (Box7 wr w1.heap.size (.string o) (.string n) (.int .i64 t) (.int .i64 k) (.string s) (.slice q m c) (.int .i64 a))∧Aside (Box7 wr w.heap.size (.string ⟨#[]⟩) (.string ⟨#[]⟩) (.int .i64 0) (.int .i64 0) (.string ⟨#[]⟩) (.slice none 0 0) (.int .i64 0))∧Aside (ExIn wr (Off w.heap.size w1.heap.size) (.agg #[.string o,.string n,.int .i64 t,.int .i64 k,.string s,.slice q m c,.int .i64 a]) x')∧Aside (RdAt en wr r ts')∧Aside (But r w wr)∧Hid (zhW sub gs ts gg ok' x' ts'))
 case atStart=>exact⟨ok,x,(sub ts).2,o1,n1,t1,k1,s1,p1,m1,c1,a1,rfl,(show Aside _ from X2),(show Aside _ from X1.on bb),(show Aside _ from (ExIn.low (fun b hb1 hb2=>⟨by simp at hb2;omega,by omega⟩) _ _ hx.out).on bb),(show Aside _ from hrd.out.on bb),(show Aside _ from B1.on bb hl),(show Hid _ from zgP hsuf hres.out)⟩
 case round =>
  obtain⟨ok',x',ts',o,n,t,k,s,q,m,c,a,rfl,BE,BZ,HX,RD,BW,SR⟩:=hrel
  clear X1 X2 bb hbt hrd hx hres
  obtain⟨c0,c1,c2,c3,c4,c5,c6,cf,cl⟩:=BE.out
  obtain⟨d0,d1,d2,d3,d4,d5,d6,df,dl⟩:=BZ.out
  have df0:=df 0
  have df1:=df 1
  have df2:=df 2
  have df3:=df 3
  have df4:=df 4
  have df5:=df 5
  have df6:=df 6
  clear df
  cases ok'
  ·have hres:=SR.out.2.2 rfl
   go_wp2
   refine bodyPost_ret (v:=.tuple #[.agg #[.string o,.string n,.int .i64 t,.int .i64 k,.string s,.slice q m c,.int .i64 a],.bool false]) (by simp[results,Tryz.results118,go_sem,d0,d1,d2,d3,d4,d5,d6]) rfl ⟨_,false,x',rfl,?_,?_,?_,?_⟩
   ·exact ExIn.low (fun b _ hb=>Nat.le_of_lt hb.1) _ _ (HX.out.set7 (fun b hb=>by have:=hb.1;omega) _ _ _ _ _ _ _)
   ·rw[hres];exact RD.out.set7 (by omega) _ _ _ _ _ _ _
   ·exact BW.out.set7 (Nat.le_refl _) (by omega) _ _ _ _ _ _ _
   ·show _=_
    rw[hres];rfl
  ·cases hn:nxT (sgT gs) ts' with
   | none =>
    have cT:=zam gs p wr r ts' RD.out (HS.out.but BW.out).sign hn
    have hres:=zkJ SR.out hn
    rw[noTok] at cT
    clear hn c0 c1 c2 c3 c4 c5 c6 cf cl d0 d1 d2 d3 d4 d5 d6 df0 df1 df2 df3 df4 df5 df6 dl
    go_wp2_with fail
    refine cT.mono ?_
    rintro e w2 ⟨rfl,rd2,b2⟩
    obtain⟨c0,c1,c2,c3,c4,c5,c6,cf,cl⟩:=BE.out.but b2 (by omega)
    obtain⟨d0,d1,d2,d3,d4,d5,d6,df,dl⟩:=BZ.out.but b2 (by omega)
    have df0:=df 0
    have df1:=df 1
    have df2:=df 2
    have df3:=df 3
    have df4:=df 4
    have df5:=df 5
    have df6:=df 6
    clear df
    go_wp2
    refine bodyPost_ret (v:=.tuple #[.agg #[.string o,.string n,.int .i64 t,.int .i64 k,.string s,.slice q m c,.int .i64 a],.bool true]) (by simp[results,Tryz.results118,go_sem,d0,d1,d2,d3,d4,d5,d6,dl]) rfl ⟨_,true,x',rfl,?_,?_,?_,?_⟩
    ·exact ExIn.low (fun b _ hb=>Nat.le_of_lt hb.1) _ _ (((HX.out.but b2 (fun b hb=>by have:=hb.1;omega)).set7 (fun b hb=>by have:=hb.1;omega) _ _ _ _ _ _ _).on (al _ _))
    ·rw[hres];exact (rd2.set7 (by omega) _ _ _ _ _ _ _).on (al _ _)
    ·exact ((BW.out.trans b2).set7 (Nat.le_refl _) (by omega) _ _ _ _ _ _ _).on (al _ _) hl
    ·show _=_
     rw[hres];rfl
   | some y =>
    obtain⟨tt,rs⟩:=y
    have cT:=zan gs p wr r tt ts' rs RD.out (HS.out.but BW.out).sign hn
    have hsf:rs <:+ ts:=by
     obtain⟨rfl,_⟩:=zal hn
     exact (List.suffix_cons tt rs).trans SR.out.1
    have hts:tt.2.1.size≤400:=by
     obtain⟨rfl,_⟩:=zal hn
     exact HG.out _ (SR.out.1.mem List.mem_cons_self)
    have HN:Hid (nxT (sgT gs) ts'=some (tt,rs)):=hn
    have cP:=HC.out rs hsf
    have cBt:=fun W v2 y (h1:ExIn W (Off w.heap.size w1.heap.size) (.agg #[.string o,.string n,.int .i64 t,.int .i64 k,.string s,.slice q m c,.int .i64 a]) x') (h2:ExIn W (Off w.heap.size w1.heap.size) v2 y) (hW:w1.heap.size<W.heap.size)=>zdF W _ tt _ v2 x' y h1 h2 (fun b hb=>⟨by omega,by omega⟩) (by unfold maxLen;omega)
    rw[tokV] at cT cBt
    obtain⟨tk,tx,ta⟩:=tt
    simp only at cT cBt hts
    clear hn c0 c1 c2 c3 c4 c5 c6 cf cl d0 d1 d2 d3 d4 d5 d6 df0 df1 df2 df3 df4 df5 df6 dl
    go_wp2_with fail
    refine cT.mono ?_
    rintro e w2 ⟨rfl,rd2,b2⟩
    have hz2:=b2.size
    have hEl:=BE.out.lt
    have bb:=((Below.refl w2.heap.size w2).alloc (Nat.le_refl _) (.cells #[.int .i64 tk,.string tx,.int .i64 (ta:Int)] 78)).alloc (by simp) (.cells #[.string ⟨#[]⟩,.string ⟨#[]⟩,.int .i64 0,.int .i64 0,.string ⟨#[]⟩,.slice none 0 0,.int .i64 0] 31)
    go_wp2_with fail
    refine (cP _ r (rd2.on bb) ((HE.out.but ((BW.out.trans b2).on bb hl) hr)) hr).mono ?_
    rintro e w3 ⟨v,ok,y,rfl,hx,hrd,hbt,hres⟩
    obtain⟨o9,n9,t9,k9,s9,p9,m9,c9,a9,rfl⟩:=hx.out.agg
    have hz3:w2.heap.size+2≤w3.heap.size:=by have:=hbt.out.size;simpa using this
    have E3:=((BE.out.but b2 (by omega)).on bb).but hbt.out (by omega)
    have Z3:=((BZ.out.but b2 (by omega)).on bb).but hbt.out (by omega)
    have R3:=(zqe (w2.alloc (.cells #[.int .i64 tk,.string tx,.int .i64 (ta:Int)] 78)) (w2.heap.size+1) (by simp) (.string ⟨#[]⟩) (.string ⟨#[]⟩) (.int .i64 0) (.int .i64 0) (.string ⟨#[]⟩) (.slice none 0 0) (.int .i64 0) 31).but hbt.out (by omega)
    have T3:∀i,w3.cell? ⟨w2.heap.size,i,none⟩=(#[.int .i64 tk,.string tx,.int .i64 (ta:Int)]:Array Value)[i]?:=fun i=>by
     rw[hbt.out.cell _ (by simp;omega) (by omega),World.cell?_alloc_past _ _ _ (by simp),World.cell?_alloc_at _ _ _ _ rfl]
    have X3:=((ExIn.low (lo':=fun b=>Off w.heap.size w1.heap.size b∧b<w2.heap.size) (fun b h1 h2=>⟨h2,h1⟩) _ _ (HX.out.but b2 (fun b hb=>by have:=hb.1;omega))).on bb).but hbt.out (fun b hb=>by have:=hb.1.1;omega)
    have g0:=T3 0
    have g1:=T3 1
    have g2:=T3 2
    simp at g0 g1 g2
    have HY:=ExIn.low (lo':=Off w.heap.size w1.heap.size) (fun b _ hb=>⟨by simp at hb;omega,by simp at hb;omega⟩) _ _ (hx.out.set7 (z:=w2.heap.size+1) (fun b hb=>by simp at hb;omega) (.string o9) (.string n9) (.int .i64 t9) (.int .i64 k9) (.string s9) (.slice p9 m9 c9) (.int .i64 a9))
    have HX3:=ExIn.low (lo':=Off w.heap.size w1.heap.size) (fun b _ hb=>hb.1) _ _ (X3.set7 (z:=w2.heap.size+1) (fun b hb=>by have:=hb.2;omega) (.string o9) (.string n9) (.int .i64 t9) (.int .i64 k9) (.string s9) (.slice p9 m9 c9) (.int .i64 a9))
    have E4:=E3.far (z:=w2.heap.size+1) (by omega) (.string o9) (.string n9) (.int .i64 t9) (.int .i64 k9) (.string s9) (.slice p9 m9 c9) (.int .i64 a9)
    have Z4:=Z3.far (z:=w2.heap.size+1) (by omega) (.string o9) (.string n9) (.int .i64 t9) (.int .i64 k9) (.string s9) (.slice p9 m9 c9) (.int .i64 a9)
    have RD4:=hrd.out.set7 (z:=w2.heap.size+1) (by omega) (.string o9) (.string n9) (.int .i64 t9) (.int .i64 k9) (.string s9) (.slice p9 m9 c9) (.int .i64 a9)
    have B4:=(((BW.out.trans b2).on bb hl).trans hbt.out).set7 (z:=w2.heap.size+1) (by omega) (by omega) (.string o9) (.string n9) (.int .i64 t9) (.int .i64 k9) (.string s9) (.slice p9 m9 c9) (.int .i64 a9)
    have SR2:Hid (zhW sub gs ts (gk-1) ok (betT x' (tk,tx,ta) y) (sub rs).2):=ziz hsuf SR.out HN.out hres.out
    have hgk:0<gk:=by have:=(SR.out.2.1 rfl).1;omega
    have C4:=cBt _ _ y HX3 HY (by simp[World.setCell];omega)
    obtain⟨c0,c1,c2,c3,c4,c5,c6,cf,cl⟩:=E3
    obtain⟨r0,r1,r2,r3,r4,r5,r6,rf,rl⟩:=R3
    have rf0:=rf 0
    have rf1:=rf 1
    have rf2:=rf 2
    have rf3:=rf 3
    have rf4:=rf 4
    have rf5:=rf 5
    have rf6:=rf 6
    clear rf cf cP cT cBt T3 X3 HX3 HY Z3 hrd hbt bb hx hres b2 rd2 BW HX RD BZ BE HN SR
    go_wp2_with fail
    refine C4.mono ?_
    rintro e w4 ⟨⟨v,rfl,hv⟩,b4⟩
    obtain⟨u0,u1,u2,u3,u4,u5,u6,u7,u8,rfl⟩:=hv.agg
    have E5:=E4.on b4
    have Z5:=Z4.on b4
    have RD5:=RD4.on b4
    have B5:=B4.on b4 hl
    clear E4 Z4 RD4 B4 C4 b4 c0 c1 c2 c3 c4 c5 c6 cl r0 r1 r2 r3 r4 r5 r6 rf0 rf1 rf2 rf3 rf4 rf5 rf6 rl g0 g1 g2
    have E6:=E5.set (.string u0) (.string u1) (.int .i64 u2) (.int .i64 u3) (.string u4) (.slice u5 u6 u7) (.int .i64 u8)
    have Z6:=Z5.far (z:=w1.heap.size) (by omega) (.string u0) (.string u1) (.int .i64 u2) (.int .i64 u3) (.string u4) (.slice u5 u6 u7) (.int .i64 u8)
    have RD6:=RD5.set7 (z:=w1.heap.size) (by omega) (.string u0) (.string u1) (.int .i64 u2) (.int .i64 u3) (.string u4) (.slice u5 u6 u7) (.int .i64 u8)
    have B6:=B5.set7 (z:=w1.heap.size) (by omega) (by omega) (.string u0) (.string u1) (.int .i64 u2) (.int .i64 u3) (.string u4) (.slice u5 u6 u7) (.int .i64 u8)
    have X6:=hv.set7 (z:=w1.heap.size) (fun b hb=>hb.2) (.string u0) (.string u1) (.int .i64 u2) (.int .i64 u3) (.string u4) (.slice u5 u6 u7) (.int .i64 u8)
    obtain⟨c0,c1,c2,c3,c4,c5,c6,cf,cl⟩:=E5
    have rf0:=cf 0
    have rf1:=cf 1
    have rf2:=cf 2
    have rf3:=cf 3
    have rf4:=cf 4
    have rf5:=cf 5
    have rf6:=cf 6
    clear cf hv Z5 RD5 B5
    go_wp2
    go_roundg (gk-1)
    case measure=>omega
    case rel=>exact⟨ok,_,_,_,_,_,_,_,_,_,_,_,rfl,(show Aside _ from E6),(show Aside _ from Z6),(show Aside _ from X6),(show Aside _ from RD6),(show Aside _ from B6),SR2⟩
end
section
open Go.BigFrame
variable {en : Nat}

theorem zaw(b c r:Nat)(gs:List (List UInt8))(w:World)(h4:gs.length≤100)(hs:zcc w b gs)(hb:b≠r)(hr:r<w.heap.size) :
  Calls Tryz.prog 46 #[.slice (some ⟨b,0,none⟩) gs.length c] w fun e w'=>(∃p,e=.returned (signV p)∧zaW w' r p gs)∧Below w.heap.size w w':=by
 go_enter Tryz.func46,Tryz.ntmps46
 go_wp2
 go_ret
 have hb:=(Below.refl w.heap.size w).alloc (Nat.le_refl _) (.cells #[.slice (some ⟨b,0,none⟩) gs.length c] 23)
 exact⟨⟨w.heap.size,rfl,b,c,by rw[World.cell?_alloc_at _ _ _ _ rfl];rfl,by simp,hs.on hb,h4,by omega,by assumption⟩,hb⟩
theorem zau(w:World)(n:Nat)(hn:n=w.heap.size)(gs:List (List UInt8))(cs:Array Value)(t:TypeId)(h:∀j (hj:j<gs.length),cs[j]?=some (.string ⟨gs[j].toArray⟩)):zcc (w.alloc (.cells cs t)) n gs :=
 ⟨by simp;omega,fun j hj=>by rw[World.cell?_alloc_at _ _ _ _ hn];exact h j hj⟩
set_option maxRecDepth 20000 in
theorem zef(sub:List Tok→Option Ex×List Tok)(ts:List Tok)(hsuf:Suf sub)(hg:Fit ts)(hsub:∀ts',ts' <:+ ts→Reads 119 sub ts'):Reads 90 (uSev sub [[111,114]]) ts:=by
 intro w r en h henv hr
 have HR:Aside (RdAt en w r ts):=h
 have HE:Aside (TEnv w):=henv
 have hl:=h.lt
 clear h henv
 have cS:=fun W p h hs he=>zbm (en:=en) _ (fun args W=>by kernel_rfl) sub [[111,114]] ts hsuf hg hsub W r p h hs he hr
 have X0:=zap w (.string ⟨#[]⟩) (.string ⟨#[]⟩) (.int .i64 0) (.int .i64 0) (.string ⟨#[]⟩) (.slice none 0 0) (.int .i64 0) 31
 have b0:=(Below.refl w.heap.size w).alloc (Nat.le_refl _) (.cells #[.string ⟨#[]⟩,.string ⟨#[]⟩,.int .i64 0,.int .i64 0,.string ⟨#[]⟩,.slice none 0 0,.int .i64 0] 31)
 have b1:=al (w.alloc (.cells #[.string ⟨#[]⟩,.string ⟨#[]⟩,.int .i64 0,.int .i64 0,.string ⟨#[]⟩,.slice none 0 0,.int .i64 0] 31)) (.cells #[.string ⟨#[111,114]⟩] 9)
 have X1:=X0.on b1
 have cO:=zaw (w.heap.size+1) 1 r [[111,114]] ((w.alloc (.cells #[.string ⟨#[]⟩,.string ⟨#[]⟩,.int .i64 0,.int .i64 0,.string ⟨#[]⟩,.slice none 0 0,.int .i64 0] 31)).alloc (.cells #[.string ⟨#[111,114]⟩] 9)) (by decide) (zau _ _ (by simp) _ _ _ (fun j hj=>match j,hj with
  | 0,_=>rfl)) (by omega) (by simp;omega)
 have b2:=b0.trans (b1.mono (by simp))
 clear X0 b1 b0
 go_enter Tryz.func90,Tryz.ntmps90
 go_wp2_with fail
 refine cO.mono ?_
 rintro e w2 ⟨⟨p,rfl,hp⟩,b3⟩
 have X2:=X1.on b3
 have B2:=b2.trans (b3.mono (by simp;omega))
 have hz2:w.heap.size+2≤w2.heap.size:=by have:=b3.size;simpa using this
 clear X1 b2 b3 cO
 go_wp2_with fail
 refine (cS _ p (HR.out.on B2) hp (HE.out.on B2)).mono ?_
 rintro e w3 ⟨v,ok,x,rfl,hx,hrd,hbt,hres⟩
 obtain⟨u0,u1,u2,u3,u4,u5,u6,u7,u8,rfl⟩:=hx.out.agg
 obtain⟨c0,c1,c2,c3,c4,c5,c6,cf,cl⟩:=X2.but hbt.out (by omega)
 have rf0:=cf 0
 have rf1:=cf 1
 have rf2:=cf 2
 have rf3:=cf 3
 have rf4:=cf 4
 have rf5:=cf 5
 have rf6:=cf 6
 clear cf X2 cS
 have bE:=al w3 (.cells #[.string u0,.string u1,.int .i64 u2,.int .i64 u3,.string u4,.slice u5 u6 u7,.int .i64 u8] 31)
 have hz3:w.heap.size+2≤w3.heap.size:=by have:=hbt.out.size;omega
 cases ok
 ·go_wp2
  refine bodyPost_ret (v:=.tuple #[.agg #[.string ⟨#[]⟩,.string ⟨#[]⟩,.int .i64 0,.int .i64 0,.string ⟨#[]⟩,.slice none 0 0,.int .i64 0],.bool false]) (by simp[results,Tryz.results90,go_sem,c0,c1,c2,c3,c4,c5,c6,cl]) rfl ⟨_,false,.node ⟨#[]⟩ ⟨#[]⟩ 0 0 ⟨#[]⟩ 0 [],rfl,?_,?_,?_,hres⟩
  ·exact zhm (by decide) (by decide) (by decide)
  ·exact (hrd.out.set7 (by omega) _ _ _ _ _ _ _).on (al _ _)
  ·exact (((But.of_below' B2 (by omega)).trans hbt.out).set7 (Nat.le_refl _) (by omega) _ _ _ _ _ _ _).on (al _ _) hl
 ·go_wp2
  refine bodyPost_ret (v:=.tuple #[.agg #[.string u0,.string u1,.int .i64 u2,.int .i64 u3,.string u4,.slice u5 u6 u7,.int .i64 u8],.bool true]) (by simp[results,Tryz.results90,go_sem,c0,c1,c2,c3,c4,c5,c6,cl]) rfl ⟨_,true,x,rfl,?_,?_,?_,hres⟩
  ·exact (ExIn.low (fun b _ (hb:w2.heap.size≤b)=>(show w.heap.size≤b by omega)) _ _ (hx.out.set7 (fun b (hb:w2.heap.size≤b)=>by omega) _ _ _ _ _ _ _)).on (al _ _)
  ·exact (hrd.out.set7 (by omega) _ _ _ _ _ _ _).on (al _ _)
  ·exact (((But.of_below' B2 (by omega)).trans hbt.out).set7 (Nat.le_refl _) (by omega) _ _ _ _ _ _ _).on (al _ _) hl
set_option maxRecDepth 20000 in
theorem zds(sub:List Tok→Option Ex×List Tok)(ts:List Tok)(hsuf:Suf sub)(hg:Fit ts)(hsub:∀ts',ts' <:+ ts→Reads 151 sub ts'):Reads 119 (uSev sub [[97,110,100]]) ts:=by
 intro w r en h henv hr
 have HR:Aside (RdAt en w r ts):=h
 have HE:Aside (TEnv w):=henv
 have hl:=h.lt
 clear h henv
 have cS:=fun W p h hs he=>zbm (en:=en) _ (fun args W=>by kernel_rfl) sub [[97,110,100]] ts hsuf hg hsub W r p h hs he hr
 have X0:=zap w (.string ⟨#[]⟩) (.string ⟨#[]⟩) (.int .i64 0) (.int .i64 0) (.string ⟨#[]⟩) (.slice none 0 0) (.int .i64 0) 31
 have b0:=(Below.refl w.heap.size w).alloc (Nat.le_refl _) (.cells #[.string ⟨#[]⟩,.string ⟨#[]⟩,.int .i64 0,.int .i64 0,.string ⟨#[]⟩,.slice none 0 0,.int .i64 0] 31)
 have b1:=al (w.alloc (.cells #[.string ⟨#[]⟩,.string ⟨#[]⟩,.int .i64 0,.int .i64 0,.string ⟨#[]⟩,.slice none 0 0,.int .i64 0] 31)) (.cells #[.string ⟨#[97,110,100]⟩] 9)
 have X1:=X0.on b1
 have cO:=zaw (w.heap.size+1) 1 r [[97,110,100]] ((w.alloc (.cells #[.string ⟨#[]⟩,.string ⟨#[]⟩,.int .i64 0,.int .i64 0,.string ⟨#[]⟩,.slice none 0 0,.int .i64 0] 31)).alloc (.cells #[.string ⟨#[97,110,100]⟩] 9)) (by decide) (zau _ _ (by simp) _ _ _ (fun j hj=>match j,hj with
  | 0,_=>rfl)) (by omega) (by simp;omega)
 have b2:=b0.trans (b1.mono (by simp))
 clear X0 b1 b0
 go_enter Tryz.func119,Tryz.ntmps119
 go_wp2_with fail
 refine cO.mono ?_
 rintro e w2 ⟨⟨p,rfl,hp⟩,b3⟩
 have X2:=X1.on b3
 have B2:=b2.trans (b3.mono (by simp;omega))
 have hz2:w.heap.size+2≤w2.heap.size:=by have:=b3.size;simpa using this
 clear X1 b2 b3 cO
 go_wp2_with fail
 refine (cS _ p (HR.out.on B2) hp (HE.out.on B2)).mono ?_
 rintro e w3 ⟨v,ok,x,rfl,hx,hrd,hbt,hres⟩
 obtain⟨u0,u1,u2,u3,u4,u5,u6,u7,u8,rfl⟩:=hx.out.agg
 obtain⟨c0,c1,c2,c3,c4,c5,c6,cf,cl⟩:=X2.but hbt.out (by omega)
 have rf0:=cf 0
 have rf1:=cf 1
 have rf2:=cf 2
 have rf3:=cf 3
 have rf4:=cf 4
 have rf5:=cf 5
 have rf6:=cf 6
 clear cf X2 cS
 go_wp2
 refine bodyPost_ret (v:=.tuple #[.agg #[.string u0,.string u1,.int .i64 u2,.int .i64 u3,.string u4,.slice u5 u6 u7,.int .i64 u8],.bool ok]) (by simp[results,Tryz.results119,go_sem,c0,c1,c2,c3,c4,c5,c6]) rfl ⟨_,ok,x,rfl,?_,?_,?_,hres⟩
 ·exact ExIn.low (fun b _ (hb:w2.heap.size≤b)=>(show w.heap.size≤b by omega)) _ _ (hx.out.set7 (fun b (hb:w2.heap.size≤b)=>by omega) _ _ _ _ _ _ _)
 ·exact hrd.out.set7 (by omega) _ _ _ _ _ _ _
 ·exact ((But.of_below' B2 (by omega)).trans hbt.out).set7 (Nat.le_refl _) (by omega) _ _ _ _ _ _ _
set_option maxRecDepth 20000 in
theorem zsh(sub:List Tok→Option Ex×List Tok)(ts:List Tok)(hsuf:Suf sub)(hg:Fit ts)(hsub:∀ts',ts' <:+ ts→Reads 226 sub ts'):Reads 206 (uSev sub [[43],[45]]) ts:=by
 intro w r en h henv hr
 have HR:Aside (RdAt en w r ts):=h
 have HE:Aside (TEnv w):=henv
 have hl:=h.lt
 clear h henv
 have cS:=fun W p h hs he=>zbm (en:=en) _ (fun args W=>by kernel_rfl) sub [[43],[45]] ts hsuf hg hsub W r p h hs he hr
 have X0:=zap w (.string ⟨#[]⟩) (.string ⟨#[]⟩) (.int .i64 0) (.int .i64 0) (.string ⟨#[]⟩) (.slice none 0 0) (.int .i64 0) 31
 have b0:=(Below.refl w.heap.size w).alloc (Nat.le_refl _) (.cells #[.string ⟨#[]⟩,.string ⟨#[]⟩,.int .i64 0,.int .i64 0,.string ⟨#[]⟩,.slice none 0 0,.int .i64 0] 31)
 have b1:=al (w.alloc (.cells #[.string ⟨#[]⟩,.string ⟨#[]⟩,.int .i64 0,.int .i64 0,.string ⟨#[]⟩,.slice none 0 0,.int .i64 0] 31)) (.cells #[.string ⟨#[43]⟩,.string ⟨#[45]⟩] 9)
 have X1:=X0.on b1
 have cO:=zaw (w.heap.size+1) 2 r [[43],[45]] ((w.alloc (.cells #[.string ⟨#[]⟩,.string ⟨#[]⟩,.int .i64 0,.int .i64 0,.string ⟨#[]⟩,.slice none 0 0,.int .i64 0] 31)).alloc (.cells #[.string ⟨#[43]⟩,.string ⟨#[45]⟩] 9)) (by decide) (zau _ _ (by simp) _ _ _ (fun j hj=>match j,hj with
  | 0,_=>rfl
  | 1,_=>rfl)) (by omega) (by simp;omega)
 have b2:=b0.trans (b1.mono (by simp))
 clear X0 b1 b0
 go_enter Tryz.func206,Tryz.ntmps206
 go_wp2_with fail
 refine cO.mono ?_
 rintro e w2 ⟨⟨p,rfl,hp⟩,b3⟩
 have X2:=X1.on b3
 have B2:=b2.trans (b3.mono (by simp;omega))
 have hz2:w.heap.size+2≤w2.heap.size:=by have:=b3.size;simpa using this
 clear X1 b2 b3 cO
 go_wp2_with fail
 refine (cS _ p (HR.out.on B2) hp (HE.out.on B2)).mono ?_
 rintro e w3 ⟨v,ok,x,rfl,hx,hrd,hbt,hres⟩
 obtain⟨u0,u1,u2,u3,u4,u5,u6,u7,u8,rfl⟩:=hx.out.agg
 obtain⟨c0,c1,c2,c3,c4,c5,c6,cf,cl⟩:=X2.but hbt.out (by omega)
 have rf0:=cf 0
 have rf1:=cf 1
 have rf2:=cf 2
 have rf3:=cf 3
 have rf4:=cf 4
 have rf5:=cf 5
 have rf6:=cf 6
 clear cf X2 cS
 go_wp2
 refine bodyPost_ret (v:=.tuple #[.agg #[.string u0,.string u1,.int .i64 u2,.int .i64 u3,.string u4,.slice u5 u6 u7,.int .i64 u8],.bool ok]) (by simp[results,Tryz.results206,go_sem,c0,c1,c2,c3,c4,c5,c6]) rfl ⟨_,ok,x,rfl,?_,?_,?_,hres⟩
 ·exact ExIn.low (fun b _ (hb:w2.heap.size≤b)=>(show w.heap.size≤b by omega)) _ _ (hx.out.set7 (fun b (hb:w2.heap.size≤b)=>by omega) _ _ _ _ _ _ _)
 ·exact hrd.out.set7 (by omega) _ _ _ _ _ _ _
 ·exact ((But.of_below' B2 (by omega)).trans hbt.out).set7 (Nat.le_refl _) (by omega) _ _ _ _ _ _ _
set_option maxRecDepth 20000 in
theorem ziu(sub:List Tok→Option Ex×List Tok)(ts:List Tok)(hsuf:Suf sub)(hg:Fit ts)(hsub:∀ts',ts' <:+ ts→Reads 242 sub ts'):Reads 226 (uSev sub [[42],[47],[37]]) ts:=by
 intro w r en h henv hr
 have HR:Aside (RdAt en w r ts):=h
 have HE:Aside (TEnv w):=henv
 have hl:=h.lt
 clear h henv
 have cS:=fun W p h hs he=>zbm (en:=en) _ (fun args W=>by kernel_rfl) sub [[42],[47],[37]] ts hsuf hg hsub W r p h hs he hr
 have X0:=zap w (.string ⟨#[]⟩) (.string ⟨#[]⟩) (.int .i64 0) (.int .i64 0) (.string ⟨#[]⟩) (.slice none 0 0) (.int .i64 0) 31
 have b0:=(Below.refl w.heap.size w).alloc (Nat.le_refl _) (.cells #[.string ⟨#[]⟩,.string ⟨#[]⟩,.int .i64 0,.int .i64 0,.string ⟨#[]⟩,.slice none 0 0,.int .i64 0] 31)
 have b1:=al (w.alloc (.cells #[.string ⟨#[]⟩,.string ⟨#[]⟩,.int .i64 0,.int .i64 0,.string ⟨#[]⟩,.slice none 0 0,.int .i64 0] 31)) (.cells #[.string ⟨#[42]⟩,.string ⟨#[47]⟩,.string ⟨#[37]⟩] 9)
 have X1:=X0.on b1
 have cO:=zaw (w.heap.size+1) 3 r [[42],[47],[37]] ((w.alloc (.cells #[.string ⟨#[]⟩,.string ⟨#[]⟩,.int .i64 0,.int .i64 0,.string ⟨#[]⟩,.slice none 0 0,.int .i64 0] 31)).alloc (.cells #[.string ⟨#[42]⟩,.string ⟨#[47]⟩,.string ⟨#[37]⟩] 9)) (by decide) (zau _ _ (by simp) _ _ _ (fun j hj=>match j,hj with
  | 0,_=>rfl
  | 1,_=>rfl
  | 2,_=>rfl)) (by omega) (by simp;omega)
 have b2:=b0.trans (b1.mono (by simp))
 clear X0 b1 b0
 go_enter Tryz.func226,Tryz.ntmps226
 go_wp2_with fail
 refine cO.mono ?_
 rintro e w2 ⟨⟨p,rfl,hp⟩,b3⟩
 have X2:=X1.on b3
 have B2:=b2.trans (b3.mono (by simp;omega))
 have hz2:w.heap.size+2≤w2.heap.size:=by have:=b3.size;simpa using this
 clear X1 b2 b3 cO
 go_wp2_with fail
 refine (cS _ p (HR.out.on B2) hp (HE.out.on B2)).mono ?_
 rintro e w3 ⟨v,ok,x,rfl,hx,hrd,hbt,hres⟩
 obtain⟨u0,u1,u2,u3,u4,u5,u6,u7,u8,rfl⟩:=hx.out.agg
 obtain⟨c0,c1,c2,c3,c4,c5,c6,cf,cl⟩:=X2.but hbt.out (by omega)
 have rf0:=cf 0
 have rf1:=cf 1
 have rf2:=cf 2
 have rf3:=cf 3
 have rf4:=cf 4
 have rf5:=cf 5
 have rf6:=cf 6
 clear cf X2 cS
 go_wp2
 refine bodyPost_ret (v:=.tuple #[.agg #[.string u0,.string u1,.int .i64 u2,.int .i64 u3,.string u4,.slice u5 u6 u7,.int .i64 u8],.bool ok]) (by simp[results,Tryz.results226,go_sem,c0,c1,c2,c3,c4,c5,c6]) rfl ⟨_,ok,x,rfl,?_,?_,?_,hres⟩
 ·exact ExIn.low (fun b _ (hb:w2.heap.size≤b)=>(show w.heap.size≤b by omega)) _ _ (hx.out.set7 (fun b (hb:w2.heap.size≤b)=>by omega) _ _ _ _ _ _ _)
 ·exact hrd.out.set7 (by omega) _ _ _ _ _ _ _
 ·exact ((But.of_below' B2 (by omega)).trans hbt.out).set7 (Nat.le_refl _) (by omega) _ _ _ _ _ _ _
end
section
open Go.BigFrame
variable {en : Nat}

theorem ziF{opl:List UInt8}{gs:List (List UInt8)}{sub other:List Tok→Option Ex×List Tok}{ts rs:List Tok}{t:Tok}(hn:nxT (sgT gs) ts=some (t,rs)):zbZ opl gs sub other ts=((sub rs).1.map fun e=>op1 opl (t.2.2:Int) [e],(sub rs).2):=by
 rw[zbZ,hn]
 simp only
 cases sub rs with
 | mk o r=>cases o<;>rfl
theorem zrd{ok:Bool}{x:Ex}{o:Option Ex}{F:Ex→Ex}(h:o=if ok=true then some x else none):o.map F=if ok=true then some (F x) else none:=by
 subst h
 cases ok<;>rfl
set_option maxRecDepth 20000 in
theorem zde(f g:FuncId)(hentf:∀(args:Array Value) (W:World),Sem.run Tryz.prog (callFunc f args) W=.ok (.enter f args) W)(hentg:∀(args:Array Value) (W:World),Sem.run Tryz.prog (callFunc g args) W=.ok (.enter g args) W)(sub other:List Tok→Option Ex×List Tok)(opl:List UInt8)(hop:(⟨opl.toArray⟩:ByteArray).size≤maxLen)(gs:List (List UInt8))(ts:List Tok)(hg:Fit ts)
  (hsub:∀t rs,ts=t::rs→Reads f sub rs)(hoth:Reads g other ts)(w:World)(r p:Nat)(h:RdAt en w r ts)(hs:zaW w r p gs)(henv:TEnv w)(hr:12≤r) :
  Calls Tryz.prog 179 #[.pointer (some ⟨r,0,none⟩),.string ⟨opl.toArray⟩,signV p,partV f r,partV g r] w fun e w'=>∃v ok x,e=.returned (.tuple #[v,.bool ok])∧Aside (ExIn w' (w.heap.size≤·) v x)∧Aside (RdAt en w' r (zbZ opl gs sub other ts).2)∧Aside (But r w w')∧Hid ((zbZ opl gs sub other ts).1=if ok=true then some x else none):=by
 have HR:Aside (RdAt en w r ts):=h
 have HS:Aside (zaW w r p gs):=hs
 have HE:Aside (TEnv w):=henv
 have hl:=h.lt
 clear h hs henv
 have b0:=al w (.cells #[.string ⟨#[]⟩,.string ⟨#[]⟩,.int .i64 0,.int .i64 0,.string ⟨#[]⟩,.slice none 0 0,.int .i64 0] 31)
 have X0:=zap w (.string ⟨#[]⟩) (.string ⟨#[]⟩) (.int .i64 0) (.int .i64 0) (.string ⟨#[]⟩) (.slice none 0 0) (.int .i64 0) 31
 cases hn:nxT (sgT gs) ts with
 | none =>
  have cT:=zam gs p _ r ts (HR.out.on b0) (HS.out.but (But.of_below' b0 (by omega))).sign hn
  have hU:zbZ opl gs sub other ts=other ts:=by rw[zbZ,hn]
  rw[hU]
  rw[noTok] at cT
  clear hn hU
  go_enter Tryz.func179,Tryz.ntmps179
  go_wp2_with fail
  refine cT.mono ?_
  rintro e w2 ⟨rfl,rd2,b2⟩
  have X2:=X0.but b2 (by omega)
  have hz2:w.heap.size+1≤w2.heap.size:=by have:=b2.size;simpa using this
  have bb:=al w2 (.cells #[.int .i64 0,.string ⟨#[]⟩,.int .i64 0] 78)
  have B2:But r w _:=(But.of_below' b0 (by omega)).trans b2
  clear b2 b0 X0 cT
  go_wp2_with fail
  refine (hoth _ r (rd2.on bb) (HE.out.but (B2.on bb hl) hr) hr).mono ?_
  rintro e w3 ⟨v,ok,x,rfl,hx,hrd,hbt,hres⟩
  obtain⟨u0,u1,u2,u3,u4,u5,u6,u7,u8,rfl⟩:=hx.out.agg
  obtain⟨c0,c1,c2,c3,c4,c5,c6,cf,cl⟩:=(X2.on bb).but hbt.out (by omega)
  have rf0:=cf 0
  have rf1:=cf 1
  have rf2:=cf 2
  have rf3:=cf 3
  have rf4:=cf 4
  have rf5:=cf 5
  have rf6:=cf 6
  have B3:=(B2.on bb hl).trans hbt.out
  clear cf X2
  go_wp2
  refine bodyPost_ret (v:=.tuple #[.agg #[.string u0,.string u1,.int .i64 u2,.int .i64 u3,.string u4,.slice u5 u6 u7,.int .i64 u8],.bool ok]) (by simp[results,Tryz.results179,go_sem,c0,c1,c2,c3,c4,c5,c6]) rfl ⟨_,ok,x,rfl,?_,?_,?_,hres⟩
  ·exact ExIn.low (fun b _ hb=>(show w.heap.size≤b by simp at hb;omega)) _ _ (hx.out.set7 (fun b hb=>by simp at hb;omega) _ _ _ _ _ _ _)
  ·exact hrd.out.set7 (by omega) _ _ _ _ _ _ _
  ·exact B3.set7 (Nat.le_refl _) (by omega) _ _ _ _ _ _ _
 | some y =>
  obtain⟨tt,rs⟩:=y
  have cT:=zan gs p _ r tt ts rs (HR.out.on b0) (HS.out.but (But.of_below' b0 (by omega))).sign hn
  have cP:=hsub tt rs (zal hn).1
  have HN:Hid (nxT (sgT gs) ts=some (tt,rs)):=hn
  obtain⟨tk,tx,ta⟩:=tt
  rw[tokV] at cT
  simp only at cT
  clear hn
  go_enter Tryz.func179,Tryz.ntmps179
  go_wp2_with fail
  refine cT.mono ?_
  rintro e w2 ⟨rfl,rd2,b2⟩
  have X2:=X0.but b2 (by omega)
  have hz2:w.heap.size+1≤w2.heap.size:=by have:=b2.size;simpa using this
  have bb:=al w2 (.cells #[.int .i64 tk,.string tx,.int .i64 (ta:Int)] 78)
  have B2:But r w _:=(But.of_below' b0 (by omega)).trans b2
  clear b2 b0 X0 cT
  go_wp2_with fail
  refine (cP _ r (rd2.on bb) (HE.out.but (B2.on bb hl) hr) hr).mono ?_
  rintro e w3 ⟨v,ok,x,rfl,hx,hrd,hbt,hres⟩
  obtain⟨u0,u1,u2,u3,u4,u5,u6,u7,u8,rfl⟩:=hx.out.agg
  obtain⟨c0,c1,c2,c3,c4,c5,c6,cf,cl⟩:=(X2.on bb).but hbt.out (by omega)
  have rf0:=cf 0
  have rf1:=cf 1
  have rf2:=cf 2
  have rf3:=cf 3
  have rf4:=cf 4
  have rf5:=cf 5
  have rf6:=cf 6
  have B3:=(B2.on bb hl).trans hbt.out
  have hz3:w2.heap.size+1≤w3.heap.size:=by have:=hbt.out.size;simpa using this
  have hlt3:w2.heap.size<w3.heap.size:=by omega
  have g2:w3.cell? ⟨w2.heap.size,2,none⟩=some (.int .i64 (ta:Int)):=by
   rw[hbt.out.cell _ (by simp) (by omega),World.cell?_alloc_at _ _ _ _ rfl];rfl
  have hU:=ziF (opl:=opl) (sub:=sub) (other:=other) HN.out
  have RU:=hx.out.set7 (z:=w.heap.size) (fun b hb=>by simp at hb;omega) (.string ⟨opl.toArray⟩) (.string ⟨#[]⟩) (.int .i64 0) (.int .i64 0) (.string ⟨#[]⟩) (.slice (some ⟨w3.heap.size+1,0,none⟩) 1 1) (.int .i64 (ta:Int))
  clear cf X2
  go_wp2
  refine bodyPost_ret (v:=.tuple #[.agg #[.string ⟨opl.toArray⟩,.string ⟨#[]⟩,.int .i64 0,.int .i64 0,.string ⟨#[]⟩,.slice (some ⟨w3.heap.size+1,0,none⟩) 1 1,.int .i64 (ta:Int)],.bool ok]) (by simp[results,Tryz.results179,go_sem,c0,c1,c2,c3,c4,c5,c6,cl]) rfl ⟨_,ok,op1 opl (ta:Int) [x],rfl,?_,?_,?_,?_⟩
  ·exact ztb (ExIn.low (lo':=(w.heap.size≤·)) (fun b _ hb=>(show w.heap.size≤b by simp at hb;omega)) _ _ RU) ((al _ _).trans ((al _ _).mono (by simp))) (by simp[World.setCell]) (show w.heap.size≤w3.heap.size+1 by omega) (fun i=>World.cell?_alloc_at _ _ _ _ (by simp[World.setCell])) hop (by decide) (by decide)
  ·rw[hU];exact ((hrd.out.set7 (by omega) _ _ _ _ _ _ _).on (al _ _)).on (al _ _)
  ·exact ((B3.set7 (Nat.le_refl _) (by omega) _ _ _ _ _ _ _).on (al _ _) hl).on (al _ _) hl
  ·rw[hU];exact zrd hres.out
set_option maxRecDepth 20000 in
theorem zjr(sub other:List Tok→Option Ex×List Tok)(ts:List Tok)(hg:Fit ts)(hsub:∀t rs,ts=t::rs→Reads 151 sub rs)(hoth:Reads 180 other ts):Reads 151 (zbZ [110,111,116] [[110,111,116]] sub other) ts:=by
 intro w r en h henv hr
 have HR:Aside (RdAt en w r ts):=h
 have HE:Aside (TEnv w):=henv
 have hl:=h.lt
 clear h henv
 have cS:=fun W p h hs he=>zde (en:=en) 151 180 (fun args W=>by kernel_rfl) (fun args W=>by kernel_rfl) sub other [110,111,116] (by decide) [[110,111,116]] ts hg hsub hoth W r p h hs he hr
 have X0:=zap w (.string ⟨#[]⟩) (.string ⟨#[]⟩) (.int .i64 0) (.int .i64 0) (.string ⟨#[]⟩) (.slice none 0 0) (.int .i64 0) 31
 have b0:=(Below.refl w.heap.size w).alloc (Nat.le_refl _) (.cells #[.string ⟨#[]⟩,.string ⟨#[]⟩,.int .i64 0,.int .i64 0,.string ⟨#[]⟩,.slice none 0 0,.int .i64 0] 31)
 have b1:=al (w.alloc (.cells #[.string ⟨#[]⟩,.string ⟨#[]⟩,.int .i64 0,.int .i64 0,.string ⟨#[]⟩,.slice none 0 0,.int .i64 0] 31)) (.cells #[.string ⟨#[110,111,116]⟩] 9)
 have X1:=X0.on b1
 have cO:=zaw (w.heap.size+1) 1 r [[110,111,116]] ((w.alloc (.cells #[.string ⟨#[]⟩,.string ⟨#[]⟩,.int .i64 0,.int .i64 0,.string ⟨#[]⟩,.slice none 0 0,.int .i64 0] 31)).alloc (.cells #[.string ⟨#[110,111,116]⟩] 9)) (by decide) (zau _ _ (by simp) _ _ _ (fun j hj=>match j,hj with
  | 0,_=>rfl)) (by omega) (by simp;omega)
 have b2:=b0.trans (b1.mono (by simp))
 clear X0 b1 b0
 go_enter Tryz.func151,Tryz.ntmps151
 go_wp2_with fail
 refine cO.mono ?_
 rintro e w2 ⟨⟨p,rfl,hp⟩,b3⟩
 have X2:=X1.on b3
 have B2:=b2.trans (b3.mono (by simp;omega))
 have hz2:w.heap.size+2≤w2.heap.size:=by have:=b3.size;simpa using this
 clear X1 b2 b3 cO
 go_wp2_with fail
 refine (cS _ p (HR.out.on B2) hp (HE.out.on B2)).mono ?_
 rintro e w3 ⟨v,ok,x,rfl,hx,hrd,hbt,hres⟩
 obtain⟨u0,u1,u2,u3,u4,u5,u6,u7,u8,rfl⟩:=hx.out.agg
 obtain⟨c0,c1,c2,c3,c4,c5,c6,cf,cl⟩:=X2.but hbt.out (by omega)
 have rf0:=cf 0
 have rf1:=cf 1
 have rf2:=cf 2
 have rf3:=cf 3
 have rf4:=cf 4
 have rf5:=cf 5
 have rf6:=cf 6
 clear cf X2 cS
 go_wp2
 refine bodyPost_ret (v:=.tuple #[.agg #[.string u0,.string u1,.int .i64 u2,.int .i64 u3,.string u4,.slice u5 u6 u7,.int .i64 u8],.bool ok]) (by simp[results,Tryz.results151,go_sem,c0,c1,c2,c3,c4,c5,c6]) rfl ⟨_,ok,x,rfl,?_,?_,?_,hres⟩
 ·exact ExIn.low (fun b _ (hb:w2.heap.size≤b)=>(show w.heap.size≤b by omega)) _ _ (hx.out.set7 (fun b (hb:w2.heap.size≤b)=>by omega) _ _ _ _ _ _ _)
 ·exact hrd.out.set7 (by omega) _ _ _ _ _ _ _
 ·exact ((But.of_below' B2 (by omega)).trans hbt.out).set7 (Nat.le_refl _) (by omega) _ _ _ _ _ _ _
set_option maxRecDepth 20000 in
theorem zgD(sub other:List Tok→Option Ex×List Tok)(ts:List Tok)(hg:Fit ts)(hsub:∀t rs,ts=t::rs→Reads 242 sub rs)(hoth:Reads 259 other ts):Reads 242 (zbZ [110,101,103] [[45]] sub other) ts:=by
 intro w r en h henv hr
 have HR:Aside (RdAt en w r ts):=h
 have HE:Aside (TEnv w):=henv
 have hl:=h.lt
 clear h henv
 have cS:=fun W p h hs he=>zde (en:=en) 242 259 (fun args W=>by kernel_rfl) (fun args W=>by kernel_rfl) sub other [110,101,103] (by decide) [[45]] ts hg hsub hoth W r p h hs he hr
 have X0:=zap w (.string ⟨#[]⟩) (.string ⟨#[]⟩) (.int .i64 0) (.int .i64 0) (.string ⟨#[]⟩) (.slice none 0 0) (.int .i64 0) 31
 have b0:=(Below.refl w.heap.size w).alloc (Nat.le_refl _) (.cells #[.string ⟨#[]⟩,.string ⟨#[]⟩,.int .i64 0,.int .i64 0,.string ⟨#[]⟩,.slice none 0 0,.int .i64 0] 31)
 have b1:=al (w.alloc (.cells #[.string ⟨#[]⟩,.string ⟨#[]⟩,.int .i64 0,.int .i64 0,.string ⟨#[]⟩,.slice none 0 0,.int .i64 0] 31)) (.cells #[.string ⟨#[45]⟩] 9)
 have X1:=X0.on b1
 have cO:=zaw (w.heap.size+1) 1 r [[45]] ((w.alloc (.cells #[.string ⟨#[]⟩,.string ⟨#[]⟩,.int .i64 0,.int .i64 0,.string ⟨#[]⟩,.slice none 0 0,.int .i64 0] 31)).alloc (.cells #[.string ⟨#[45]⟩] 9)) (by decide) (zau _ _ (by simp) _ _ _ (fun j hj=>match j,hj with
  | 0,_=>rfl)) (by omega) (by simp;omega)
 have b2:=b0.trans (b1.mono (by simp))
 clear X0 b1 b0
 go_enter Tryz.func242,Tryz.ntmps242
 go_wp2_with fail
 refine cO.mono ?_
 rintro e w2 ⟨⟨p,rfl,hp⟩,b3⟩
 have X2:=X1.on b3
 have B2:=b2.trans (b3.mono (by simp;omega))
 have hz2:w.heap.size+2≤w2.heap.size:=by have:=b3.size;simpa using this
 clear X1 b2 b3 cO
 go_wp2_with fail
 refine (cS _ p (HR.out.on B2) hp (HE.out.on B2)).mono ?_
 rintro e w3 ⟨v,ok,x,rfl,hx,hrd,hbt,hres⟩
 obtain⟨u0,u1,u2,u3,u4,u5,u6,u7,u8,rfl⟩:=hx.out.agg
 obtain⟨c0,c1,c2,c3,c4,c5,c6,cf,cl⟩:=X2.but hbt.out (by omega)
 have rf0:=cf 0
 have rf1:=cf 1
 have rf2:=cf 2
 have rf3:=cf 3
 have rf4:=cf 4
 have rf5:=cf 5
 have rf6:=cf 6
 clear cf X2 cS
 go_wp2
 refine bodyPost_ret (v:=.tuple #[.agg #[.string u0,.string u1,.int .i64 u2,.int .i64 u3,.string u4,.slice u5 u6 u7,.int .i64 u8],.bool ok]) (by simp[results,Tryz.results242,go_sem,c0,c1,c2,c3,c4,c5,c6]) rfl ⟨_,ok,x,rfl,?_,?_,?_,hres⟩
 ·exact ExIn.low (fun b _ (hb:w2.heap.size≤b)=>(show w.heap.size≤b by omega)) _ _ (hx.out.set7 (fun b (hb:w2.heap.size≤b)=>by omega) _ _ _ _ _ _ _)
 ·exact hrd.out.set7 (by omega) _ _ _ _ _ _ _
 ·exact ((But.of_below' B2 (by omega)).trans hbt.out).set7 (Nat.le_refl _) (by omega) _ _ _ _ _ _ _
end
section
open Go.BigFrame
variable {en : Nat}

theorem zmH{sub:List Tok→Option Ex×List Tok}{ts:List Tok}(h:(sub ts).1=none):uCmp sub ts=(none,(sub ts).2):=by
 rw[uCmp]
 cases h3:sub ts with
 | mk o r=>rw[h3] at h;simp only at h;subst h;rfl
theorem zsv{sub:List Tok→Option Ex×List Tok}{ts:List Tok}{a:Ex}(h:(sub ts).1=some a)(hn:nxT (sgT cmpL) (sub ts).2=none):uCmp sub ts=(some a,(sub ts).2):=by
 rw[uCmp]
 cases h3:sub ts with
 | mk o r=>rw[h3] at h hn;simp only at h hn;subst h;simp only[hn]
theorem zpE{sub:List Tok→Option Ex×List Tok}{ts rs:List Tok}{a:Ex}{t:Tok}(h:(sub ts).1=some a)(hn:nxT (sgT cmpL) (sub ts).2=some (t,rs)):uCmp sub ts=((sub rs).1.map fun b=>betT a t b,(sub rs).2):=by
 rw[uCmp]
 cases h3:sub ts with
 | mk o r =>
  rw[h3] at h hn;simp only at h hn;subst h;simp only[hn]
  cases sub rs with
  | mk o r=>cases o<;>rfl
theorem zfk(W:World)(lo:Nat→Prop):ExIn W lo (.agg #[.string ⟨#[]⟩,.string ⟨#[]⟩,.int .i64 0,.int .i64 0,.string ⟨#[]⟩,.slice none 0 0,.int .i64 0]) ex0:=by
 rw[ex0]
 exact zhm (by decide) (by decide) (by decide)
set_option maxRecDepth 20000 in
theorem zec(sub:List Tok→Option Ex×List Tok)(ts:List Tok)(hsuf:Suf sub)(hg:Fit ts)(hsub:∀ts',ts' <:+ ts→Reads 206 sub ts'):Reads 180 (uCmp sub) ts:=by
 intro w r en h henv hr
 have HR:Aside (RdAt en w r ts):=h
 have HE:Aside (TEnv w):=henv
 have HG:Aside (Fit ts):=hg
 have hl:=h.lt
 have cA:=hsub ts List.suffix_rfl
 have HC:Aside (∀ts',ts' <:+ ts→Reads 206 sub ts'):=hsub
 clear h henv hg hsub
 have b0:=al w (.cells #[.string ⟨#[]⟩,.string ⟨#[]⟩,.int .i64 0,.int .i64 0,.string ⟨#[]⟩,.slice none 0 0,.int .i64 0] 31)
 have X0:=zap w (.string ⟨#[]⟩) (.string ⟨#[]⟩) (.int .i64 0) (.int .i64 0) (.string ⟨#[]⟩) (.slice none 0 0) (.int .i64 0) 31
 go_enter Tryz.func180,Tryz.ntmps180
 go_wp2_with fail
 refine (cA _ r (HR.out.on b0) (HE.out.on b0) hr).mono ?_
 rintro e w1 ⟨v,ok,x,rfl,hx,hrd,hbt,hres⟩
 obtain⟨o1,n1,t1,k1,s1,p1,m1,q1,a1,rfl⟩:=hx.out.agg
 have X1:=X0.but hbt.out (by omega)
 have L1:=zap w1 (.string o1) (.string n1) (.int .i64 t1) (.int .i64 k1) (.string s1) (.slice p1 m1 q1) (.int .i64 a1) 31
 have bb:=al w1 (.cells #[.string o1,.string n1,.int .i64 t1,.int .i64 k1,.string s1,.slice p1 m1 q1,.int .i64 a1] 31)
 have X2:=X1.on bb
 have hz0:w.heap.size+1≤w1.heap.size:=by have:=hbt.out.size;simpa using this
 have B1:But r w w1:=(But.of_below' b0 (by omega)).trans hbt.out
 clear X0 cA
 cases ok
 ·have hU:=zmH (sub:=sub) (ts:=ts) hres.out
  obtain⟨d0,d1,d2,d3,d4,d5,d6,df,dl⟩:=X1
  have df0:=df 0
  have df1:=df 1
  have df2:=df 2
  have df3:=df 3
  have df4:=df 4
  have df5:=df 5
  have df6:=df 6
  clear df L1 X2 bb
  go_wp2
  refine bodyPost_ret (v:=.tuple #[.agg #[.string ⟨#[]⟩,.string ⟨#[]⟩,.int .i64 0,.int .i64 0,.string ⟨#[]⟩,.slice none 0 0,.int .i64 0],.bool false]) (by simp[results,Tryz.results180,go_sem,d0,d1,d2,d3,d4,d5,d6,dl]) rfl ⟨_,false,ex0,rfl,?_,?_,?_,?_⟩
  ·exact zfk _ _
  ·rw[hU];exact (hrd.out.set7 (by omega) _ _ _ _ _ _ _).on (al _ _)
  ·exact (B1.set7 (Nat.le_refl _) (by omega) _ _ _ _ _ _ _).on (al _ _) hl
  ·rw[hU];exact rfl
 ·have b2:=al (w1.alloc (.cells #[.string o1,.string n1,.int .i64 t1,.int .i64 k1,.string s1,.slice p1 m1 q1,.int .i64 a1] 31)) (.cells #[.string ⟨#[61]⟩,.string ⟨#[60,62]⟩,.string ⟨#[60]⟩,.string ⟨#[60,61]⟩,.string ⟨#[62]⟩,.string ⟨#[62,61]⟩] 9)
  have cO:=zaw (w1.heap.size+1) 6 r cmpL ((w1.alloc (.cells #[.string o1,.string n1,.int .i64 t1,.int .i64 k1,.string s1,.slice p1 m1 q1,.int .i64 a1] 31)).alloc (.cells #[.string ⟨#[61]⟩,.string ⟨#[60,62]⟩,.string ⟨#[60]⟩,.string ⟨#[60,61]⟩,.string ⟨#[62]⟩,.string ⟨#[62,61]⟩] 9)) (by decide) (zau _ _ (by simp) _ _ _ (fun j hj=>match j,hj with
   | 0,_=>rfl
   | 1,_=>rfl
   | 2,_=>rfl
   | 3,_=>rfl
   | 4,_=>rfl
   | 5,_=>rfl)) (by omega) (by simp;omega)
  go_wp2_with fail
  refine cO.mono ?_
  rintro e w2 ⟨⟨p,rfl,hp⟩,b3⟩
  have B2:Below w1.heap.size w1 w2:=(bb.trans (b2.mono (by simp))).trans (b3.mono (by simp;omega))
  have hz2:w1.heap.size+2≤w2.heap.size:=by have:=b3.size;simpa using this
  have L2:=(L1.on b2).on b3
  have Z2:=X1.on B2
  have rd2:=hrd.out.on B2
  have x2:=ExIn.low (lo':=fun b=>w.heap.size<b∧b<w1.heap.size) (fun b h1 h2=>⟨by simp at h2;omega,h1⟩) _ _ hx.out
  have x3:=x2.on B2
  have BB2:=B1.on B2 hl
  clear X1 X2 L1 bb b2 b3 cO x2 hx hrd hbt B2
  cases hn:nxT (sgT cmpL) (sub ts).2 with
  | none =>
   have cT:=zam cmpL p w2 r (sub ts).2 rd2 hp.sign hn
   have hU:=zsv hres.out hn
   rw[noTok] at cT
   clear hn
   go_wp2_with fail
   refine cT.mono ?_
   rintro e w3 ⟨rfl,rd3,b3⟩
   have hz3:=b3.size
   obtain⟨c0,c1,c2,c3,c4,c5,c6,cf,cl⟩:=L2.but b3 (by omega)
   obtain⟨d0,d1,d2,d3,d4,d5,d6,df,dl⟩:=Z2.but b3 (by omega)
   have df0:=df 0
   have df1:=df 1
   have df2:=df 2
   have df3:=df 3
   have df4:=df 4
   have df5:=df 5
   have df6:=df 6
   clear df cf cT
   go_wp2
   refine bodyPost_ret (v:=.tuple #[.agg #[.string o1,.string n1,.int .i64 t1,.int .i64 k1,.string s1,.slice p1 m1 q1,.int .i64 a1],.bool true]) (by simp[results,Tryz.results180,go_sem,d0,d1,d2,d3,d4,d5,d6,dl]) rfl ⟨_,true,x,rfl,?_,?_,?_,?_⟩
   ·exact ExIn.low (fun b _ hb=>(show w.heap.size≤b by have:=hb.1;omega)) _ _ (((x3.but b3 (fun b hb=>by have:=hb.1;omega)).set7 (fun b hb=>by have:=hb.1;omega) _ _ _ _ _ _ _).on (al _ _))
   ·rw[hU];exact (rd3.set7 (by omega) _ _ _ _ _ _ _).on (al _ _)
   ·exact ((BB2.trans b3).set7 (Nat.le_refl _) (by omega) _ _ _ _ _ _ _).on (al _ _) hl
   ·rw[hU];exact rfl
  | some y =>
   obtain⟨tt,rs⟩:=y
   have cT:=zan cmpL p w2 r tt (sub ts).2 rs rd2 hp.sign hn
   have hU:=zpE hres.out hn
   have hsf:rs <:+ ts:=by
    have h1:=(zal hn).1
    have h2:=hsuf ts
    rw[h1] at h2
    exact (List.suffix_cons tt rs).trans h2
   have hts:tt.2.1.size≤400:=by
    have h1:=(zal hn).1
    have h2:=hsuf ts
    rw[h1] at h2
    exact HG.out _ (h2.mem List.mem_cons_self)
   have cP:=HC.out rs hsf
   have cBt:=fun W v2 y (h1:ExIn W (w.heap.size < ·) (.agg #[.string o1,.string n1,.int .i64 t1,.int .i64 k1,.string s1,.slice p1 m1 q1,.int .i64 a1]) x) (h2:ExIn W (w.heap.size < ·) v2 y) (hW:w.heap.size<W.heap.size)=>zdF W _ tt _ v2 x y h1 h2 (fun b hb=>Nat.lt_of_lt_of_le hW hb) (by unfold maxLen;omega)
   rw[tokV] at cT cBt
   obtain⟨tk,tx,ta⟩:=tt
   simp only at cT cBt hts
   clear hn
   go_wp2_with fail
   refine cT.mono ?_
   rintro e w3 ⟨rfl,rd3,b3⟩
   have hz3:=b3.size
   have bb:=al w3 (.cells #[.int .i64 tk,.string tx,.int .i64 (ta:Int)] 78)
   have L3:=(L2.but b3 (by omega)).on bb
   have Z3:=(Z2.but b3 (by omega)).on bb
   have BB3:=(BB2.trans b3).on bb hl
   have x4:=(x3.but b3 (fun b hb=>by have:=hb.1;omega)).on bb
   clear L2 Z2 cT x3 BB2
   go_wp2_with fail
   refine (cP _ r (rd3.on bb) (HE.out.but BB3 hr) hr).mono ?_
   rintro e w4 ⟨v,ok,y,rfl,hy,hrd,hbt,hry⟩
   obtain⟨o9,n9,t9,k9,s9,p9,m9,c9,a9,rfl⟩:=hy.out.agg
   have hz4:w3.heap.size+1≤w4.heap.size:=by have:=hbt.out.size;simpa using this
   have hlt4:w3.heap.size<w4.heap.size:=by omega
   have T3:∀i,w4.cell? ⟨w3.heap.size,i,none⟩=(#[.int .i64 tk,.string tx,.int .i64 (ta:Int)]:Array Value)[i]?:=fun i=>by
    rw[hbt.out.cell _ (by simp) (by omega),World.cell?_alloc_at _ _ _ _ rfl]
   have g0:=T3 0
   have g1:=T3 1
   have g2:=T3 2
   simp at g0 g1 g2
   have BB4:=BB3.trans hbt.out
   have L4:=L3.but hbt.out (by omega)
   have Z4:=Z3.but hbt.out (by omega)
   have x5:=x4.but hbt.out (fun b hb=>by have:=hb.1;omega)
   have b5:=al w4 (.cells #[.string o9,.string n9,.int .i64 t9,.int .i64 k9,.string s9,.slice p9 m9 c9,.int .i64 a9] 31)
   have C4:=cBt _ _ y (ExIn.low (fun b _ hb=>(show w.heap.size<b by have:=hb.1;omega)) _ _ (x5.on b5)) (ExIn.low (fun b _ hb=>(show w.heap.size<b by simp at hb;omega)) _ _ (hy.out.on b5)) (by simp;omega)
   obtain⟨c0,c1,c2,c3,c4,c5,c6,cf,cl⟩:=L4
   have Z5:=Z4.on b5
   clear cf T3 L3 Z3 x4 x5 hy cBt cP bb
   go_wp2_with fail
   refine C4.mono ?_
   rintro e w5 ⟨⟨v,rfl,hv⟩,b6⟩
   obtain⟨u0,u1,u2,u3,u4,u5,u6,u7,u8,rfl⟩:=hv.agg
   obtain⟨d0,d1,d2,d3,d4,d5,d6,df,dl⟩:=Z5.on b6
   have df0:=df 0
   have df1:=df 1
   have df2:=df 2
   have df3:=df 3
   have df4:=df 4
   have df5:=df 5
   have df6:=df 6
   clear df
   go_wp2
   refine bodyPost_ret (v:=.tuple #[.agg #[.string u0,.string u1,.int .i64 u2,.int .i64 u3,.string u4,.slice u5 u6 u7,.int .i64 u8],.bool ok]) (by simp[results,Tryz.results180,go_sem,d0,d1,d2,d3,d4,d5,d6]) rfl ⟨_,ok,betT x (tk,tx,ta) y,rfl,?_,?_,?_,?_⟩
   ·exact ExIn.low (fun b _ (hb:w.heap.size<b)=>(show w.heap.size≤b by omega)) _ _ (hv.set7 (fun b (hb:w.heap.size<b)=>by omega) _ _ _ _ _ _ _)
   ·rw[hU];exact ((hrd.out.on b5).on b6).set7 (by omega) _ _ _ _ _ _ _
   ·exact ((BB4.on b5 hl).on b6 hl).set7 (Nat.le_refl _) (by omega) _ _ _ _ _ _ _
   ·rw[hU];exact zrd hry.out
end
end Go.Proofs.YtbdnccnfidjiaaaGreatDoor
