/-
  TreeQ, LexToks, TreeR1, TreeR2, TreeR3.
-/
import Derived.Test.YtbdnccnfidjiaaaGreatDoorGyAc
import Derived.WalkKit
import Derived.Below
import Derived.RowKitTokens
import Derived.Lib.OthersKept
import Derived.Deep.DeepCutAuto
import Derived.WalkSmall
import Derived.BigQuiet
import Derived.Deep.RegionWith
import Derived.Test.YtbdnccnfidjiaaaGreatDoorGyAb
import Derived.Deep.Heap
import Derived.Deep.QuietTactic
namespace Go.Proofs.YtbdnccnfidjiaaaGreatDoor
open Go.RowKit
set_option linter.unusedVariables false
set_option linter.unusedSimpArgs false
set_option maxHeartbeats 8000000
--BEGIN
def sgT(gs:List (List UInt8))(t:Tok):Bool:=gs.any fun g=>g == t.2.1.data.toList
def nxT(P:Tok→Bool):List Tok→Option (Tok×List Tok)
 | []=>none
 | t::ts=>if P t=true then some (t,ts) else none
theorem zal{P:Tok→Bool}{ts r:List Tok}{t:Tok}(h:nxT P ts=some (t,r)):ts=t::r∧P t=true:=by
 cases ts with
 | nil=>simp[nxT] at h
 | cons a l =>
  rw[nxT] at h
  split at h
  ·rename_i h1
   cases h
   exact⟨rfl,h1⟩
  ·exact absurd h (by simp)
def betT(a:Ex)(t:Tok)(b:Ex):Ex:=.node t.2.1 ⟨#[]⟩ 0 0 ⟨#[]⟩ (t.2.2:Int) [a,b]
def uLoop(sub:List Tok→Option Ex×List Tok)(gs:List (List UInt8)):Nat→Ex→List Tok→Option Ex×List Tok
 | 0,e,ts=>(some e,ts)
 | k+1,e,ts=>match nxT (sgT gs) ts with
  | none=>(some e,ts)
  | some (t,r)=>match sub r with
   | (none,r2)=>(none,r2)
   | (some b,r2)=>uLoop sub gs k (betT e t b) r2
def uSev(sub:List Tok→Option Ex×List Tok)(gs:List (List UInt8))(ts:List Tok):Option Ex×List Tok:=match sub ts with
 | (none,r)=>(none,r)
 | (some e,r)=>uLoop sub gs (r.length+1) e r
def zbZ(op:List UInt8)(gs:List (List UInt8))(sub other:List Tok→Option Ex×List Tok)(ts:List Tok):Option Ex×List Tok:=match nxT (sgT gs) ts with
 | none=>other ts
 | some (t,r)=>match sub r with
  | (none,r2)=>(none,r2)
  | (some e,r2)=>(some (op1 op (t.2.2:Int) [e]),r2)
def cmpL:List (List UInt8):=[[61],[60,62],[60],[60,61],[62],[62,61]]
def uCmp(sub:List Tok→Option Ex×List Tok)(ts:List Tok):Option Ex×List Tok:=match sub ts with
 | (none,r)=>(none,r)
 | (some a,r)=>match nxT (sgT cmpL) r with
  | none=>(some a,r)
  | some (t,r2)=>match sub r2 with
   | (none,r3)=>(none,r3)
   | (some b,r3)=>(some (betT a t b),r3)
def uBr(sub:List Tok→Option Ex×List Tok):Nat→List Ex→List Tok→Option (List Ex)×List Tok
 | 0,acc,ts=>match nxT (sgT [[41]]) ts with
  | none=>(none,ts)
  | some (_,r)=>(some acc,r)
 | k+1,acc,ts=>match nxT (sgT [if acc.length=0 then [40] else [44]]) ts with
  | none=>(none,ts)
  | some (_,r)=>match sub r with
   | (none,r2)=>(none,r2)
   | (some e,r2)=>uBr sub k (acc++[e]) r2
def vlT(t:Tok):Bool:=decide ((readV t.2.1).2.2.2=0)
def valE(t:Tok):Ex:=.node ⟨#[118,97,108]⟩ ⟨#[]⟩ (readV t.2.1).1 (readV t.2.1).2.1 ⟨(readV t.2.1).2.2.1.toArray⟩ (t.2.2:Int) []
def colE1(t:Tok):Ex:=.node ⟨#[99,111,108]⟩ t.2.1 0 0 ⟨#[]⟩ (t.2.2:Int) []
def nmT(t:Tok):Bool:=nameT t.2.1.data.toList
def uOne(sub:List Tok→Option Ex×List Tok)(ts:List Tok):Option Ex×List Tok:=match nxT (sgT [[108,101,110],[105,102]]) ts with
 | some (t,r)=>match uBr sub (if t.2.1.data.toList=[108,101,110] then 1 else 3) [] r with
  | (none,r2)=>(none,r2)
  | (some l,r2)=>(some (.node t.2.1 ⟨#[]⟩ 0 0 ⟨#[]⟩ (t.2.2:Int) l),r2)
 | none=>match nxT vlT ts with
  | some (t,r)=>(some (valE t),r)
  | none=>match nxT nmT ts with
   | some (t,r)=>(some (colE1 t),r)
   | none=>match uBr sub 1 [] ts with
    | (none,r)=>(none,r)
    | (some l,r)=>(l.head?,r)
def uE:Nat→Nat→List Tok→Option Ex×List Tok
 | 0,_,ts=>(none,ts)
 | f+1,lv,ts=>match lv with
  | 0=>uSev (uE f 1) [[111,114]] ts
  | 1=>uSev (uE f 2) [[97,110,100]] ts
  | 2=>zbZ [110,111,116] [[110,111,116]] (uE f 2) (uE f 3) ts
  | 3=>uCmp (uE f 4) ts
  | 4=>uSev (uE f 5) [[43],[45]] ts
  | 5=>uSev (uE f 6) [[42],[47],[37]] ts
  | 6=>zbZ [110,101,103] [[45]] (uE f 6) (uE f 7) ts
  | _=>uOne (uE f 0) ts
def Suf(sub:List Tok→Option Ex×List Tok):Prop:=∀ts,(sub ts).2 <:+ ts
theorem zhS{sub:List Tok→Option Ex×List Tok}(hs:Suf sub)(gs:List (List UInt8)):∀(k:Nat) (e:Ex) (ts:List Tok),(uLoop sub gs k e ts).2 <:+ ts
 | 0,e,ts=>List.suffix_rfl
 | k+1,e,ts=>by
  rw[uLoop]
  cases h:nxT (sgT gs) ts with
  | none=>exact List.suffix_rfl
  | some q =>
   obtain⟨t,r⟩:=q
   have h1:=(zal h).1
   subst h1
   have h2:=(hs r).trans (List.suffix_cons t r)
   simp only
   cases h3:sub r with
   | mk o r2 =>
    rw[h3] at h2
    cases o with
    | none=>exact h2
    | some b=>exact (zhS hs gs k (betT e t b) r2).trans h2
theorem zeP{sub:List Tok→Option Ex×List Tok}(hs:Suf sub)(gs:List (List UInt8)):Suf (uSev sub gs):=by
 intro ts
 have h2:=hs ts
 rw[uSev]
 cases h3:sub ts with
 | mk o r =>
  rw[h3] at h2
  cases o with
  | none=>exact h2
  | some e=>exact (zhS hs gs (r.length+1) e r).trans h2
theorem zfR{sub other:List Tok→Option Ex×List Tok}(hs:Suf sub)(ho:Suf other)(op:List UInt8)(gs:List (List UInt8)):Suf (zbZ op gs sub other):=by
 intro ts
 rw[zbZ]
 cases h:nxT (sgT gs) ts with
 | none=>exact ho ts
 | some q =>
  obtain⟨t,r⟩:=q
  have h1:=(zal h).1
  subst h1
  have h2:=(hs r).trans (List.suffix_cons t r)
  simp only
  cases h3:sub r with
  | mk o r2 =>
   rw[h3] at h2
   cases o<;>exact h2
theorem zpD{sub:List Tok→Option Ex×List Tok}(hs:Suf sub):Suf (uCmp sub):=by
 intro ts
 have h2:=hs ts
 rw[uCmp]
 cases h3:sub ts with
 | mk o r =>
  rw[h3] at h2
  cases o with
  | none=>exact h2
  | some e =>
   simp only at h2 ⊢
   cases h:nxT (sgT cmpL) r with
   | none=>exact h2
   | some q =>
    obtain⟨t,r2⟩:=q
    have h1:=(zal h).1
    subst h1
    have h4:=((hs r2).trans (List.suffix_cons t r2)).trans h2
    simp only
    cases h5:sub r2 with
    | mk o r3 =>
     rw[h5] at h4
     cases o<;>exact h4
theorem zlg{sub:List Tok→Option Ex×List Tok}(hs:Suf sub):∀(k:Nat) (acc:List Ex) (ts:List Tok),(uBr sub k acc ts).2 <:+ ts
 | 0,acc,ts=>by
  rw[uBr]
  cases h:nxT (sgT [[41]]) ts with
  | none=>exact List.suffix_rfl
  | some q =>
   obtain⟨t,r⟩:=q
   have h1:=(zal h).1
   subst h1
   exact List.suffix_cons t r
 | k+1,acc,ts=>by
  rw[uBr]
  cases h:nxT (sgT [if acc.length=0 then [40] else [44]]) ts with
  | none=>exact List.suffix_rfl
  | some q =>
   obtain⟨t,r⟩:=q
   have h1:=(zal h).1
   subst h1
   have h2:=(hs r).trans (List.suffix_cons t r)
   simp only
   cases h3:sub r with
   | mk o r2 =>
    rw[h3] at h2
    cases o with
    | none=>exact h2
    | some e=>exact (zlg hs k (acc++[e]) r2).trans h2
theorem zpG{sub:List Tok→Option Ex×List Tok}(hs:Suf sub):Suf (uOne sub):=by
 intro ts
 rw[uOne]
 cases h:nxT (sgT [[108,101,110],[105,102]]) ts with
 | some q =>
  obtain⟨t,r⟩:=q
  have h1:=(zal h).1
  subst h1
  have h2:=(zlg hs (if t.2.1.data.toList=[108,101,110] then 1 else 3) [] r).trans (List.suffix_cons t r)
  simp only
  cases h3:uBr sub (if t.2.1.data.toList=[108,101,110] then 1 else 3) [] r with
  | mk o r2 =>
   rw[h3] at h2
   cases o<;>exact h2
 | none =>
  simp only
  cases h:nxT vlT ts with
  | some q =>
   obtain⟨t,r⟩:=q
   have h1:=(zal h).1
   subst h1
   exact List.suffix_cons t r
  | none =>
   simp only
   cases h:nxT nmT ts with
   | some q =>
    obtain⟨t,r⟩:=q
    have h1:=(zal h).1
    subst h1
    exact List.suffix_cons t r
   | none =>
    have h2:=zlg hs 1 [] ts
    simp only
    cases h3:uBr sub 1 [] ts with
    | mk o r2 =>
     rw[h3] at h2
     cases o<;>exact h2
theorem zfS:∀(f lv:Nat),Suf (uE f lv)
 | 0,lv=>fun ts=>by rw[uE];exact List.suffix_rfl
 | f+1,lv=>fun ts=>by
  have ih:=fun lv=>zfS f lv
  unfold uE
  split
  ·exact zeP (ih 1) _ ts
  ·exact zeP (ih 2) _ ts
  ·exact zfR (ih 2) (ih 3) _ _ ts
  ·exact zpD (ih 4) ts
  ·exact zeP (ih 5) _ ts
  ·exact zeP (ih 6) _ ts
  ·exact zfR (ih 6) (ih 7) _ _ ts
  ·exact zpG (ih 0) ts
--END
def zaI(ts:List Tok):List Value:=ts.flatMap fun t=>[.int .i64 t.1,.string t.2.1,.int .i64 (t.2.2:Int)]
def zeV(w:World)(b off:Nat)(ts:List Tok):Prop :=
 b<w.heap.size∧∀j (h:j<ts.length),w.cell? ⟨b,off+j*3,none⟩=some (.int .i64 ts[j].1)∧w.cell? ⟨b,off+j*3+1,none⟩=some (.string ts[j].2.1)∧w.cell? ⟨b,off+j*3+2,none⟩=some (.int .i64 (ts[j].2.2:Int))
theorem zeV.on{w w':World}{b off:Nat}{ts:List Tok}(h:zeV w b off ts)(hb:Below w.heap.size w w'):zeV w' b off ts :=
 ⟨by have:=hb.size;have:=h.1;omega,fun j hj=>by
  rw[hb.cell (p:=⟨b,off+j*3,none⟩) h.1,hb.cell (p:=⟨b,off+j*3+1,none⟩) h.1,hb.cell (p:=⟨b,off+j*3+2,none⟩) h.1];exact h.2 j hj⟩
def ziL(w:World)(v:Value)(ts:List Tok):Prop :=
 ∃p c,v=.slice p ts.length c∧ts.length≤maxLen∧(ts.length=0∨∃b off,p=some ⟨b,off,none⟩∧zeV w b off ts)
theorem zdS:∀(ts:List Tok) (j:Nat) (h:j<ts.length),(zaI ts)[j*3]?=some (.int .i64 ts[j].1)∧(zaI ts)[j*3+1]?=some (.string ts[j].2.1)∧(zaI ts)[j*3+2]?=some (.int .i64 (ts[j].2.2:Int))
 | [],j,h=>absurd h (by simp)
 | t::ts,0,_=>by simp[zaI]
 | t::ts,j+1,h=>by
  have ih:=zdS ts j (by simpa using h)
  have e:zaI (t::ts)=.int .i64 t.1::.string t.2.1::.int .i64 (t.2.2:Int)::zaI ts:=rfl
  rw[e,show (j+1)*3=j*3+1+1+1 by omega]
  simp only[List.getElem?_cons_succ]
  simpa using ih
theorem zpf{W:World}{base:Nat}{v:Value}{ts:List Tok}(h:W.ownsRow base 78 3 v ts.length (zaI ts)):ziL W v ts:=by
 rcases h.2 with ⟨e,h0⟩|⟨g,cap,cur,e,_,hgg,hcap,hmx,_,_⟩
 ·exact⟨none,0,by rw[e,h0],by omega,.inl h0⟩
 ·refine⟨_,cap,e,by omega,.inr ⟨g,0,rfl,(Array.getElem?_eq_some_iff.1 hgg).1,fun j hj=>?_⟩⟩
  obtain⟨e0,e1,e2⟩:=zdS ts j hj
  have h0:=h.cells (g:=g) (by rw[e];rfl) _ _ e0
  have h1:=h.cells (g:=g) (by rw[e];rfl) _ _ e1
  have h2:=h.cells (g:=g) (by rw[e];rfl) _ _ e2
  rw[Go.WideShapes.add_plain] at h0 h1 h2
  exact⟨h0,h1,h2⟩
theorem zfv(w:World):ziL w (.slice none 0 0) []:=⟨none,0,rfl,Nat.zero_le _,.inl rfl⟩
theorem zkf{W:World}{b:Nat}{e:TypeId}{size:Nat}{v:Value}{n:Nat}{xs:List Value}(h:W.ownsRow (b+1) e size v n xs)(o:Nat)(x:Value):(W.setCell ⟨b,o,none⟩ x).ownsRow (b+1) e size v n xs:=by
 refine⟨h.1,?_⟩
 rcases h.2 with hn|⟨g,cap,cur,rfl,h1,hgg,rest⟩
 ·exact .inl hn
 ·refine .inr ⟨g,cap,cur,rfl,h1,?_,rest⟩
  rw[Below.heap_setCell _ _ _ _ (fun e=>by simp at e;omega)]
  exact hgg
theorem zoJ:(Tryz.prog.info? 78).map (fun i=>(i.zero,i.size,i.bytes))=some (some (.agg #[.int .i64 0,.string ⟨#[]⟩,.int .i64 0]),3,32):=by kernel_rfl
theorem zrO{B:Nat}{l:List Tok}{k:Int}{x:ByteArray}{a:Nat}{w wr w1:World}{v v':Value}{o:Obj}(hown:wr.ownsRow B 78 3 v l.length (zaI l))(hnx:Below B w wr)(hB:B≤wr.heap.size)
  (hown':w1.ownsRow B 78 3 v' (l.length+1) (zaI l++[.int .i64 k,.string x,.int .i64 (a:Int)]))(hgrow:(wr.alloc o).grownBy w1 v.ownBlock) :
  w1.ownsRow B 78 3 v' (l++[(k,x,a)]).length (zaI (l++[(k,x,a)]))∧Below B w w1 :=
 ⟨by rw[List.length_append];simpa [zaI] using hown',(hnx.alloc hB o).grown hgrow (by simp;omega) (fun j hj=>(hown.lt j hj).1)⟩
section
open Go.BigFrame
def zcc(w:World)(b:Nat)(gs:List (List UInt8)):Prop:=b<w.heap.size∧∀j (h:j<gs.length),w.cell? ⟨b,j,none⟩=some (.string ⟨gs[j].toArray⟩)
theorem zcc.on{w w':World}{b:Nat}{gs:List (List UInt8)}(h:zcc w b gs)(hb:Below w.heap.size w w'):zcc w' b gs :=
 ⟨by have:=hb.size;have:=h.1;omega,fun j hj=>by rw[hb.cell (p:=⟨b,j,none⟩) h.1];exact h.2 j hj⟩
theorem zpU{gs:List (List UInt8)}{l:List UInt8}{k:Nat}(h:k<gs.length)(e:gs[k]=l):(gs.any fun g=>g == l)=true:=by
 rw[List.any_eq_true]
 exact⟨gs[k],List.getElem_mem h,by simpa using e⟩
theorem znN{gs:List (List UInt8)}{l:List UInt8}(h:∀j (hj:j<gs.length),gs[j]≠l):(gs.any fun g=>g == l)=false:=by
 rw[List.any_eq_false]
 intro g hg
 obtain⟨j,hj,rfl⟩:=List.getElem_of_mem hg
 simpa using h j hj
theorem zlW(x:ByteArray)(b c:Nat)(gs:List (List UInt8))(w:World)(hn:gs.length≤100)(hc:zcc w b gs) :
  Calls Tryz.prog 115 #[.slice (some ⟨b,0,none⟩) gs.length c,.string x] w fun e w'=>∃n:Int,e=.returned (.int .i64 n)∧Hid (decide (0≤n)=gs.any fun g=>g == x.data.toList)∧w'=w:=by
 go_enter Tryz.func115,Tryz.ntmps115
 go_wp2
 go_loopg [5,8] gs.length (fun gg _ s8 wr=>∃kk:Nat,kk≤gs.length∧gs.length-kk≤gg∧s8=.int .i64 kk∧wr=w∧Aside (∀j (hj:j<gs.length),j<kk→gs[j]≠x.data.toList))
 case atStart=>exact⟨0,Nat.zero_le _,by omega,rfl,rfl,(show Aside _ from fun j _ hj=>absurd hj (Nat.not_lt_zero _))⟩
 case round =>
  obtain⟨kk,hkk,hg,rfl,rfl,A⟩:=hrel
  by_cases hlt:kk<gs.length
  ·have hltz:(kk:Int)<(gs.length:Int):=by omega
   have hcell:=hc.2 kk hlt
   have hbl:=hc.1
   generalize hy:gs[kk]=y at hcell
   have HY:Hid (gs[kk]=y):=hy
   clear hy
   by_cases he:x.data.toList=y
   ·obtain rfl:x=⟨y.toArray⟩:=zbI he
    go_wp2
    go_ret
    refine⟨kk,rfl,?_,rfl⟩
    show _=_
    rw[zpU hlt HY.out]
    simp
   ·have hq:(x.toList == y)=false:=by rw[Lib.toList_data];simpa using he
    go_wp2
    go_roundg (gs.length-(kk+1))
    case measure=>omega
    case rel =>
     refine⟨kk+1,by omega,by omega,by go_num,rfl,(show Aside _ from fun j hj hjk=>?_)⟩
     by_cases e:j=kk
     ·subst e
      rw[HY.out];exact fun e=>he e.symm
     ·exact A.out j hj (by omega)
  ·have hltz:¬(kk:Int)<(gs.length:Int):=by omega
   go_wp2
   go_ret
   refine⟨-1,rfl,?_,rfl⟩
   show _=_
   rw[znN (fun j hj=>A.out j hj (by omega))]
   rfl
theorem zgm(x:ByteArray)(b c:Nat)(gs:List (List UInt8))(w:World)(hn:gs.length≤100)(hc:zcc w b gs) :
  Calls Tryz.prog 84 #[.slice (some ⟨b,0,none⟩) gs.length c,.string x] w fun e w'=>e=.returned (.bool (gs.any fun g=>g == x.data.toList))∧w'=w:=by
 have cI:=zlW x b c gs w hn hc
 generalize (gs.any fun g=>g == x.data.toList)=R at cI
 go_enter Tryz.func84,Tryz.ntmps84
 go_wp2_with fail
 refine cI.mono ?_
 rintro e w' ⟨n,rfl,HR,rfl⟩
 go_wp2
 go_ret
 exact⟨zaE HR.out,rfl⟩
def zdr(w:World)(p:Nat)(gs:List (List UInt8)):Prop:=∃b c,w.cell? ⟨p,0,none⟩=some (.slice (some ⟨b,0,none⟩) gs.length c)∧p<w.heap.size∧zcc w b gs∧gs.length≤100
theorem zdr.on{w w':World}{p:Nat}{gs:List (List UInt8)}(h:zdr w p gs)(hb:Below w.heap.size w w'):zdr w' p gs:=by
 obtain⟨b,c,h1,h2,h3,h4⟩:=h
 exact⟨b,c,by rw[hb.cell (p:=⟨p,0,none⟩) h2];exact h1,by have:=hb.size;omega,h3.on hb,h4⟩
abbrev signV(p:Nat):Value:=.func (.func 83) #[] #[.pointer (some ⟨p,0,none⟩)]
def tokV(t:Tok):Value:=.agg #[.int .i64 t.1,.string t.2.1,.int .i64 (t.2.2:Int)]
theorem zfE(t:Tok)(p:Nat)(gs:List (List UInt8))(w:World)(hs:zdr w p gs) :
  Calls Tryz.prog 83 #[tokV t,.pointer (some ⟨p,0,none⟩)] w fun e w'=>e=.returned (.bool (sgT gs t))∧Below w.heap.size w w':=by
 obtain⟨b,c,h1,h2,h3,h4⟩:=hs
 obtain⟨tk,tx,ta⟩:=t
 have cC:=fun W (hb:Below w.heap.size w W)=>zgm tx b c gs W h4 (h3.on hb)
 rw[sgT,tokV]
 simp only
 generalize (gs.any fun g=>g == tx.data.toList)=R at cC
 clear h3
 go_enter Tryz.func83,Tryz.ntmps83
 go_wp2_with (go_at_call 84;refine (cC _ ((Below.refl _ _).alloc (Nat.le_refl _) _)).mono ?_;rintro e w' ⟨rfl,rfl⟩)
 go_ret
 exact⟨rfl,(Below.refl _ _).alloc (Nat.le_refl _) _⟩
end
section
open Go.BigFrame
variable {en : Nat}

structure RdAt(en:Nat)(w:World)(r:Nat)(ts:List Tok):Prop where
 cell:∃p c,w.cell? ⟨r,0,none⟩=some (.slice p ts.length c)∧ts.length≤c∧(ts.length=0∨∃b off,p=some ⟨b,off,none⟩∧b<r∧zeV w b off ts)
 fz:w.frozen? ⟨r,0,none⟩=false
 lt:r<w.heap.size
 fin:w.cell? ⟨r,1,none⟩=some (.int .i64 (en:Int))
theorem RdAt.on{w w':World}{r:Nat}{ts:List Tok}(h:RdAt en w r ts)(hb:Below w.heap.size w w'):RdAt en w' r ts:=by
 obtain⟨⟨p,c,h1,h2,h3⟩,hf,hl,he⟩:=h
 refine⟨⟨p,c,by rw[hb.cell (p:=⟨r,0,none⟩) hl];exact h1,h2,?_⟩,by rw[hb.frozen (p:=⟨r,0,none⟩) hl];exact hf,by have:=hb.size;omega,by rw[hb.cell (p:=⟨r,1,none⟩) hl];exact he⟩
 rcases h3 with h0|⟨b,off,e1,e2,h4⟩
 ·exact .inl h0
 ·exact .inr ⟨b,off,e1,e2,h4.on hb⟩
theorem RdAt.onB{w w':World}{r:Nat}{ts:List Tok}(h:RdAt en w r ts)(hb:Below (r+1) w w')(hs:w.heap.size≤w'.heap.size):RdAt en w' r ts:=by
 obtain⟨⟨p,c,h1,h2,h3⟩,hf,hl,he⟩:=h
 refine⟨⟨p,c,by rw[hb.cell (p:=⟨r,0,none⟩) (Nat.lt_succ_self r)];exact h1,h2,?_⟩,by rw[hb.frozen (p:=⟨r,0,none⟩) (Nat.lt_succ_self r)];exact hf,by omega,by rw[hb.cell (p:=⟨r,1,none⟩) (Nat.lt_succ_self r)];exact he⟩
 rcases h3 with h0|⟨b,off,e1,e2,h4⟩
 ·exact .inl h0
 ·refine .inr ⟨b,off,e1,e2,by have:=h4.1;omega,fun j hj=>?_⟩
  rw[hb.cell (p:=⟨b,off+j*3,none⟩) (by simp;omega),hb.cell (p:=⟨b,off+j*3+1,none⟩) (by simp;omega),hb.cell (p:=⟨b,off+j*3+2,none⟩) (by simp;omega)]
  exact h4.2 j hj
theorem RdAt.step{w W:World}{r:Nat}{t:Tok}{ts:List Tok}{p p':Option Addr}{c c':Nat}(h:RdAt en w r (t::ts))(hp:w.cell? ⟨r,0,none⟩=some (.slice p (t::ts).length c))(hp':p'=if c=1 then p else p.map (·.add (1*3)))(hc':c'=c-1)
  (hb:But r w W)(hW:W.cell? ⟨r,0,none⟩=some (.slice p' ts.length c'))(hf:W.frozen? ⟨r,0,none⟩=false)(hW1:W.cell? ⟨r,1,none⟩=w.cell? ⟨r,1,none⟩):RdAt en W r ts:=by
 obtain⟨⟨q,d,h1,h2,h3⟩,_,hl,he⟩:=h
 rw[h1] at hp
 obtain⟨rfl,hd⟩:q=p∧d=c:=by
  injection hp with hp
  injection hp with e1 e2 e3
  exact⟨e1,e3⟩
 subst hd
 simp only[List.length_cons] at h2
 refine⟨⟨p',c',hW,by omega,?_⟩,hf,by have:=hb.size;omega,by rw[hW1];exact he⟩
 rcases Nat.eq_zero_or_pos ts.length with h0|h0
 ·exact .inl h0
 ·right
  rcases h3 with h3|⟨b,off,rfl,hbr,h4⟩
  ·simp at h3
  ·refine⟨b,off+3,?_,hbr,by have:=h4.1;have:=hb.size;omega,fun j hj=>?_⟩
   ·rw[hp',if_neg (by omega)];rfl
   ·have:=h4.2 (j+1) (by simpa using hj)
    simp only[show off+(j+1)*3=off+3+j*3 from by omega,List.getElem_cons_succ] at this
    rw[hb.cell _ h4.1 (by omega),hb.cell _ h4.1 (by omega),hb.cell _ h4.1 (by omega)]
    exact this
def noTok:Value:=.agg #[.int .i64 0,.string ⟨#[]⟩,.int .i64 0]
theorem zfj(w:World)(r:Nat)(h:RdAt en w r []) :
  Calls Tryz.prog 9 #[.pointer (some ⟨r,0,none⟩)] w fun e w'=>e=.returned (.bool true)∧w'=w:=by
 obtain⟨⟨p,c,h1,h2,h3⟩,hf,hl,he⟩:=h
 simp only[List.length_nil] at h1
 go_enter Tryz.func9,Tryz.ntmps9
 go_wp2
 go_ret
 exact⟨rfl,rfl⟩
theorem zjv(w:World)(r:Nat)(t:Tok)(ts:List Tok)(h:RdAt en w r (t::ts)) :
  Calls Tryz.prog 9 #[.pointer (some ⟨r,0,none⟩)] w fun e w'=>e=.returned (.bool false)∧w'=w:=by
 obtain⟨⟨p,c,h1,h2,h3⟩,hf,hl,he⟩:=h
 have hnb:(((t::ts).length:Int) == 0)=false:=by simp;omega
 generalize (t::ts).length=L at h1 hnb
 clear h2 h3
 go_enter Tryz.func9,Tryz.ntmps9
 go_wp2
 go_ret
 exact⟨rfl,rfl⟩
theorem zhC(w:World)(r:Nat)(so:Value)(h:RdAt en w r []) :
  Calls Tryz.prog 47 #[.pointer (some ⟨r,0,none⟩),so] w fun e w'=>e=.returned (.bool false)∧w'=w:=by
 have cE:=zfj w r h
 clear h
 go_enter Tryz.func47,Tryz.ntmps47
 go_wp2_with fail
 refine cE.mono ?_
 rintro e w1 ⟨rfl,rfl⟩
 go_wp2
 go_ret
 exact⟨rfl,rfl⟩
set_option maxRecDepth 20000 in
theorem zkj(f:FuncId)(caps:Array Value)(hent:∀(args:Array Value) (W:World),Sem.run Tryz.prog (callFunc f args) W=.ok (.enter f args) W)(w:World)(r:Nat)(t:Tok)(ts:List Tok)(B:Bool)(h:RdAt en w r (t::ts))
  (hf:Calls Tryz.prog f (#[tokV t]++caps) w fun e w'=>e=.returned (.bool B)∧Below w.heap.size w w') :
  Calls Tryz.prog 47 #[.pointer (some ⟨r,0,none⟩),.func (.func f) #[] caps] w fun e w'=>e=.returned (.bool B)∧Below w.heap.size w w':=by
 have cE:=zjv w r t ts h
 obtain⟨⟨p,c,h1,h2,h3⟩,hfz,hl,he⟩:=h
 rcases h3 with h3|⟨b,off,rfl,hbr,h4⟩
 ·simp at h3
 obtain⟨d0,d1,d2⟩:=h4.2 0 (by simp)
 have hbl:=h4.1
 have hlen:((t::ts).length:Int)=(ts.length:Int)+1:=by simp
 have hlz:(0:Int)<((t::ts).length:Int):=by omega
 obtain⟨tk,tx,ta⟩:=t
 rw[tokV] at hf
 simp only[List.getElem_cons_zero,Nat.zero_mul,Nat.add_zero] at d0 d1 d2 hf
 generalize ((tk,tx,ta)::ts).length=L at h1 h2 hlz cE
 clear h4 hlen he
 go_enter Tryz.func47,Tryz.ntmps47
 go_wp2_with fail
 refine cE.mono ?_
 rintro e w1 ⟨rfl,rfl⟩
 go_wp2_with fail
 refine hf.mono ?_
 rintro e w2 ⟨rfl,b2⟩
 go_wp2
 go_ret
 exact⟨rfl,b2⟩
set_option maxRecDepth 20000 in
theorem zmA(w:World)(r:Nat)(so:Value)(h:RdAt en w r []) :
  Calls Tryz.prog 45 #[.pointer (some ⟨r,0,none⟩),so] w fun e w'=>e=.returned (.tuple #[noTok,.bool false])∧RdAt en w' r []∧But r w w':=by
 have hb:=(Below.refl w.heap.size w).alloc (Nat.le_refl _) (.cells #[.int .i64 0,.string ⟨#[]⟩,.int .i64 0] 78)
 have cN:=zhC _ r so (h.on hb)
 have hl:=h.lt
 have HH:Aside (RdAt en w r []):=h
 clear h
 go_enter Tryz.func45,Tryz.ntmps45
 go_wp2_with fail
 refine cN.mono ?_
 rintro e w1 ⟨rfl,rfl⟩
 go_wp2
 refine bodyPost_ret (v:=.tuple #[noTok,.bool false]) (by simp[results,Tryz.results45,go_sem,noTok]) rfl ?_
 exact⟨rfl,HH.out.on hb,But.of_below' hb (by omega)⟩
set_option maxRecDepth 20000 in
theorem zkT(f:FuncId)(caps:Array Value)(hent:∀(args:Array Value) (W:World),Sem.run Tryz.prog (callFunc f args) W=.ok (.enter f args) W)(w:World)(r:Nat)(t:Tok)(ts:List Tok)(B:Bool)(h:RdAt en w r (t::ts))
  (hf:∀W,Below w.heap.size w W→Calls Tryz.prog f (#[tokV t]++caps) W fun e w'=>e=.returned (.bool B)∧Below W.heap.size W w') :
  Calls Tryz.prog 45 #[.pointer (some ⟨r,0,none⟩),.func (.func f) #[] caps] w fun e w'=>e=.returned (.tuple #[if B=true then tokV t else noTok,.bool B])∧RdAt en w' r (if B=true then ts else t::ts)∧But r w w':=by
 have h0:=h
 have hb:=(Below.refl w.heap.size w).alloc (Nat.le_refl _) (.cells #[.int .i64 0,.string ⟨#[]⟩,.int .i64 0] 78)
 have cN:=zkj f caps hent _ r t ts B (h.on hb) (hf _ hb)
 obtain⟨⟨p,c,h1,h2,h3⟩,hfz,hl,hen⟩:=h0
 rcases h3 with h3|⟨b,off,rfl,hbr,h4⟩
 ·simp at h3
 obtain⟨d0,d1,d2⟩:=h4.2 0 (by simp)
 have hbl:=h4.1
 have hbr:b≠r:=by omega
 have hlen:((t::ts).length:Int)=(ts.length:Int)+1:=by simp
 have hnn:¬(((t::ts).length:Int)=0):=by omega
 have hnb:(((t::ts).length:Int) == 0)=false:=by simpa using hnn
 obtain⟨tk,tx,ta⟩:=t
 simp only[List.getElem_cons_zero,Nat.zero_mul,Nat.add_zero] at d0 d1 d2
 clear hf hen
 go_enter Tryz.func45,Tryz.ntmps45
 go_wp2_with fail
 refine cN.mono ?_
 rintro e w1 ⟨rfl,b1⟩
 have q0:=fun o=>b1.cell (p:=⟨w.heap.size,o,none⟩) (by simp)
 have qf:=fun o=>b1.frozen (p:=⟨w.heap.size,o,none⟩) (by simp)
 have ql:w.heap.size<w1.heap.size:=by have:=b1.size;simp at this;omega
 have g0:=q0 0
 have g1:=q0 1
 have g2:=q0 2
 have gf0:=qf 0
 have gf1:=qf 1
 have gf2:=qf 2
 rw[World.cell?_alloc_at _ _ _ _ rfl] at g0 g1 g2
 simp at g0 g1 g2 gf0 gf1 gf2
 have b2:Below w.heap.size w w1:=hb.trans (b1.mono (by simp))
 have h5:=h.on b2
 rw[←b2.cell (p:=⟨r,0,none⟩) hl] at h1
 rw[←b2.frozen (p:=⟨r,0,none⟩) hl] at hfz
 rw[←b2.cell (p:=⟨b,off,none⟩) hbl] at d0
 rw[←b2.cell (p:=⟨b,off+1,none⟩) hbl] at d1
 rw[←b2.cell (p:=⟨b,off+2,none⟩) hbl] at d2
 have hl1:r<w1.heap.size:=by omega
 have hbl1:b<w1.heap.size:=by omega
 have HE1:Hid (w1.cell? ⟨r,1,none⟩=w.cell? ⟨r,1,none⟩):=b2.cell (p:=⟨r,1,none⟩) hl
 clear q0 qf h4 hb b1 cN
 have HH:Aside (RdAt en w r ((tk,tx,ta)::ts)):=h
 have HC:Aside (w.cell? ⟨r,0,none⟩=some (.slice (some ⟨b,off,none⟩) ((tk,tx,ta)::ts).length c)):=by
  show _=_
  rw[←b2.cell (p:=⟨r,0,none⟩) hl];exact h1
 clear h h5
 have hne:r≠w.heap.size:=by omega
 have BB:=But.of_below' b2 (r:=r) (by omega)
 cases B
 ·go_wp2
  refine bodyPost_ret (v:=.tuple #[noTok,.bool false]) (by simp[results,Tryz.results45,go_sem,noTok,g0,g1,g2]) rfl ?_
  exact⟨rfl,HH.out.on (((b2.setCell (p:=⟨w.heap.size,0,none⟩) (Nat.le_refl _) _).setCell (p:=⟨w.heap.size,1,none⟩) (Nat.le_refl _) _).setCell (p:=⟨w.heap.size,2,none⟩) (Nat.le_refl _) _),((BB.setNew _ 0 (Nat.le_refl _) (by omega) _).setNew _ 1 (Nat.le_refl _) (by omega) _).setNew _ 2 (Nat.le_refl _) (by omega) _⟩
 ·go_wp2
  all_goals
   refine bodyPost_ret (v:=.tuple #[tokV (tk,tx,ta),.bool true]) (by simp[results,Tryz.results45,go_sem,tokV,g0,g1,g2,ql]) rfl ?_
   have B1:=fun u=>((((BB.set 0 u).setNew w.heap.size 0 (Nat.le_refl _) (by omega) (.int .i64 tk)).setNew w.heap.size 1 (Nat.le_refl _) (by omega) (.string tx)).setNew w.heap.size 2 (Nat.le_refl _) (by omega) (.int .i64 (ta:Int))).alloc (by simp[World.setCell];omega) (.cells #[.int .i64 tk,.string tx,.int .i64 (ta:Int)] 78)
  ·refine⟨rfl,HH.out.step HC.out (p':=some ⟨b,off,none⟩) (c':=0) (by rw[if_pos ‹c=1›]) (by omega) (B1 _) ?_ ?_ ?_,B1 _⟩
   ·rw[World.cell?_alloc_past _ _ _ (by simp[World.setCell];omega),World.cell?_setCell_other _ _ _ _ (by simp),World.cell?_setCell_other _ _ _ _ (by simp),World.cell?_setCell_other _ _ _ _ (by simp),World.cell?_setCell_same w1 ⟨r,0,none⟩ _ h1]
   ·rw[World.frozen?_alloc_past _ _ _ (by simp[World.setCell];omega)]
    simpa using hfz
   ·rw[World.cell?_alloc_past _ _ _ (by simp[World.setCell];omega),World.cell?_setCell_other _ _ _ _ (by simp),World.cell?_setCell_other _ _ _ _ (by simp),World.cell?_setCell_other _ _ _ _ (by simp),World.cell?_setCell_other _ _ _ _ (by simp)]
    exact HE1.out
  ·refine⟨rfl,HH.out.step HC.out (p':=some ⟨b,off+3,none⟩) (c':=c-1) (by rw[if_neg ‹¬c=1›];rfl) (by omega) (B1 _) ?_ ?_ ?_,B1 _⟩
   ·rw[World.cell?_alloc_past _ _ _ (by simp[World.setCell];omega),World.cell?_setCell_other _ _ _ _ (by simp),World.cell?_setCell_other _ _ _ _ (by simp),World.cell?_setCell_other _ _ _ _ (by simp),World.cell?_setCell_same w1 ⟨r,0,none⟩ _ h1]
   ·rw[World.frozen?_alloc_past _ _ _ (by simp[World.setCell];omega)]
    simpa using hfz
   ·rw[World.cell?_alloc_past _ _ _ (by simp[World.setCell];omega),World.cell?_setCell_other _ _ _ _ (by simp),World.cell?_setCell_other _ _ _ _ (by simp),World.cell?_setCell_other _ _ _ _ (by simp),World.cell?_setCell_other _ _ _ _ (by simp)]
    exact HE1.out
theorem zbX(P:Tok→Bool)(f:FuncId)(caps:Array Value)(hent:∀(args:Array Value) (W:World),Sem.run Tryz.prog (callFunc f args) W=.ok (.enter f args) W)(w:World)(r:Nat)(ts:List Tok)(h:RdAt en w r ts)
  (hf:∀t∈ts,∀W,Below w.heap.size w W→Calls Tryz.prog f (#[tokV t]++caps) W fun e w'=>e=.returned (.bool (P t))∧Below W.heap.size W w')(hn:nxT P ts=none) :
  Calls Tryz.prog 45 #[.pointer (some ⟨r,0,none⟩),.func (.func f) #[] caps] w fun e w'=>e=.returned (.tuple #[noTok,.bool false])∧RdAt en w' r ts∧But r w w':=by
 cases ts with
 | nil=>exact zmA w r _ h
 | cons t ts =>
  have hp:P t=false:=by
   rw[nxT] at hn
   split at hn
   ·exact absurd hn (by simp)
   ·rename_i h1;simpa using h1
  have:=zkT f caps hent w r t ts (P t) h (fun W hb=>hf t (by simp) W hb)
  rw[hp] at this
  exact this
theorem zcK(P:Tok→Bool)(f:FuncId)(caps:Array Value)(hent:∀(args:Array Value) (W:World),Sem.run Tryz.prog (callFunc f args) W=.ok (.enter f args) W)(w:World)(r:Nat)(t:Tok)(ts rs:List Tok)(h:RdAt en w r ts)
  (hf:∀t∈ts,∀W,Below w.heap.size w W→Calls Tryz.prog f (#[tokV t]++caps) W fun e w'=>e=.returned (.bool (P t))∧Below W.heap.size W w')(hn:nxT P ts=some (t,rs)) :
  Calls Tryz.prog 45 #[.pointer (some ⟨r,0,none⟩),.func (.func f) #[] caps] w fun e w'=>e=.returned (.tuple #[tokV t,.bool true])∧RdAt en w' r rs∧But r w w':=by
 obtain⟨rfl,hp⟩:=zal hn
 have:=zkT f caps hent w r t rs (P t) h (fun W hb=>hf t (by simp) W hb)
 rw[hp] at this
 exact this
theorem zjx(args:Array Value)(W:World):Sem.run Tryz.prog (callFunc 83 args) W=.ok (.enter 83 args) W:=by kernel_rfl
theorem zam(gs:List (List UInt8))(p:Nat)(w:World)(r:Nat)(ts:List Tok)(h:RdAt en w r ts)(hs:zdr w p gs)(hn:nxT (sgT gs) ts=none) :
  Calls Tryz.prog 45 #[.pointer (some ⟨r,0,none⟩),signV p] w fun e w'=>e=.returned (.tuple #[noTok,.bool false])∧RdAt en w' r ts∧But r w w' :=
 zbX (sgT gs) _ _ zjx w r ts h (fun t _ W hb=>zfE t p gs W (hs.on hb)) hn
theorem zan(gs:List (List UInt8))(p:Nat)(w:World)(r:Nat)(t:Tok)(ts rs:List Tok)(h:RdAt en w r ts)(hs:zdr w p gs)(hn:nxT (sgT gs) ts=some (t,rs)) :
  Calls Tryz.prog 45 #[.pointer (some ⟨r,0,none⟩),signV p] w fun e w'=>e=.returned (.tuple #[tokV t,.bool true])∧RdAt en w' r rs∧But r w w' :=
 zcK (sgT gs) _ _ zjx w r t ts rs h (fun t _ W hb=>zfE t p gs W (hs.on hb)) hn
end
section
open Go.BigFrame
def Fit(ts:List Tok):Prop:=∀t∈ts,t.2.1.size≤400
theorem Fit.suf{ts rs:List Tok}(h:Fit ts)(hs:rs <:+ ts):Fit rs:=fun t ht=>h t (hs.mem ht)
def opsL:List (List UInt8×Int):=[([118,97,108],0),([99,111,108],0),([111,114],2),([97,110,100],2),([110,111,116],1),([61],2),([60,62],2),([60],2),([60,61],2),([62],2),([62,61],2),([43],2),([45],2),([42],2),([47],2),([37],2),([110,101,103],1),([108,101,110],1),([105,102],3)]
def opsC:Array Value:=#[.string ⟨#[118,97,108]⟩,.int .i64 0,.string ⟨#[99,111,108]⟩,.int .i64 0,.string ⟨#[111,114]⟩,.int .i64 2,.string ⟨#[97,110,100]⟩,.int .i64 2,.string ⟨#[110,111,116]⟩,.int .i64 1,.string ⟨#[61]⟩,.int .i64 2,.string ⟨#[60,62]⟩,.int .i64 2,.string ⟨#[60]⟩,.int .i64 2,.string ⟨#[60,61]⟩,.int .i64 2,.string ⟨#[62]⟩,.int .i64 2,.string ⟨#[62,61]⟩,.int .i64 2,.string ⟨#[43]⟩,.int .i64 2,.string ⟨#[45]⟩,.int .i64 2,.string ⟨#[42]⟩,.int .i64 2,.string ⟨#[47]⟩,.int .i64 2,.string ⟨#[37]⟩,.int .i64 2,.string ⟨#[110,101,103]⟩,.int .i64 1,.string ⟨#[108,101,110]⟩,.int .i64 1,.string ⟨#[105,102]⟩,.int .i64 3]
def zlt:Array Value:=#[.string ⟨#[111,114]⟩,.string ⟨#[97,110,100]⟩,.string ⟨#[110,111,116]⟩,.string ⟨#[116,114,117,101]⟩,.string ⟨#[102,97,108,115,101]⟩,.string ⟨#[108,101,110]⟩,.string ⟨#[105,102]⟩,.string ⟨#[115,101,108,101,99,116]⟩,.string ⟨#[97,115]⟩,.string ⟨#[102,114,111,109]⟩,.string ⟨#[119,104,101,114,101]⟩,.string ⟨#[103,114,111,117,112]⟩,.string ⟨#[98,121]⟩,.string ⟨#[119,105,110,100,111,119]⟩,.string ⟨#[115,108,105,100,101]⟩,.string ⟨#[99,111,117,110,116]⟩,.string ⟨#[115,117,109]⟩,.string ⟨#[108,101,97,115,116]⟩,.string ⟨#[109,111,115,116]⟩]
structure TEnv(w:World):Prop where
 env:Env w
 big:12≤w.heap.size
 ops:∃t fr,w.heap[0]?=some (.cells opsC t fr)
 wds:∃t fr,w.heap[3]?=some (.cells zlt t fr)
theorem Env.onB{w w':World}{n:Nat}(h:Env w)(hb:Below n w w')(hn:12≤n)(hs:w.heap.size≤w'.heap.size):Env w':=by
 have hbig:=h.big
 refine⟨?_,?_,?_,?_⟩
 ·exact var?_below hb g_tab (by omega) h.tab
 ·obtain⟨tp,p,hv⟩:=h.syn;exact⟨tp,p,var?_below hb g_syn (by omega) hv⟩
 ·obtain⟨tp,p,hv⟩:=h.ran;exact⟨tp,p,var?_below hb g_ran (by omega) hv⟩
 ·omega
theorem TEnv.onB{w w':World}{n:Nat}(h:TEnv w)(hb:Below n w w')(hn:12≤n)(hs:w.heap.size≤w'.heap.size):TEnv w':=by
 refine⟨h.env.onB hb hn hs,by have:=h.big;omega,?_,?_⟩
 ·obtain⟨t,fr,h1⟩:=h.ops
  exact⟨t,fr,by rw[hb.block _ (by omega)];exact h1⟩
 ·obtain⟨t,fr,h1⟩:=h.wds
  exact⟨t,fr,by rw[hb.block _ (by omega)];exact h1⟩
theorem TEnv.on{w w':World}(h:TEnv w)(hb:Below w.heap.size w w'):TEnv w':=h.onB hb h.big hb.size
theorem TEnv.but{w w':World}{r:Nat}(h:TEnv w)(hb:But r w w')(hr:12≤r):TEnv w':=h.onB hb.below hr hb.size
theorem ExIn.but{w w':World}{r:Nat}{lo:Nat→Prop}{x:Ex}{v:Value}(h:ExIn w lo v x)(hb:But r w w')(hr:∀b,lo b→b≠r):ExIn w' lo v x :=
 ExIn.keep hb.size (fun b o h1 h2=>hb.cell o h2 (hr b h1)) x v h
theorem zcc.but{w w':World}{r b:Nat}{gs:List (List UInt8)}(h:zcc w b gs)(hb:But r w w')(hr:b≠r):zcc w' b gs :=
 ⟨by have:=hb.size;have:=h.1;omega,fun j hj=>by rw[hb.cell _ h.1 hr];exact h.2 j hj⟩
def zaW(w:World)(r p:Nat)(gs:List (List UInt8)):Prop:=∃b c,w.cell? ⟨p,0,none⟩=some (.slice (some ⟨b,0,none⟩) gs.length c)∧p<w.heap.size∧zcc w b gs∧gs.length≤100∧p≠r∧b≠r
theorem zaW.sign{w:World}{r p:Nat}{gs:List (List UInt8)}(h:zaW w r p gs):zdr w p gs:=by
 obtain⟨b,c,h1,h2,h3,h4,_,_⟩:=h
 exact⟨b,c,h1,h2,h3,h4⟩
theorem zaW.but{w w':World}{r p:Nat}{gs:List (List UInt8)}(h:zaW w r p gs)(hb:But r w w'):zaW w' r p gs:=by
 obtain⟨b,c,h1,h2,h3,h4,h5,h6⟩:=h
 exact⟨b,c,by rw[hb.cell _ h2 h5];exact h1,by have:=hb.size;omega,h3.but hb h6,h4,h5,h6⟩
theorem But.on{r:Nat}{w w1 w2:World}(h:But r w w1)(k:Below w1.heap.size w1 w2)(hr:r<w.heap.size):But r w w2 :=
 h.trans (But.of_below' k (by have:=h.size;omega))
theorem zfb{r:Nat}{w w1:World}(h:But r w w1){b:Nat}(o:Nat)(hb:b<w.heap.size)(hr:b≠r):w1.frozen? ⟨b,o,none⟩=w.frozen? ⟨b,o,none⟩:=by
 simp only[World.frozen?,h.kept b hb hr]
theorem ExIn.agg{w:World}{lo:Nat→Prop}{v:Value}{x:Ex}(h:ExIn w lo v x):∃op nm vt vn vs p n c pos,v=.agg #[.string op,.string nm,.int .i64 vt,.int .i64 vn,.string vs,.slice p n c,.int .i64 pos]:=by
 cases x with
 | node op nm vt vn vs pos args =>
  rw[ExIn] at h
  obtain⟨p,c,rfl,_⟩:=h
  exact⟨_,_,_,_,_,_,_,_,_,rfl⟩
theorem ztc{w W:World}{lo:Nat→Prop}{B:Nat}{a0 a1 a2 a3 a4 a5 a6 b0 b1 b2 b3 b4 b5 b6:Value}{x y:Ex}{op nm vs:ByteArray}{vt vn pos:Int}(h1:ExIn w lo (.agg #[a0,a1,a2,a3,a4,a5,a6]) x)(h2:ExIn w lo (.agg #[b0,b1,b2,b3,b4,b5,b6]) y)(hb:Below w.heap.size w W)(hB:B<W.heap.size)(hlo:lo B)
  (hc:∀i,W.cell? ⟨B,i,none⟩=(#[a0,a1,a2,a3,a4,a5,a6,b0,b1,b2,b3,b4,b5,b6]:Array Value)[i]?)(ho:op.size≤maxLen)(hn:nm.size≤maxLen)(hv:vs.size≤maxLen) :
  ExIn W lo (.agg #[.string op,.string nm,.int .i64 vt,.int .i64 vn,.string vs,.slice (some ⟨B,0,none⟩) 2 2,.int .i64 pos]) (.node op nm vt vn vs pos [x,y]):=by
 rw[ExIn]
 refine⟨_,_,rfl,⟨by simp[maxLen],by simp⟩,ho,hn,hv,.inr ⟨B,0,rfl,hB,hlo,?_⟩⟩
 rw[ExsIn,ExsIn,ExsIn]
 refine⟨⟨a0,a1,a2,a3,a4,a5,a6,?_,?_,?_,?_,?_,?_,?_,h1.on hb⟩,⟨b0,b1,b2,b3,b4,b5,b6,?_,?_,?_,?_,?_,?_,?_,h2.on hb⟩,trivial⟩
 all_goals (rw[hc];rfl)
theorem ztb{w W:World}{lo:Nat→Prop}{B:Nat}{a0 a1 a2 a3 a4 a5 a6:Value}{x:Ex}{op nm vs:ByteArray}{vt vn pos:Int}(h1:ExIn w lo (.agg #[a0,a1,a2,a3,a4,a5,a6]) x)(hb:Below w.heap.size w W)(hB:B<W.heap.size)(hlo:lo B)
  (hc:∀i,W.cell? ⟨B,i,none⟩=(#[a0,a1,a2,a3,a4,a5,a6]:Array Value)[i]?)(ho:op.size≤maxLen)(hn:nm.size≤maxLen)(hv:vs.size≤maxLen) :
  ExIn W lo (.agg #[.string op,.string nm,.int .i64 vt,.int .i64 vn,.string vs,.slice (some ⟨B,0,none⟩) 1 1,.int .i64 pos]) (.node op nm vt vn vs pos [x]):=by
 rw[ExIn]
 refine⟨_,_,rfl,⟨by simp[maxLen],by simp⟩,ho,hn,hv,.inr ⟨B,0,rfl,hB,hlo,?_⟩⟩
 rw[ExsIn,ExsIn]
 refine⟨⟨a0,a1,a2,a3,a4,a5,a6,?_,?_,?_,?_,?_,?_,?_,h1.on hb⟩,trivial⟩
 all_goals (rw[hc];rfl)
theorem zhm{W:World}{lo:Nat→Prop}{p:Option Addr}{c:Nat}{op nm vs:ByteArray}{vt vn pos:Int}(ho:op.size≤maxLen)(hn:nm.size≤maxLen)(hv:vs.size≤maxLen) :
  ExIn W lo (.agg #[.string op,.string nm,.int .i64 vt,.int .i64 vn,.string vs,.slice p 0 c,.int .i64 pos]) (.node op nm vt vn vs pos []):=by
 rw[ExIn]
 exact⟨_,_,rfl,⟨by simp,by simp⟩,ho,hn,hv,.inl rfl⟩
set_option maxRecDepth 20000 in
theorem zdF(w:World)(lo:Nat→Prop)(t:Tok)(v1 v2:Value)(x y:Ex)(h1:ExIn w lo v1 x)(h2:ExIn w lo v2 y)(hlo:∀b,w.heap.size≤b→lo b)(ht:t.2.1.size≤maxLen) :
  Calls Tryz.prog 150 #[v1,tokV t,v2] w fun e w'=>(∃v,e=.returned v∧ExIn w' lo v (betT x t y))∧Below w.heap.size w w':=by
 obtain⟨o1,n1,t1,k1,s1,p1,m1,c1,a1,rfl⟩:=h1.agg
 obtain⟨o2,n2,t2,k2,s2,p2,m2,c2,a2,rfl⟩:=h2.agg
 have H1:Aside (ExIn w lo (.agg #[.string o1,.string n1,.int .i64 t1,.int .i64 k1,.string s1,.slice p1 m1 c1,.int .i64 a1]) x):=h1
 have H2:Aside (ExIn w lo (.agg #[.string o2,.string n2,.int .i64 t2,.int .i64 k2,.string s2,.slice p2 m2 c2,.int .i64 a2]) y):=h2
 clear h1 h2
 obtain⟨tk,tx,ta⟩:=t
 rw[tokV]
 go_enter Tryz.func150,Tryz.ntmps150
 go_wp2
 have hb:Below w.heap.size w _:=(((((Below.refl w.heap.size w).alloc (Nat.le_refl _) (.cells #[.string o1,.string n1,.int .i64 t1,.int .i64 k1,.string s1,.slice p1 m1 c1,.int .i64 a1] 31)).alloc (by simp) (.cells #[.int .i64 tk,.string tx,.int .i64 (ta:Int)] 78)).alloc (by simp;omega) (.cells #[.string o2,.string n2,.int .i64 t2,.int .i64 k2,.string s2,.slice p2 m2 c2,.int .i64 a2] 31)).alloc (by simp;omega) (.cells #[.string tx,.string ⟨#[]⟩,.int .i64 0,.int .i64 0,.string ⟨#[]⟩,.slice (some ⟨w.heap.size+1+1+1+1,0,none⟩) 2 2,.int .i64 (ta:Int)] 31)).alloc (by simp;omega) (.cells #[.string o1,.string n1,.int .i64 t1,.int .i64 k1,.string s1,.slice p1 m1 c1,.int .i64 a1,.string o2,.string n2,.int .i64 t2,.int .i64 k2,.string s2,.slice p2 m2 c2,.int .i64 a2] 31)
 refine bodyPost_ret (v:=.agg #[.string tx,.string ⟨#[]⟩,.int .i64 0,.int .i64 0,.string ⟨#[]⟩,.slice (some ⟨w.heap.size+1+1+1+1,0,none⟩) 2 2,.int .i64 (ta:Int)]) (by simp[results,Tryz.results150,go_sem]) rfl ⟨⟨_,rfl,?_⟩,hb⟩
 exact ztc H1.out H2.out hb (by simp) (hlo _ (by omega)) (fun i=>World.cell?_alloc_at _ _ _ _ (by simp)) ht (by decide) (by decide)
end
end Go.Proofs.YtbdnccnfidjiaaaGreatDoor
