/-
  GmA, GnW, TlW.
-/
import Derived.Test.YtopghagjmdbglaaGreatDoorGyAt
import Derived.Test.YtopghagjmdbglaaGreatDoorGyAp
import Derived.Test.YtopghagjmdbglaaGreatDoorGyAu
import Derived.Deep.RegionWith
import Derived.Deep.LoopGhost
import Derived.Deep.QuietTactic
namespace Go.Proofs.YtopghagjmdbglaaGreatDoor
open Go.RowKit
set_option linter.unusedVariables false
set_option linter.unusedSimpArgs false
set_option maxHeartbeats 8000000
structure Gm where
 z:Nat
 key:List V3
 a:Nat
 v:Value
 rs:List (List V3)
structure Wm where
 z:Nat
 fr:Int
 gv:Value
 gs:List Gm
def Gm.p(g:Gm):Value:=.pointer (some ⟨g.z,0,none⟩)
def Wm.p(x:Wm):Value:=.pointer (some ⟨x.z,0,none⟩)
def Gm.S(g:Gm)(k:Nat):Prop:=accS g.a g.v k
def Wm.S(x:Wm)(k:Nat):Prop:=k=x.z∨x.gv.ownBlock=some k∨∃g∈x.gs,g.S k
def MutS(W:World)(S:Nat→Prop):Prop:=∀k cs t fr,S k→W.heap[k]?=some (.cells cs t fr)→t≠267∧t≠27∧t≠259
theorem MutS.no{W:World}:MutS W (fun _=>False):=fun _ _ _ _ h=>h.elim
theorem MutS.blk{W:World}{S:Nat→Prop}(h:MutS W S){b:Nat}{cs:Array Value}{t:TypeId}(hb:Blk W b cs t)(ht:t=267∨t=27∨t=259):¬S b:=fun hs=>by
 obtain⟨h1,h2,h3⟩:=h b cs t (0,0) hs hb
 rcases ht with h|h|h
 ·exact h1 h
 ·exact h2 h
 ·exact h3 h
theorem MutS.one{W:World}{b:Nat}{cs:Array Value}{t:TypeId}(hb:Blk W b cs t)(ht:t≠267∧t≠27∧t≠259):MutS W (·=b):=by
 intro k c t' fr hk hc
 have hk:k=b:=hk
 subst hk
 unfold Blk at hb
 rw[hb] at hc
 injection hc with hc
 injection hc with _ e _
 subst e
 exact ht
theorem MutS.or{W:World}{S T:Nat→Prop}(h:MutS W S)(k:MutS W T):MutS W (fun i=>S i∨T i):=fun i cs t fr hi hc=>hi.elim (fun e=>h i cs t fr e hc) (fun e=>k i cs t fr e hc)
theorem MutS.mono{W:World}{S T:Nat→Prop}(h:MutS W S)(hs:∀k,T k→S k):MutS W T:=fun i cs t fr hi hc=>h i cs t fr (hs i hi) hc
theorem zda{W:World}{B n size:Nat}{e:TypeId}{v:Value}{xs:List Value}(h:W.ownsRow B e size v n xs)(ht:e≠267∧e≠27∧e≠259):MutS W (fun k=>v.ownBlock=some k):=by
 intro k c t' fr hk hc
 rcases h.2 with ⟨e1,-⟩|⟨g,cap,cur,e1,-,hg,-⟩
 ·rw[e1] at hk;simp[Value.ownBlock] at hk
 ·rw[e1] at hk
  have hk:g=k:=by simpa [Value.ownBlock] using hk
  subst hk
  rw[hg] at hc
  injection hc with hc
  injection hc with _ e _
  subst e
  exact ht
theorem zfu{w w':World}{S:Nat→Prop}{B n size:Nat}{e:TypeId}{v:Value}{xs:List Value}(h:w.ownsRow B e size v n xs)(hk:Kp S w w')(hs:∀k,v.ownBlock=some k→¬S k):w'.ownsRow B e size v n xs:=by
 refine⟨h.1,?_⟩
 rcases h.2 with hn|⟨g,cap,cur,rfl,h1,hgg,rest⟩
 ·exact .inl hn
 ·exact .inr ⟨g,cap,cur,rfl,h1,by rw[hk.kept g (Array.getElem?_eq_some_iff.1 hgg).1 (hs g rfl)];exact hgg,rest⟩
theorem zft{B B' n size:Nat}{w:World}{e:TypeId}{v:Value}{xs:List Value}(h:w.ownsRow B e size v n xs)(hb:B'≤B):w.ownsRow B' e size v n xs :=
 ⟨h.1,h.2.imp id (fun ⟨g,cap,cur,e,hbg,r⟩=>⟨g,cap,cur,e,Nat.le_trans hb hbg,r⟩)⟩
theorem zdb{w:World}{B k size:Nat}{e:TypeId}{v:Value}{xs:List Value}(h:w.ownsRow B e size v (k+1) xs):∃g cap,v=.slice (some ⟨g,0,none⟩) (k+1) cap:=by
 rcases h.2 with ⟨_,h0⟩|⟨g,cap,cur,e,-⟩
 ·omega
 ·exact⟨g,cap,e⟩
theorem zds{w:World}{B n size:Nat}{e:TypeId}{v:Value}{xs:List Value}(h:w.ownsRow B e size v n xs):∀k,v.ownBlock=some k→B≤k∧k<w.heap.size:=fun k hk=>World.ownsRow.lt h k hk
theorem zmN{w:World}{S:Nat→Prop}{B n size:Nat}{v:Value}{xs:List Value}(h:w.ownsRow B 27 size v n xs)(hm:MutS w S):∀k,v.ownBlock=some k→¬S k:=fun k hk hs=>by
 rcases h.2 with ⟨e1,-⟩|⟨g,cap,cur,e1,-,hg,-⟩
 ·rw[e1] at hk;simp[Value.ownBlock] at hk
 ·rw[e1] at hk
  have hk:g=k:=by simpa [Value.ownBlock] using hk
  subst hk
  exact (hm g cur _ (0,0) hs hg).2.1 rfl
structure GmAt(w:World)(base:Nat)(ps0:List Pt)(g:Gm):Prop where
 blk:∃kv,Blk w g.z #[kv,.pointer (some ⟨g.a,0,none⟩)] 259∧w.ownsRow base 27 3 kv g.key.length (zao g.key)
 acc:AcAt w g.a g.v ps0 g.rs
 low:∀k,g.S k→base≤k
theorem AcAt.mut{W:World}{a:Nat}{v:Value}{ps0:List Pt}{rs:List (List V3)}(h:AcAt W a v ps0 rs):MutS W (accS a v):=by
 obtain⟨ps,h,-⟩:=h
 have h1:MutS W (·=a):=MutS.one h.blk (by decide)
 rcases h.pts with ⟨-,rfl⟩|⟨g,c,cur,rfl,hp⟩
 ·exact h1.mono fun k hk=>hk.resolve_right (by simp[Value.ownBlock])
 ·exact (h1.or (MutS.one hp.blk (by decide))).mono fun k hk=>hk.imp id (fun e=>by
   have:g=k:=by simpa [Value.ownBlock] using e
   exact this.symm)
theorem AcAt.ty{W:World}{a:Nat}{v:Value}{ps0:List Pt}{rs:List (List V3)}(h:AcAt W a v ps0 rs){k:Nat}(hk:accS a v k):∃cs t,Blk W k cs t∧(t=290∨t=298):=by
 obtain⟨ps,h,-⟩:=h
 rcases hk with rfl|hk
 ·exact⟨_,_,h.blk,.inl rfl⟩
 ·rcases h.pts with ⟨-,rfl⟩|⟨g,c,cur,rfl,hp⟩
  ·simp[Value.ownBlock] at hk
  ·have:g=k:=by simpa [Value.ownBlock] using hk
   subst this
   exact⟨_,_,hp.blk,.inr rfl⟩
theorem AcAt.notblk{W:World}{a b:Nat}{v:Value}{ps0:List Pt}{rs:List (List V3)}{cs:Array Value}{t:TypeId}(h:AcAt W a v ps0 rs)(hb:Blk W b cs t)(ht:t≠290∧t≠298):¬accS a v b:=fun hk=>by
 obtain⟨ds,u,h1,h2⟩:=h.ty hk
 exact zdQ hb h1 (by rcases h2 with rfl|rfl;exact ht.1;exact ht.2) rfl
theorem AcAt.notown{W:World}{a B n size:Nat}{v u:Value}{ps0:List Pt}{rs:List (List V3)}{e:TypeId}{xs:List Value}(h:AcAt W a v ps0 rs)(ho:W.ownsRow B e size u n xs)(ht:e≠290∧e≠298){k:Nat}(hu:u.ownBlock=some k):¬accS a v k:=by
 rcases ho.2 with ⟨e1,-⟩|⟨g,cap,cur,e1,-,hg,-⟩
 ·rw[e1] at hu;simp[Value.ownBlock] at hu
 ·rw[e1] at hu
  have hk:g=k:=by simpa [Value.ownBlock] using hu
  subst hk
  exact h.notblk (show Blk W g cur e from hg) ht
theorem AcAt.kp{w w':World}{S:Nat→Prop}{a:Nat}{v:Value}{ps0:List Pt}{rs:List (List V3)}(h:AcAt w a v ps0 rs)(hk:Kp S w w')(hm:MutS w S)(hS:∀k,accS a v k→¬S k):AcAt w' a v ps0 rs:=by
 obtain⟨ps,h3,h4⟩:=h
 exact⟨ps,h3.keep hk hS (fun k cs hs hc=>(hm k cs _ _ hs hc).1 rfl),h4⟩
theorem GmAt.kp{w w':World}{S:Nat→Prop}{base:Nat}{ps0:List Pt}{g:Gm}(h:GmAt w base ps0 g)(hk:Kp S w w')(hm:MutS w S)(hS:∀k,g.S k→¬S k):GmAt w' base ps0 g:=by
 obtain⟨⟨kv,h1,h2⟩,⟨ps,h3,h4⟩,h5⟩:=h
 refine⟨⟨kv,h1.kp hk (hm.blk h1 (by decide)),zfu h2 hk (zmN h2 hm)⟩,⟨ps,h3.keep hk hS (fun k cs hs hc=>(hm k cs _ _ hs hc).1 rfl),h4⟩,h5⟩
theorem GmAt.on{w w':World}{base:Nat}{ps0:List Pt}{g:Gm}(h:GmAt w base ps0 g)(hb:Below w.heap.size w w'):GmAt w' base ps0 g:=h.kp (Kp.of_below (S:=fun _=>False) hb) MutS.no (fun _ _ h=>h)
structure WmAt(w:World)(base:Nat)(ps0:List Pt)(x:Wm):Prop where
 blk:Blk w x.z #[.int .i64 x.fr,x.gv] 182
 row:w.ownsRow base 254 1 x.gv x.gs.length (x.gs.map Gm.p)
 gp:∀g∈x.gs,GmAt w base ps0 g
 dj:x.gs.Pairwise fun g h=>∀k,g.S k→¬h.S k
 low:base≤x.z
theorem WmAt.mut{w:World}{base:Nat}{ps0:List Pt}{x:Wm}(h:WmAt w base ps0 x):MutS w x.S:=by
 refine (((MutS.one h.blk (by decide)).or (zda h.row (by decide))).or (T:=fun k=>∃g∈x.gs,g.S k) (fun k cs t fr hk hc=>?_)).mono fun k hk=>?_
 ·obtain⟨g,hg,hs⟩:=hk
  exact (h.gp g hg).acc.mut k cs t fr hs hc
 ·rcases hk with h|h|h
  ·exact .inl (.inl h)
  ·exact .inl (.inr h)
  ·exact .inr h
theorem WmAt.lt{w:World}{base:Nat}{ps0:List Pt}{x:Wm}(h:WmAt w base ps0 x):∀k,x.S k→base≤k∧k<w.heap.size:=by
 intro k hk
 rcases hk with rfl|hk|⟨g,hg,hs⟩
 ·exact⟨h.low,h.blk.lt⟩
 ·exact zds h.row k hk
 ·exact⟨(h.gp g hg).low k hs,(h.gp g hg).acc.lt k hs⟩
theorem WmAt.kp{w w':World}{S:Nat→Prop}{base:Nat}{ps0:List Pt}{x:Wm}(h:WmAt w base ps0 x)(hk:Kp S w w')(hm:MutS w S)(hS:∀k,x.S k→¬S k):WmAt w' base ps0 x :=
 ⟨h.blk.kp hk (hS _ (.inl rfl)),zfu h.row hk (fun k e=>hS k (.inr (.inl e))),fun g hg=>(h.gp g hg).kp hk hm (fun k hs=>hS k (.inr (.inr ⟨g,hg,hs⟩))),h.dj,h.low⟩
theorem WmAt.on{w w':World}{base:Nat}{ps0:List Pt}{x:Wm}(h:WmAt w base ps0 x)(hb:Below w.heap.size w w'):WmAt w' base ps0 x:=h.kp (Kp.of_below (S:=fun _=>False) hb) MutS.no (fun _ _ h=>h)
structure Gs where
 SC:Array Value
 at_:Int
 pv:Value
 av:Value
 tv:Value
 size:Int
 slide:Int
structure GrC(s:Gs)(last:Int)(ov:Value)(C:Array Value):Prop where
 size:C.size=17
 sv:s.SC.size=9∧∀(j:Nat) (v:Value),s.SC[j]?=some v→C[j]?=some v
 c9:C[9]?=some (.int .i64 s.at_)
 c10:C[10]?=some s.pv
 c11:C[11]?=some s.av
 c12:C[12]?=some s.tv
 c13:C[13]?=some (.int .i64 s.size)
 c14:C[14]?=some (.int .i64 s.slide)
 c15:C[15]?=some (.int .i64 last)
 c16:C[16]?=some ov
theorem GrC.last{s:Gs}{l l':Int}{ov:Value}{C:Array Value}(h:GrC s l ov C):GrC s l' ov (C.setIfInBounds 15 (.int .i64 l')):=by
 obtain⟨h0,h1,h9,h10,h11,h12,h13,h14,h15,h16⟩:=h
 refine⟨by simpa using h0,⟨h1.1,fun j v hj=>?_⟩,?_,?_,?_,?_,?_,?_,?_,?_⟩
 ·have:j<9:=by rw[←h1.1];exact (Array.getElem?_eq_some_iff.1 hj).1
  rw[Array.getElem?_setIfInBounds_ne (by omega)];exact h1.2 j v hj
 all_goals first
  | (rw[Array.getElem?_setIfInBounds_ne (by omega)];assumption)
  | (rw[Array.getElem?_setIfInBounds_self,if_pos (by omega)])
theorem GrC.opens{s:Gs}{l:Int}{ov ov':Value}{C:Array Value}(h:GrC s l ov C):GrC s l ov' (C.setIfInBounds 16 ov'):=by
 obtain⟨h0,h1,h9,h10,h11,h12,h13,h14,h15,h16⟩:=h
 refine⟨by simpa using h0,⟨h1.1,fun j v hj=>?_⟩,?_,?_,?_,?_,?_,?_,?_,?_⟩
 ·have:j<9:=by rw[←h1.1];exact (Array.getElem?_eq_some_iff.1 hj).1
  rw[Array.getElem?_setIfInBounds_ne (by omega)];exact h1.2 j v hj
 all_goals first
  | (rw[Array.getElem?_setIfInBounds_ne (by omega)];assumption)
  | (rw[Array.getElem?_setIfInBounds_self,if_pos (by omega)])
structure GrAt(w:World)(base:Nat)(ps0:List Pt)(gb:Nat)(s:Gs)(last:Int)(ov:Value)(xs:List Wm):Prop where
 blk:∃C,Blk w gb C 110∧GrC s last ov C
 row:w.ownsRow base 152 1 ov xs.length (xs.map Wm.p)
 wm:∀x∈xs,WmAt w base ps0 x
 dj:xs.Pairwise fun x y=>∀k,x.S k→¬y.S k
 lt:gb<base
def GrS(gb:Nat)(ov:Value)(xs:List Wm)(k:Nat):Prop:=k=gb∨ov.ownBlock=some k∨∃x∈xs,x.S k
theorem GrAt.mut{w:World}{base:Nat}{ps0:List Pt}{gb:Nat}{s:Gs}{last:Int}{ov:Value}{xs:List Wm}(h:GrAt w base ps0 gb s last ov xs):MutS w (GrS gb ov xs):=by
 obtain⟨C,h1,h2⟩:=h.blk
 refine (((MutS.one h1 (by decide)).or (zda h.row (by decide))).or (T:=fun k=>∃x∈xs,x.S k) (fun k cs t fr hk hc=>?_)).mono fun k hk=>?_
 ·obtain⟨g,hg,hs⟩:=hk
  exact (h.wm g hg).mut k cs t fr hs hc
 ·rcases hk with h|h|h
  ·exact .inl (.inl h)
  ·exact .inl (.inr h)
  ·exact .inr h
theorem GrAt.in_{w:World}{base:Nat}{ps0:List Pt}{gb:Nat}{s:Gs}{last:Int}{ov:Value}{xs:List Wm}(h:GrAt w base ps0 gb s last ov xs):∀k,GrS gb ov xs k→k=gb∨(base≤k∧k<w.heap.size):=by
 intro k hk
 rcases hk with rfl|hk|⟨x,hx,hs⟩
 ·exact .inl rfl
 ·exact .inr (zds h.row k hk)
 ·exact .inr ((h.wm x hx).lt k hs)
theorem GrAt.kp{w w':World}{S:Nat→Prop}{base:Nat}{ps0:List Pt}{gb:Nat}{s:Gs}{last:Int}{ov:Value}{xs:List Wm}(h:GrAt w base ps0 gb s last ov xs)(hk:Kp S w w')(hm:MutS w S)(hS:∀k,GrS gb ov xs k→¬S k):GrAt w' base ps0 gb s last ov xs:=by
 obtain⟨C,h1,h2⟩:=h.blk
 exact⟨⟨C,h1.kp hk (hS _ (.inl rfl)),h2⟩,zfu h.row hk (fun k e=>hS k (.inr (.inl e))),fun g hg=>(h.wm g hg).kp hk hm (fun k hs=>hS k (.inr (.inr ⟨g,hg,hs⟩))),h.dj,h.lt⟩
theorem GrAt.on{w w':World}{base:Nat}{ps0:List Pt}{gb:Nat}{s:Gs}{last:Int}{ov:Value}{xs:List Wm}(h:GrAt w base ps0 gb s last ov xs)(hb:Below w.heap.size w w'):GrAt w' base ps0 gb s last ov xs:=h.kp (Kp.of_below (S:=fun _=>False) hb) MutS.no (fun _ _ h=>h)
structure Bts(S0:Nat→Prop)(gb:Nat)(W1 w:World):Prop where
 kp:Kp S0 W1 w
 own:S0 gb
 low:∀k,S0 k→k≤gb∨W1.heap.size≤k
theorem Bts.size{S0:Nat→Prop}{gb:Nat}{W1 w:World}(h:Bts S0 gb W1 w):W1.heap.size≤w.heap.size:=h.kp.size
theorem Bts.on{S0:Nat→Prop}{gb:Nat}{W1 w w':World}(h:Bts S0 gb W1 w)(hb:Below w.heap.size w w'):Bts S0 gb W1 w':=⟨h.kp.on hb,h.own,h.low⟩
theorem Bts.keepB{S0:Nat→Prop}{gb:Nat}{W1 w:World}(h:Bts S0 gb W1 w):KeepB (gb+1) W1 w:=⟨h.size,fun b h1 h2=>h.kp.kept b h2 (fun hs=>by have:=h.low b hs;omega)⟩
theorem GrAt.but{w w' W1:World}{S S0:Nat→Prop}{gb:Nat}(hb:Bts S0 gb W1 w)(hk:Kp S w w')(hs:∀k,S k→k=gb∨W1.heap.size≤k)(hg:gb<W1.heap.size):Bts S0 gb W1 w' :=
 ⟨⟨hb.kp.low.trans hk.low,fun k h1 h2=>by rw[hk.kept k (by have:=hb.size;omega) (fun h=>by rcases hs k h with rfl|h;exact h2 hb.own;omega),hb.kp.kept k h1 h2]⟩,hb.own,hb.low⟩
section
open Go.BigFrame
def zse(sb base:Nat)(fr:Int)(gq:Option Addr)(n gc k:Nat)(xs:List Value)(ps0:List Pt)(ls:List V3)(gz:Nat)(w w':World):Prop:=∃a v q' c' kv,
   Aside (Blk w' sb #[.int .i64 fr,.slice q' (n+1) c'] 182∧w'.ownsRow base 254 1 (.slice q' (n+1) c') (n+1) (xs.take k++.pointer (some ⟨gz,0,none⟩)::xs.drop k) ∧
    Blk w' gz #[kv,.pointer (some ⟨a,0,none⟩)] 259∧w'.ownsRow base 27 3 kv ls.length (zao ls)∧AcAt w' a v ps0 []∧(∀k,accS a v k→w.heap.size≤k)∧w.heap.size≤gz) ∧
   Aside (Kp (fun k=>k=sb∨(Value.slice gq n gc).ownBlock=some k) w w')∧Aside ((Value.slice q' (n+1) c').ownBlock=(Value.slice gq n gc).ownBlock∨∃g,(Value.slice q' (n+1) c').ownBlock=some g∧w.heap.size≤g)
set_option maxRecDepth 20000 in
theorem zhO(sb base:Nat)(fr:Int)(gq:Option Addr)(n gc k:Nat)(xs:List Value)(ps0:List Pt)(q2:Option Addr)(c2:Nat)(ls:List V3)(av tv:Value)(w:World)
  (hS:Blk w sb #[.int .i64 fr,.slice gq n gc] 182)(hown:w.ownsRow base 254 1 (.slice gq n gc) n xs)(hx1:∀x∈xs,x.oneCell'=true)(hk:k≤n)(hn:n≤1000)(hbase:base≤w.heap.size)(h2:zaf w q2 ls)(hl:ls.length≤1000)(hs2:∀v∈ls,v.2.2.size≤281474976710656)
  (hF:Calls Tryz.prog 175 #[.pointer (some ⟨sb,0,none⟩),.slice q2 ls.length c2] w fun e w'=>e=.returned (.tuple #[.int .i64 (k:Int),.bool false])∧Below w.heap.size w w')
  (hN:∀W,Below w.heap.size w W→Calls Tryz.prog 200 #[av,tv] W fun e w'=>∃a v,e=.returned (.tuple #[.pointer (some ⟨a,0,none⟩),.nilIface])∧Aside (AcAt w' a v ps0 []∧(∀k,accS a v k→W.heap.size≤k))∧Below W.heap.size W w') :
  Calls Tryz.prog 178 #[.pointer (some ⟨sb,0,none⟩),.slice q2 ls.length c2,av,tv] w fun e w'=>∃gz,e=.returned (.tuple #[.pointer (some ⟨gz,0,none⟩),.nilIface])∧zse sb base fr gq n gc k xs ps0 ls gz w w':=by
 have hsl:=hS.lt
 have hne0:(Value.slice gq n gc).ownBlock≠some sb:=fun e=>by
  rcases hown.2 with ⟨e1,-⟩|⟨g,cap,cur,e1,-,hg,-⟩
  ·rw[e1] at e;simp[Value.ownBlock] at e
  ·rw[e1] at e
   have e:g=sb:=by simpa [Value.ownBlock] using e
   subst e
   exact zdQ (show Blk w g cur _ from hg) hS (by decide) rfl
 have hown0:=zds hown
 have hI:=fun (W:World) (hb:Below w.heap.size w W) (z ge:Nat) (hge:Blk W ge #[.pointer (some ⟨z,0,none⟩)] 254) (hg0:w.heap.size≤ge) =>
  zhP base gq n gc k xs ge (.pointer (some ⟨z,0,none⟩)) W (zac hown hb) hx1 hge (fun h=>by have:=(hown0 _ h).2;omega) rfl hk (by omega) (by have:=hb.size;omega)
 have hFr:=fun W (hb:Below w.heap.size w W)=>zfb q2 c2 ls W (by omega) (h2.on hb) hs2
 have hg1:∀W,Below w.heap.size w W→W.cell? ⟨sb,1,none⟩=some (.slice gq n gc):=fun W hb=>by rw[hb.cell (p:=⟨sb,1,none⟩) hsl];exact hS.cell 1
 have hSW:∀W,Below w.heap.size w W→Blk W sb #[.int .i64 fr,.slice gq n gc] 182:=fun W hb=>hS.on hb
 have hI2:=fun (W:World) (hb:Below w.heap.size w W) (o1:Obj)=>hI ((W.alloc o1).alloc (.cells #[.pointer (some ⟨W.heap.size,0,none⟩)] 254)) ((hb.alloc hb.size o1).alloc (by have:=hb.size;simp;omega) _) W.heap.size (W.heap.size+1) (by have:=zab (W.alloc o1) #[.pointer (some ⟨W.heap.size,0,none⟩)] 254;simpa using this) (by have:=hb.size;omega)
 have HI:Aside _:=hI2
 have HOWN:Aside _:=hown
 have hg4:∀W,Below w.heap.size w W→(∀o1:Obj,(W.alloc o1).cell? ⟨sb,1,none⟩=some (.slice gq n gc))∧(∀o1 o2:Obj,((W.alloc o1).alloc o2).cell? ⟨sb,1,none⟩=some (.slice gq n gc)):=fun W hb=>⟨fun o1=>hg1 _ (hb.alloc hb.size o1),fun o1 o2=>hg1 _ ((hb.alloc hb.size o1).alloc (Nat.le_trans hb.size (by simp)) o2)⟩
 have HG4:Aside _:=hg4
 have HG:Aside _:=hg1
 have HSW:Aside _:=hSW
 have hkz:(k:Int)≤(n:Int):=by omega
 have hk0:(0:Int)≤(k:Int):=by omega
 have hkn:(k:Int)<((n+1:Nat):Int):=by omega
 clear hI hI2 hg4 hg1 hSW hown h2 hs2 hx1 hS
 obtain⟨m,hm⟩:∃m,ls.length=m:=⟨_,rfl⟩
 have HM:Hid (ls.length=m):=hm
 rw[hm] at hF hFr hl ⊢
 clear hm
 go_enter Tryz.func178,Tryz.ntmps178
 go_wp2_with fail
 refine hF.mono ?_
 rintro e w1 ⟨rfl,B1⟩
 have hN1:=hN w1 B1
 clear hF hN
 go_wp2_with fail
 refine hN1.mono ?_
 rintro e w2 ⟨a,v,rfl,HA,b2⟩
 have B2:Below w.heap.size w w2:=B1.trans (b2.mono B1.size)
 have hsz2:=B2.size
 have hg2:=HG.out w2 B2
 have HA2:Aside (AcAt w2 a v ps0 []∧∀k,accS a v k→w.heap.size≤k):=⟨HA.out.1,fun k hk=>by have:=HA.out.2 k hk;have:=B1.size;omega⟩
 clear hN1 B1 HA b2
 go_wp2_with fail
 go_region_with (first
  | (go_at_call 202;refine (hFr _ (Below.drew B2)).mono ?_;rintro e w3 ⟨⟨kv,rfl,HK3⟩,b3⟩;have B3:Below w.heap.size w w3:=(Below.drew B2).trans (b3.mono hsz2);have HB3:Aside _:=B3;have HA3:Aside (AcAt w3 a v ps0 []):=HA2.out.1.on (Below.drew (Below.refl _ _) |>.trans b3);have hg3:=HG.out w3 B3;obtain⟨kq,kc,rfl⟩:=zaa HK3.out;have hs3:=B3.size;have hl3:sb<w3.heap.size:=Nat.lt_of_lt_of_le hsl hs3;have hg4:=(HG4.out w3 B3).1;have hg5:=(HG4.out w3 B3).2;clear b3)
  | (go_at_call 201;refine (HI.out w3 B3 _).mono ?_;rintro r w5 ⟨q',c',rfl,HO,HK,HB⟩;have BI:Below w.heap.size w ((w3.alloc (.cells #[.slice kq m kc,.pointer (some ⟨a,0,none⟩)] 259)).alloc (.cells #[.pointer (some ⟨w3.heap.size,0,none⟩)] 254)):=(B3.alloc hs3 _).alloc (by simp;omega) _;have hS5:Aside (Blk w5 sb #[.int .i64 fr,.slice gq n gc] 182):=(HSW.out _ BI).kp HK.out hne0;have c5:=hS5.out.cell 1;have f5:=hS5.out.frozen 1;simp at c5))
 all_goals
  have hlow:∀i,(i=sb∨(Value.slice gq n gc).ownBlock=some i)→i<w.heap.size:=fun i hi=>hi.elim (fun e=>by omega) (fun e=>(hown0 i e).2)
  have K5:Kp (fun i=>i=sb∨(Value.slice gq n gc).ownBlock=some i) ((w3.alloc (.cells #[.slice kq m kc,.pointer (some ⟨a,0,none⟩)] 259)).alloc (.cells #[.pointer (some ⟨w3.heap.size,0,none⟩)] 254)) (w5.setCell ⟨sb,1,none⟩ (.slice q' (n+1) c')):=(HK.out.mono (fun _ _ h=>.inr h)).set 1 _ (fun _=>.inl rfl)
  have hM:MutS ((w3.alloc (.cells #[.slice kq m kc,.pointer (some ⟨a,0,none⟩)] 259)).alloc (.cells #[.pointer (some ⟨w3.heap.size,0,none⟩)] 254)) (fun i=>i=sb∨(Value.slice gq n gc).ownBlock=some i):=(MutS.one (HSW.out _ BI) (by decide)).or (zda (zac HOWN.out BI) (by decide))
  have bW:Below w3.heap.size w3 ((w3.alloc (.cells #[.slice kq m kc,.pointer (some ⟨a,0,none⟩)] 259)).alloc (.cells #[.pointer (some ⟨w3.heap.size,0,none⟩)] 254)):=(alB w3 _).alloc (by simp) _
  have eG:Blk ((w3.alloc (.cells #[.slice kq m kc,.pointer (some ⟨a,0,none⟩)] 259)).alloc (.cells #[.pointer (some ⟨w3.heap.size,0,none⟩)] 254)) w3.heap.size #[.slice kq m kc,.pointer (some ⟨a,0,none⟩)] 259:=(zab _ _ _).on (alB _ _)
  have fG:Aside (Blk (w5.setCell ⟨sb,1,none⟩ (.slice q' (n+1) c')) w3.heap.size #[.slice kq m kc,.pointer (some ⟨a,0,none⟩)] 259):=eG.kp K5 (fun h=>by have:=hlow _ h;omega)
  have fS0:Blk (w5.setCell ⟨sb,1,none⟩ (.slice q' (n+1) c')) sb #[.int .i64 fr,.slice q' (n+1) c'] 182:=by
   have:=hS5.out.set 1 (.slice q' (n+1) c')
   simpa using this
  have fS:Aside (Blk (w5.setCell ⟨sb,1,none⟩ (.slice q' (n+1) c')) sb #[.int .i64 fr,.slice q' (n+1) c'] 182):=fS0
  have hq:(Value.slice q' (n+1) c').ownBlock≠some sb:=fun e=>by
   rcases HB.out with h|h
   ·exact hne0 (h.symm.trans e)
   ·rw[h] at e
    injection e with e
    simp at e
    omega
  have fO:Aside ((w5.setCell ⟨sb,1,none⟩ (.slice q' (n+1) c')).ownsRow base 254 1 (.slice q' (n+1) c') (n+1) (xs.take k++.pointer (some ⟨w3.heap.size,0,none⟩)::xs.drop k)):=ownsRow_setCell_other HO.out (a:=⟨sb,1,none⟩) hq (.slice q' (n+1) c')
  have fK:Aside ((w5.setCell ⟨sb,1,none⟩ (.slice q' (n+1) c')).ownsRow base 27 3 (.slice kq m kc) m (zao ls)):=zfu (zac (zft HK3.out (show base≤_ by have:=HB3.out.size;simp;omega)) bW) K5 (fun k h1 h2=>by have h3:=(zds HK3.out k h1).1;have:=hlow _ h2;simp at h3;omega)
  have fA:Aside (AcAt (w5.setCell ⟨sb,1,none⟩ (.slice q' (n+1) c')) a v ps0 []):=(HA3.on bW).kp K5 hM (fun i h1 h2=>by have:=HA2.out.2 i h1;have:=hlow _ h2;omega)
  have fKp:Aside (Kp (fun i=>i=sb∨(Value.slice gq n gc).ownBlock=some i) w (w5.setCell ⟨sb,1,none⟩ (.slice q' (n+1) c'))):=(Kp.of_below BI).trans K5
  have fB:Aside ((Value.slice q' (n+1) c').ownBlock=(Value.slice gq n gc).ownBlock∨∃g,(Value.slice q' (n+1) c').ownBlock=some g∧w.heap.size≤g):=HB.out.imp id (fun h=>⟨_,h,by have:=BI.size;exact this⟩)
  have hAc:Aside (∀k,accS a v k→w.heap.size≤k):=HA2.out.2
  obtain⟨g',cap,e⟩:=zdb fO.out
  injection e with e1 _ e3
  subst e1
  subst e3
  have hkc:(xs.take k++Value.pointer (some ⟨w3.heap.size,0,none⟩)::xs.drop k)[k]?=some (Value.pointer (some ⟨w3.heap.size,0,none⟩)):=by
   have hxl:xs.length=n:=by have:=HOWN.out.1;omega
   rw[List.getElem?_append_right (by rw[List.length_take];omega),List.length_take,show k-min k xs.length=0 by omega]
   rfl
  have fcell:=World.ownsRow.cells fO.out (g:=g') rfl k _ hkc
  rw[Go.WideShapes.add_plain,Nat.zero_add] at fcell
  have fc1:=Blk.cell fS.out 1
  simp at fc1
  generalize hWF:w5.setCell ⟨sb,1,none⟩ (.slice (some ⟨g',0,none⟩) (n+1) c')=WF at *
  generalize hgz:w3.heap.size=gz at *
  clear hWF hg2 hg3 hg4 hg5 c5 f5 K5 hM bW eG hq hkc hS5 HO HK HB HA3 HB3 HK3 BI B3 fS0 HI HG HG4 HSW HOWN
  clear hgz HA2 B2 hsz2 hown0 hl3
  go_wp2
  go_ret2
  exact⟨gz,rfl,⟨a,v,some ⟨g',0,none⟩,c',_,(show Aside _ from ⟨fS.out,fO.out,fG.out,by rw[HM.out];exact fK.out,fA.out,hAc.out,hs3⟩),fKp,fB⟩⟩
abbrev tlG(cv:Value)(gb:Nat):Array Value:=#[cv,.func (.func 77) #[.pointer (some ⟨gb,0,none⟩)] #[],.pointer (some ⟨gb,0,none⟩)]
set_option maxRecDepth 20000 in
theorem zjP(gb:Nat)(cv:Value)(w:World)(hg:w.cell? ⟨gb,0,none⟩=some cv)(hcv:∃q n c,cv=.slice q n c) :
  Calls Tryz.prog 42 #[.pointer (some ⟨gb,0,none⟩)] w fun e w'=>(∃tb,e=.returned (.pointer (some ⟨tb,0,none⟩))∧Aside (Blk w' tb (tlG cv gb) 107∧w.heap.size≤tb))∧Below w.heap.size w w':=by
 obtain⟨cq,cn,cc,rfl⟩:=hcv
 have HE:Aside (Blk (w.alloc (.cells (tlG (.slice cq cn cc) gb) 107)) w.heap.size (tlG (.slice cq cn cc) gb) 107∧w.heap.size≤w.heap.size):=⟨zab w _ _,Nat.le_refl _⟩
 have HB:Aside (Below w.heap.size w (w.alloc (.cells (tlG (.slice cq cn cc) gb) 107))):=alB w _
 go_enter Tryz.func42,Tryz.ntmps42
 go_wp2
 go_ret
 exact⟨⟨_,rfl,HE⟩,HB.out⟩
set_option maxRecDepth 20000 in
theorem zpa(tb gb:Nat)(cv vr:Value)(w:World)(R:Value→World→Prop)(hT:Blk w tb (tlG cv gb) 107)
  (hC:Calls Tryz.prog 44 #[cv,vr] w fun e w'=>e=.returned .nilIface∧Below w.heap.size w w')
  (hP:∀W,Below w.heap.size w W→Calls Tryz.prog 77 #[.pointer (some ⟨gb,0,none⟩),vr] W fun e w'=>∃u,e=.returned u∧Aside (R u w')) :
  Calls Tryz.prog 21 #[.pointer (some ⟨tb,0,none⟩),vr] w fun e w'=>∃u,e=.returned (.tuple #[u,.nilIface])∧Aside (R u w'):=by
 have hl:=hT.lt
 have c0:=hT.cell 0
 have c1:∀W,Below w.heap.size w W→W.cell? ⟨tb,1,none⟩=some (.func (.func 77) #[.pointer (some ⟨gb,0,none⟩)] #[]):=fun W hb=>by rw[hb.cell (p:=⟨tb,1,none⟩) hl,hT.cell];rfl
 simp at c0
 have HC1:Aside _:=c1
 have HP:Aside _:=hP
 clear hT c1 hP
 go_enter Tryz.func21,Tryz.ntmps21
 go_wp2_with fail
 refine hC.mono ?_
 rintro e w1 ⟨rfl,b1⟩
 have c1:=HC1.out w1 b1
 have cP:=HP.out w1 b1
 clear hC c0 HP HC1
 go_wp2_with fail
 refine cP.mono ?_
 rintro e w2 ⟨u,rfl,HR⟩
 clear cP
 go_wp2
 go_ret2
 exact⟨u,rfl,HR⟩
set_option maxRecDepth 20000 in
theorem zrJ(tb gb:Nat)(cv:Value)(w:World)(R:Value→World→Prop)(hT:Blk w tb (tlG cv gb) 107)
  (hP:Calls Tryz.prog 45 #[.pointer (some ⟨gb,0,none⟩)] w fun e w'=>∃u,e=.returned u∧Aside (R u w')) :
  Calls Tryz.prog 24 #[.pointer (some ⟨tb,0,none⟩)] w fun e w'=>∃u,e=.returned u∧Aside (R u w'):=by
 have hl:=hT.lt
 have c2:=hT.cell 2
 simp at c2
 clear hT
 go_enter Tryz.func24,Tryz.ntmps24
 go_wp2_with fail
 refine hP.mono ?_
 rintro e w2 ⟨u,rfl,HR⟩
 clear hP
 go_wp2
 go_ret
 exact⟨u,rfl,HR⟩
set_option maxRecDepth 20000 in
theorem zoZ(tb gb n:Nat)(cv:Value)(q:Option Addr)(c:Nat)(w:World)(hT:Blk w tb (tlG cv gb) 107)(h16:w.cell? ⟨gb,16,none⟩=some (.slice q n c)) :
  Calls Tryz.prog 23 #[.pointer (some ⟨tb,0,none⟩)] w fun e w'=>e=.returned (.int .i64 (n:Int))∧w'=w:=by
 have c2:=hT.cell 2
 simp at c2
 clear hT
 go_enter Tryz.func23,Tryz.ntmps23
 go_wp2
 go_ret
 exact⟨rfl,rfl⟩
abbrev smC(tb:Nat)(rows:Int):Array Value:=#[.pointer (some ⟨tb,0,none⟩),.int .i64 rows]
set_option maxRecDepth 20000 in
theorem zoR(sb tb:Nat)(rows:Int)(vr:Value)(w:World)(R:Value→World→Prop)(hS:Blk w sb (smC tb rows) 71)(hr:0≤rows∧rows≤1000000)
  (hP:Calls Tryz.prog 21 #[.pointer (some ⟨tb,0,none⟩),vr] w fun e w'=>∃u,e=.returned (.tuple #[u,.nilIface])∧Aside (R u w'∧Blk w' sb (smC tb rows) 71)) :
  Calls Tryz.prog 6 #[.pointer (some ⟨sb,0,none⟩),vr] w fun e w'=>∃u,e=.returned (.tuple #[u,.nilIface])∧Aside (∃w1,R u w1∧Blk w1 sb (smC tb rows) 71∧w'=w1.setCell ⟨sb,1,none⟩ (.int .i64 (rows+1))):=by
 have c0:=hS.cell 0
 simp at c0
 have hw1:IntKind.i64.wrap (rows+1)=rows+1:=by rw[IntKind.wrap_i64];omega
 have hmx:rows<9223372036854775807:=by omega
 clear hS
 go_enter Tryz.func6,Tryz.ntmps6
 go_wp2_with fail
 refine hP.mono ?_
 rintro e w1 ⟨u,rfl,HR⟩
 have hb:=HR.out.2
 have d1:=hb.cell 1
 have f1:=hb.frozen 1
 simp at d1
 have HF:Aside (∃w2,R u w2∧Blk w2 sb (smC tb rows) 71∧w1.setCell ⟨sb,1,none⟩ (.int .i64 (rows+1))=w2.setCell ⟨sb,1,none⟩ (.int .i64 (rows+1))):=⟨w1,HR.out.1,hb,rfl⟩
 clear hP c0 hb HR
 go_wp2
 go_ret2
 exact⟨u,rfl,HF⟩
set_option maxRecDepth 20000 in
theorem zlU(sb tb:Nat)(rows:Int)(w:World)(R:Value→World→Prop)(hS:Blk w sb (smC tb rows) 71)
  (hP:Calls Tryz.prog 24 #[.pointer (some ⟨tb,0,none⟩)] (w.setCell ⟨sb,1,none⟩ (.int .i64 0)) fun e w'=>∃u,e=.returned u∧Aside (R u w')) :
  Calls Tryz.prog 10 #[.pointer (some ⟨sb,0,none⟩)] w fun e w'=>∃u,e=.returned u∧Aside (R u w'):=by
 have c0:=hS.cell 0
 have c1:=hS.cell 1
 have f1:=hS.frozen 1
 simp at c0 c1
 clear hS
 go_enter Tryz.func10,Tryz.ntmps10
 go_wp2_with fail
 refine hP.mono ?_
 rintro e w1 ⟨u,rfl,HR⟩
 clear hP
 go_wp2
 go_ret
 exact⟨u,rfl,HR⟩
set_option maxRecDepth 20000 in
theorem zoP(sb tb gb n:Nat)(rows:Int)(cv:Value)(q:Option Addr)(c:Nat)(w:World)(hS:Blk w sb (smC tb rows) 71)(hT:Blk w tb (tlG cv gb) 107)(h16:w.cell? ⟨gb,16,none⟩=some (.slice q n c)) :
  Calls Tryz.prog 9 #[.pointer (some ⟨sb,0,none⟩)] w fun e w'=>e=.returned (.int .i64 (n:Int))∧w'=w:=by
 have cO:=zoZ tb gb n cv q c w hT h16
 have c0:=hS.cell 0
 simp at c0
 clear hS hT h16
 go_enter Tryz.func9,Tryz.ntmps9
 go_wp2_with fail
 refine cO.mono ?_
 rintro e w2 ⟨rfl,rfl⟩
 clear cO
 go_wp2
 go_ret
 exact⟨rfl,rfl⟩
end
end Go.Proofs.YtopghagjmdbglaaGreatDoor
