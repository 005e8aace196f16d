/-
  GmA, GnW, GwF, GmB, TlW.
-/
import Derived.Test.YtbdnccnfidjiaaaGreatDoorGyAx
import Derived.Test.YtbdnccnfidjiaaaGreatDoorGyAi
import Derived.Test.YtbdnccnfidjiaaaGreatDoorGyAz
import Derived.Test.YtbdnccnfidjiaaaGreatDoorGyAy
import Derived.Deep.RegionWith
import Derived.Deep.LoopGhost
import Derived.Deep.QuietTactic
import Derived.Test.YtbdnccnfidjiaaaGreatDoorGyBa
namespace Go.Proofs.YtbdnccnfidjiaaaGreatDoor
open Go.RowKit
set_option linter.unusedVariables false
set_option linter.unusedSimpArgs false
set_option maxHeartbeats 8000000
structure Gm where
 z:Nat
 key:List V3
 a:Nat
 v:Value
 rs:List (List V3)
structure Wm where
 z:Nat
 fr:Int
 gv:Value
 gs:List Gm
def Gm.p(g:Gm):Value:=.pointer (some ⟨g.z,0,none⟩)
def Wm.p(x:Wm):Value:=.pointer (some ⟨x.z,0,none⟩)
def Gm.S(g:Gm)(k:Nat):Prop:=accS g.a g.v k
def Wm.S(x:Wm)(k:Nat):Prop:=k=x.z∨x.gv.ownBlock=some k∨∃g∈x.gs,g.S k
def MutS(W:World)(S:Nat→Prop):Prop:=∀k cs t fr,S k→W.heap[k]?=some (.cells cs t fr)→t≠262∧t≠28∧t≠254
theorem MutS.no{W:World}:MutS W (fun _=>False):=fun _ _ _ _ h=>h.elim
theorem MutS.blk{W:World}{S:Nat→Prop}(h:MutS W S){b:Nat}{cs:Array Value}{t:TypeId}(hb:Blk W b cs t)(ht:t=262∨t=28∨t=254):¬S b:=fun hs=>by
 obtain⟨h1,h2,h3⟩:=h b cs t (0,0) hs hb
 rcases ht with h|h|h
 ·exact h1 h
 ·exact h2 h
 ·exact h3 h
theorem MutS.one{W:World}{b:Nat}{cs:Array Value}{t:TypeId}(hb:Blk W b cs t)(ht:t≠262∧t≠28∧t≠254):MutS W (·=b):=by
 intro k c t' fr hk hc
 have hk:k=b:=hk
 subst hk
 unfold Blk at hb
 rw[hb] at hc
 injection hc with hc
 injection hc with _ e _
 subst e
 exact ht
theorem MutS.or{W:World}{S T:Nat→Prop}(h:MutS W S)(k:MutS W T):MutS W (fun i=>S i∨T i):=fun i cs t fr hi hc=>hi.elim (fun e=>h i cs t fr e hc) (fun e=>k i cs t fr e hc)
theorem MutS.mono{W:World}{S T:Nat→Prop}(h:MutS W S)(hs:∀k,T k→S k):MutS W T:=fun i cs t fr hi hc=>h i cs t fr (hs i hi) hc
theorem zdh{W:World}{B n size:Nat}{e:TypeId}{v:Value}{xs:List Value}(h:W.ownsRow B e size v n xs)(ht:e≠262∧e≠28∧e≠254):MutS W (fun k=>v.ownBlock=some k):=by
 intro k c t' fr hk hc
 rcases h.2 with ⟨e1,-⟩|⟨g,cap,cur,e1,-,hg,-⟩
 ·rw[e1] at hk;simp[Value.ownBlock] at hk
 ·rw[e1] at hk
  have hk:g=k:=by simpa [Value.ownBlock] using hk
  subst hk
  rw[hg] at hc
  injection hc with hc
  injection hc with _ e _
  subst e
  exact ht
theorem zfH{w w':World}{S:Nat→Prop}{B n size:Nat}{e:TypeId}{v:Value}{xs:List Value}(h:w.ownsRow B e size v n xs)(hk:Kp S w w')(hs:∀k,v.ownBlock=some k→¬S k):w'.ownsRow B e size v n xs:=by
 refine⟨h.1,?_⟩
 rcases h.2 with hn|⟨g,cap,cur,rfl,h1,hgg,rest⟩
 ·exact .inl hn
 ·exact .inr ⟨g,cap,cur,rfl,h1,by rw[hk.kept g (Array.getElem?_eq_some_iff.1 hgg).1 (hs g rfl)];exact hgg,rest⟩
theorem zfG{B B' n size:Nat}{w:World}{e:TypeId}{v:Value}{xs:List Value}(h:w.ownsRow B e size v n xs)(hb:B'≤B):w.ownsRow B' e size v n xs :=
 ⟨h.1,h.2.imp id (fun ⟨g,cap,cur,e,hbg,r⟩=>⟨g,cap,cur,e,Nat.le_trans hb hbg,r⟩)⟩
theorem zdi{w:World}{B k size:Nat}{e:TypeId}{v:Value}{xs:List Value}(h:w.ownsRow B e size v (k+1) xs):∃g cap,v=.slice (some ⟨g,0,none⟩) (k+1) cap:=by
 rcases h.2 with ⟨_,h0⟩|⟨g,cap,cur,e,-⟩
 ·omega
 ·exact⟨g,cap,e⟩
theorem zdA{w:World}{B n size:Nat}{e:TypeId}{v:Value}{xs:List Value}(h:w.ownsRow B e size v n xs):∀k,v.ownBlock=some k→B≤k∧k<w.heap.size:=fun k hk=>World.ownsRow.lt h k hk
theorem zno{w:World}{S:Nat→Prop}{B n size:Nat}{v:Value}{xs:List Value}(h:w.ownsRow B 28 size v n xs)(hm:MutS w S):∀k,v.ownBlock=some k→¬S k:=fun k hk hs=>by
 rcases h.2 with ⟨e1,-⟩|⟨g,cap,cur,e1,-,hg,-⟩
 ·rw[e1] at hk;simp[Value.ownBlock] at hk
 ·rw[e1] at hk
  have hk:g=k:=by simpa [Value.ownBlock] using hk
  subst hk
  exact (hm g cur _ (0,0) hs hg).2.1 rfl
structure GmAt(w:World)(base:Nat)(ps0:List Pt)(g:Gm):Prop where
 blk:∃kv,Blk w g.z #[kv,.pointer (some ⟨g.a,0,none⟩)] 254∧w.ownsRow base 28 3 kv g.key.length (zao g.key)
 acc:AcAt w g.a g.v ps0 g.rs
 low:∀k,g.S k→base≤k
theorem AcAt.mut{W:World}{a:Nat}{v:Value}{ps0:List Pt}{rs:List (List V3)}(h:AcAt W a v ps0 rs):MutS W (accS a v):=by
 obtain⟨ps,h,-⟩:=h
 have h1:MutS W (·=a):=MutS.one h.blk (by decide)
 rcases h.pts with ⟨-,rfl⟩|⟨g,c,cur,rfl,hp⟩
 ·exact h1.mono fun k hk=>hk.resolve_right (by simp[Value.ownBlock])
 ·exact (h1.or (MutS.one hp.blk (by decide))).mono fun k hk=>hk.imp id (fun e=>by
   have:g=k:=by simpa [Value.ownBlock] using e
   exact this.symm)
theorem AcAt.ty{W:World}{a:Nat}{v:Value}{ps0:List Pt}{rs:List (List V3)}(h:AcAt W a v ps0 rs){k:Nat}(hk:accS a v k):∃cs t,Blk W k cs t∧(t=284∨t=292):=by
 obtain⟨ps,h,-⟩:=h
 rcases hk with rfl|hk
 ·exact⟨_,_,h.blk,.inl rfl⟩
 ·rcases h.pts with ⟨-,rfl⟩|⟨g,c,cur,rfl,hp⟩
  ·simp[Value.ownBlock] at hk
  ·have:g=k:=by simpa [Value.ownBlock] using hk
   subst this
   exact⟨_,_,hp.blk,.inr rfl⟩
theorem AcAt.notblk{W:World}{a b:Nat}{v:Value}{ps0:List Pt}{rs:List (List V3)}{cs:Array Value}{t:TypeId}(h:AcAt W a v ps0 rs)(hb:Blk W b cs t)(ht:t≠284∧t≠292):¬accS a v b:=fun hk=>by
 obtain⟨ds,u,h1,h2⟩:=h.ty hk
 exact zfa hb h1 (by rcases h2 with rfl|rfl;exact ht.1;exact ht.2) rfl
theorem AcAt.notown{W:World}{a B n size:Nat}{v u:Value}{ps0:List Pt}{rs:List (List V3)}{e:TypeId}{xs:List Value}(h:AcAt W a v ps0 rs)(ho:W.ownsRow B e size u n xs)(ht:e≠284∧e≠292){k:Nat}(hu:u.ownBlock=some k):¬accS a v k:=by
 rcases ho.2 with ⟨e1,-⟩|⟨g,cap,cur,e1,-,hg,-⟩
 ·rw[e1] at hu;simp[Value.ownBlock] at hu
 ·rw[e1] at hu
  have hk:g=k:=by simpa [Value.ownBlock] using hu
  subst hk
  exact h.notblk (show Blk W g cur e from hg) ht
theorem AcAt.kp{w w':World}{S:Nat→Prop}{a:Nat}{v:Value}{ps0:List Pt}{rs:List (List V3)}(h:AcAt w a v ps0 rs)(hk:Kp S w w')(hm:MutS w S)(hS:∀k,accS a v k→¬S k):AcAt w' a v ps0 rs:=by
 obtain⟨ps,h3,h4⟩:=h
 exact⟨ps,h3.keep hk hS (fun k cs hs hc=>(hm k cs _ _ hs hc).1 rfl),h4⟩
theorem GmAt.kp{w w':World}{S:Nat→Prop}{base:Nat}{ps0:List Pt}{g:Gm}(h:GmAt w base ps0 g)(hk:Kp S w w')(hm:MutS w S)(hS:∀k,g.S k→¬S k):GmAt w' base ps0 g:=by
 obtain⟨⟨kv,h1,h2⟩,⟨ps,h3,h4⟩,h5⟩:=h
 refine⟨⟨kv,h1.kp hk (hm.blk h1 (by decide)),zfH h2 hk (zno h2 hm)⟩,⟨ps,h3.keep hk hS (fun k cs hs hc=>(hm k cs _ _ hs hc).1 rfl),h4⟩,h5⟩
theorem GmAt.on{w w':World}{base:Nat}{ps0:List Pt}{g:Gm}(h:GmAt w base ps0 g)(hb:Below w.heap.size w w'):GmAt w' base ps0 g:=h.kp (Kp.of_below (S:=fun _=>False) hb) MutS.no (fun _ _ h=>h)
structure WmAt(w:World)(base:Nat)(ps0:List Pt)(x:Wm):Prop where
 blk:Blk w x.z #[.int .i64 x.fr,x.gv] 177
 row:w.ownsRow base 249 1 x.gv x.gs.length (x.gs.map Gm.p)
 gp:∀g∈x.gs,GmAt w base ps0 g
 dj:x.gs.Pairwise fun g h=>∀k,g.S k→¬h.S k
 low:base≤x.z
theorem WmAt.mut{w:World}{base:Nat}{ps0:List Pt}{x:Wm}(h:WmAt w base ps0 x):MutS w x.S:=by
 refine (((MutS.one h.blk (by decide)).or (zdh h.row (by decide))).or (T:=fun k=>∃g∈x.gs,g.S k) (fun k cs t fr hk hc=>?_)).mono fun k hk=>?_
 ·obtain⟨g,hg,hs⟩:=hk
  exact (h.gp g hg).acc.mut k cs t fr hs hc
 ·rcases hk with h|h|h
  ·exact .inl (.inl h)
  ·exact .inl (.inr h)
  ·exact .inr h
theorem WmAt.lt{w:World}{base:Nat}{ps0:List Pt}{x:Wm}(h:WmAt w base ps0 x):∀k,x.S k→base≤k∧k<w.heap.size:=by
 intro k hk
 rcases hk with rfl|hk|⟨g,hg,hs⟩
 ·exact⟨h.low,h.blk.lt⟩
 ·exact zdA h.row k hk
 ·exact⟨(h.gp g hg).low k hs,(h.gp g hg).acc.lt k hs⟩
theorem WmAt.kp{w w':World}{S:Nat→Prop}{base:Nat}{ps0:List Pt}{x:Wm}(h:WmAt w base ps0 x)(hk:Kp S w w')(hm:MutS w S)(hS:∀k,x.S k→¬S k):WmAt w' base ps0 x :=
 ⟨h.blk.kp hk (hS _ (.inl rfl)),zfH h.row hk (fun k e=>hS k (.inr (.inl e))),fun g hg=>(h.gp g hg).kp hk hm (fun k hs=>hS k (.inr (.inr ⟨g,hg,hs⟩))),h.dj,h.low⟩
theorem WmAt.on{w w':World}{base:Nat}{ps0:List Pt}{x:Wm}(h:WmAt w base ps0 x)(hb:Below w.heap.size w w'):WmAt w' base ps0 x:=h.kp (Kp.of_below (S:=fun _=>False) hb) MutS.no (fun _ _ h=>h)
structure Gs where
 SC:Array Value
 at_:Int
 pv:Value
 av:Value
 tv:Value
 size:Int
 slide:Int
structure GrC(s:Gs)(last:Int)(ov:Value)(C:Array Value):Prop where
 size:C.size=17
 sv:s.SC.size=9∧∀(j:Nat) (v:Value),s.SC[j]?=some v→C[j]?=some v
 c9:C[9]?=some (.int .i64 s.at_)
 c10:C[10]?=some s.pv
 c11:C[11]?=some s.av
 c12:C[12]?=some s.tv
 c13:C[13]?=some (.int .i64 s.size)
 c14:C[14]?=some (.int .i64 s.slide)
 c15:C[15]?=some (.int .i64 last)
 c16:C[16]?=some ov
theorem GrC.last{s:Gs}{l l':Int}{ov:Value}{C:Array Value}(h:GrC s l ov C):GrC s l' ov (C.setIfInBounds 15 (.int .i64 l')):=by
 obtain⟨h0,h1,h9,h10,h11,h12,h13,h14,h15,h16⟩:=h
 refine⟨by simpa using h0,⟨h1.1,fun j v hj=>?_⟩,?_,?_,?_,?_,?_,?_,?_,?_⟩
 ·have:j<9:=by rw[←h1.1];exact (Array.getElem?_eq_some_iff.1 hj).1
  rw[Array.getElem?_setIfInBounds_ne (by omega)];exact h1.2 j v hj
 all_goals first
  | (rw[Array.getElem?_setIfInBounds_ne (by omega)];assumption)
  | (rw[Array.getElem?_setIfInBounds_self,if_pos (by omega)])
theorem GrC.opens{s:Gs}{l:Int}{ov ov':Value}{C:Array Value}(h:GrC s l ov C):GrC s l ov' (C.setIfInBounds 16 ov'):=by
 obtain⟨h0,h1,h9,h10,h11,h12,h13,h14,h15,h16⟩:=h
 refine⟨by simpa using h0,⟨h1.1,fun j v hj=>?_⟩,?_,?_,?_,?_,?_,?_,?_,?_⟩
 ·have:j<9:=by rw[←h1.1];exact (Array.getElem?_eq_some_iff.1 hj).1
  rw[Array.getElem?_setIfInBounds_ne (by omega)];exact h1.2 j v hj
 all_goals first
  | (rw[Array.getElem?_setIfInBounds_ne (by omega)];assumption)
  | (rw[Array.getElem?_setIfInBounds_self,if_pos (by omega)])
structure GrAt(w:World)(base:Nat)(ps0:List Pt)(gb:Nat)(s:Gs)(last:Int)(ov:Value)(xs:List Wm):Prop where
 blk:∃C,Blk w gb C 141∧GrC s last ov C
 row:w.ownsRow base 147 1 ov xs.length (xs.map Wm.p)
 wm:∀x∈xs,WmAt w base ps0 x
 dj:xs.Pairwise fun x y=>∀k,x.S k→¬y.S k
 lt:gb<base
def GrS(gb:Nat)(ov:Value)(xs:List Wm)(k:Nat):Prop:=k=gb∨ov.ownBlock=some k∨∃x∈xs,x.S k
theorem GrAt.in_{w:World}{base:Nat}{ps0:List Pt}{gb:Nat}{s:Gs}{last:Int}{ov:Value}{xs:List Wm}(h:GrAt w base ps0 gb s last ov xs):∀k,GrS gb ov xs k→k=gb∨(base≤k∧k<w.heap.size):=by
 intro k hk
 rcases hk with rfl|hk|⟨x,hx,hs⟩
 ·exact .inl rfl
 ·exact .inr (zdA h.row k hk)
 ·exact .inr ((h.wm x hx).lt k hs)
theorem GrAt.kp{w w':World}{S:Nat→Prop}{base:Nat}{ps0:List Pt}{gb:Nat}{s:Gs}{last:Int}{ov:Value}{xs:List Wm}(h:GrAt w base ps0 gb s last ov xs)(hk:Kp S w w')(hm:MutS w S)(hS:∀k,GrS gb ov xs k→¬S k):GrAt w' base ps0 gb s last ov xs:=by
 obtain⟨C,h1,h2⟩:=h.blk
 exact⟨⟨C,h1.kp hk (hS _ (.inl rfl)),h2⟩,zfH h.row hk (fun k e=>hS k (.inr (.inl e))),fun g hg=>(h.wm g hg).kp hk hm (fun k hs=>hS k (.inr (.inr ⟨g,hg,hs⟩))),h.dj,h.lt⟩
theorem GrAt.on{w w':World}{base:Nat}{ps0:List Pt}{gb:Nat}{s:Gs}{last:Int}{ov:Value}{xs:List Wm}(h:GrAt w base ps0 gb s last ov xs)(hb:Below w.heap.size w w'):GrAt w' base ps0 gb s last ov xs:=h.kp (Kp.of_below (S:=fun _=>False) hb) MutS.no (fun _ _ h=>h)
structure Bts(S0:Nat→Prop)(gb:Nat)(W1 w:World):Prop where
 kp:Kp S0 W1 w
 own:S0 gb
 low:∀k,S0 k→k≤gb∨W1.heap.size≤k
theorem Bts.size{S0:Nat→Prop}{gb:Nat}{W1 w:World}(h:Bts S0 gb W1 w):W1.heap.size≤w.heap.size:=h.kp.size
theorem Bts.on{S0:Nat→Prop}{gb:Nat}{W1 w w':World}(h:Bts S0 gb W1 w)(hb:Below w.heap.size w w'):Bts S0 gb W1 w':=⟨h.kp.on hb,h.own,h.low⟩
theorem Bts.keepB{S0:Nat→Prop}{gb:Nat}{W1 w:World}(h:Bts S0 gb W1 w):KeepB (gb+1) W1 w:=⟨h.size,fun b h1 h2=>h.kp.kept b h2 (fun hs=>by have:=h.low b hs;omega)⟩
theorem GrAt.but{w w' W1:World}{S S0:Nat→Prop}{gb:Nat}(hb:Bts S0 gb W1 w)(hk:Kp S w w')(hs:∀k,S k→k=gb∨W1.heap.size≤k)(hg:gb<W1.heap.size):Bts S0 gb W1 w' :=
 ⟨⟨hb.kp.low.trans hk.low,fun k h1 h2=>by rw[hk.kept k (by have:=hb.size;omega) (fun h=>by rcases hs k h with rfl|h;exact h2 hb.own;omega),hb.kp.kept k h1 h2]⟩,hb.own,hb.low⟩
section
open Go.BigFrame
def zsH(sb base:Nat)(fr:Int)(gq:Option Addr)(n gc k:Nat)(xs:List Value)(ps0:List Pt)(ls:List V3)(gz:Nat)(w w':World):Prop:=∃a v q' c' kv,
   Aside (Blk w' sb #[.int .i64 fr,.slice q' (n+1) c'] 177∧w'.ownsRow base 249 1 (.slice q' (n+1) c') (n+1) (xs.take k++.pointer (some ⟨gz,0,none⟩)::xs.drop k) ∧
    Blk w' gz #[kv,.pointer (some ⟨a,0,none⟩)] 254∧w'.ownsRow base 28 3 kv ls.length (zao ls)∧AcAt w' a v ps0 []∧(∀k,accS a v k→w.heap.size≤k)∧w.heap.size≤gz) ∧
   Aside (Kp (fun k=>k=sb∨(Value.slice gq n gc).ownBlock=some k) w w')∧Aside ((Value.slice q' (n+1) c').ownBlock=(Value.slice gq n gc).ownBlock∨∃g,(Value.slice q' (n+1) c').ownBlock=some g∧w.heap.size≤g)
set_option maxRecDepth 20000 in
theorem zif(sb base:Nat)(fr:Int)(gq:Option Addr)(n gc k:Nat)(xs:List Value)(ps0:List Pt)(q2:Option Addr)(c2:Nat)(ls:List V3)(av tv:Value)(w:World)
  (hS:Blk w sb #[.int .i64 fr,.slice gq n gc] 177)(hown:w.ownsRow base 249 1 (.slice gq n gc) n xs)(hx1:∀x∈xs,x.oneCell'=true)(hk:k≤n)(hn:n≤1000)(hbase:base≤w.heap.size)(h2:zaf w q2 ls)(hl:ls.length≤1000)(hs2:∀v∈ls,v.2.2.size≤281474976710656)
  (hF:Calls Tryz.prog 170 #[.pointer (some ⟨sb,0,none⟩),.slice q2 ls.length c2] w fun e w'=>e=.returned (.tuple #[.int .i64 (k:Int),.bool false])∧Below w.heap.size w w')
  (hN:∀W,Below w.heap.size w W→Calls Tryz.prog 195 #[av,tv] W fun e w'=>∃a v,e=.returned (.tuple #[.pointer (some ⟨a,0,none⟩),.nilIface])∧Aside (AcAt w' a v ps0 []∧(∀k,accS a v k→W.heap.size≤k))∧Below W.heap.size W w') :
  Calls Tryz.prog 173 #[.pointer (some ⟨sb,0,none⟩),.slice q2 ls.length c2,av,tv] w fun e w'=>∃gz,e=.returned (.tuple #[.pointer (some ⟨gz,0,none⟩),.nilIface])∧zsH sb base fr gq n gc k xs ps0 ls gz w w':=by
 have hsl:=hS.lt
 have hne0:(Value.slice gq n gc).ownBlock≠some sb:=fun e=>by
  rcases hown.2 with ⟨e1,-⟩|⟨g,cap,cur,e1,-,hg,-⟩
  ·rw[e1] at e;simp[Value.ownBlock] at e
  ·rw[e1] at e
   have e:g=sb:=by simpa [Value.ownBlock] using e
   subst e
   exact zfa (show Blk w g cur _ from hg) hS (by decide) rfl
 have hown0:=zdA hown
 have hI:=fun (W:World) (hb:Below w.heap.size w W) (z ge:Nat) (hge:Blk W ge #[.pointer (some ⟨z,0,none⟩)] 249) (hg0:w.heap.size≤ge) =>
  zig base gq n gc k xs ge (.pointer (some ⟨z,0,none⟩)) W (zac hown hb) hx1 hge (fun h=>by have:=(hown0 _ h).2;omega) rfl hk (by omega) (by have:=hb.size;omega)
 have hFr:=fun W (hb:Below w.heap.size w W)=>zfo q2 c2 ls W (by omega) (h2.on hb) hs2
 have hg1:∀W,Below w.heap.size w W→W.cell? ⟨sb,1,none⟩=some (.slice gq n gc):=fun W hb=>by rw[hb.cell (p:=⟨sb,1,none⟩) hsl];exact hS.cell 1
 have hSW:∀W,Below w.heap.size w W→Blk W sb #[.int .i64 fr,.slice gq n gc] 177:=fun W hb=>hS.on hb
 have hI2:=fun (W:World) (hb:Below w.heap.size w W) (o1:Obj)=>hI ((W.alloc o1).alloc (.cells #[.pointer (some ⟨W.heap.size,0,none⟩)] 249)) ((hb.alloc hb.size o1).alloc (by have:=hb.size;simp;omega) _) W.heap.size (W.heap.size+1) (by have:=zab (W.alloc o1) #[.pointer (some ⟨W.heap.size,0,none⟩)] 249;simpa using this) (by have:=hb.size;omega)
 have HI:Aside _:=hI2
 have HOWN:Aside _:=hown
 have hg4:∀W,Below w.heap.size w W→(∀o1:Obj,(W.alloc o1).cell? ⟨sb,1,none⟩=some (.slice gq n gc))∧(∀o1 o2:Obj,((W.alloc o1).alloc o2).cell? ⟨sb,1,none⟩=some (.slice gq n gc)):=fun W hb=>⟨fun o1=>hg1 _ (hb.alloc hb.size o1),fun o1 o2=>hg1 _ ((hb.alloc hb.size o1).alloc (Nat.le_trans hb.size (by simp)) o2)⟩
 have HG4:Aside _:=hg4
 have HG:Aside _:=hg1
 have HSW:Aside _:=hSW
 have hkz:(k:Int)≤(n:Int):=by omega
 have hk0:(0:Int)≤(k:Int):=by omega
 have hkn:(k:Int)<((n+1:Nat):Int):=by omega
 clear hI hI2 hg4 hg1 hSW hown h2 hs2 hx1 hS
 obtain⟨m,hm⟩:∃m,ls.length=m:=⟨_,rfl⟩
 have HM:Hid (ls.length=m):=hm
 rw[hm] at hF hFr hl ⊢
 clear hm
 go_enter Tryz.func173,Tryz.ntmps173
 go_wp2_with fail
 refine hF.mono ?_
 rintro e w1 ⟨rfl,B1⟩
 have hN1:=hN w1 B1
 clear hF hN
 go_wp2_with fail
 refine hN1.mono ?_
 rintro e w2 ⟨a,v,rfl,HA,b2⟩
 have B2:Below w.heap.size w w2:=B1.trans (b2.mono B1.size)
 have hsz2:=B2.size
 have hg2:=HG.out w2 B2
 have HA2:Aside (AcAt w2 a v ps0 []∧∀k,accS a v k→w.heap.size≤k):=⟨HA.out.1,fun k hk=>by have:=HA.out.2 k hk;have:=B1.size;omega⟩
 clear hN1 B1 HA b2
 go_wp2_with fail
 go_region_with (first
  | (go_at_call 197;refine (hFr _ (Below.drew B2)).mono ?_;rintro e w3 ⟨⟨kv,rfl,HK3⟩,b3⟩;have B3:Below w.heap.size w w3:=(Below.drew B2).trans (b3.mono hsz2);have HB3:Aside _:=B3;have HA3:Aside (AcAt w3 a v ps0 []):=HA2.out.1.on (Below.drew (Below.refl _ _) |>.trans b3);have hg3:=HG.out w3 B3;obtain⟨kq,kc,rfl⟩:=zaa HK3.out;have hs3:=B3.size;have hl3:sb<w3.heap.size:=Nat.lt_of_lt_of_le hsl hs3;have hg4:=(HG4.out w3 B3).1;have hg5:=(HG4.out w3 B3).2;clear b3)
  | (go_at_call 196;refine (HI.out w3 B3 _).mono ?_;rintro r w5 ⟨q',c',rfl,HO,HK,HB⟩;have BI:Below w.heap.size w ((w3.alloc (.cells #[.slice kq m kc,.pointer (some ⟨a,0,none⟩)] 254)).alloc (.cells #[.pointer (some ⟨w3.heap.size,0,none⟩)] 249)):=(B3.alloc hs3 _).alloc (by simp;omega) _;have hS5:Aside (Blk w5 sb #[.int .i64 fr,.slice gq n gc] 177):=(HSW.out _ BI).kp HK.out hne0;have c5:=hS5.out.cell 1;have f5:=hS5.out.frozen 1;simp at c5))
 all_goals
  have hlow:∀i,(i=sb∨(Value.slice gq n gc).ownBlock=some i)→i<w.heap.size:=fun i hi=>hi.elim (fun e=>by omega) (fun e=>(hown0 i e).2)
  have K5:Kp (fun i=>i=sb∨(Value.slice gq n gc).ownBlock=some i) ((w3.alloc (.cells #[.slice kq m kc,.pointer (some ⟨a,0,none⟩)] 254)).alloc (.cells #[.pointer (some ⟨w3.heap.size,0,none⟩)] 249)) (w5.setCell ⟨sb,1,none⟩ (.slice q' (n+1) c')):=(HK.out.mono (fun _ _ h=>.inr h)).set 1 _ (fun _=>.inl rfl)
  have hM:MutS ((w3.alloc (.cells #[.slice kq m kc,.pointer (some ⟨a,0,none⟩)] 254)).alloc (.cells #[.pointer (some ⟨w3.heap.size,0,none⟩)] 249)) (fun i=>i=sb∨(Value.slice gq n gc).ownBlock=some i):=(MutS.one (HSW.out _ BI) (by decide)).or (zdh (zac HOWN.out BI) (by decide))
  have bW:Below w3.heap.size w3 ((w3.alloc (.cells #[.slice kq m kc,.pointer (some ⟨a,0,none⟩)] 254)).alloc (.cells #[.pointer (some ⟨w3.heap.size,0,none⟩)] 249)):=(alB w3 _).alloc (by simp) _
  have eG:Blk ((w3.alloc (.cells #[.slice kq m kc,.pointer (some ⟨a,0,none⟩)] 254)).alloc (.cells #[.pointer (some ⟨w3.heap.size,0,none⟩)] 249)) w3.heap.size #[.slice kq m kc,.pointer (some ⟨a,0,none⟩)] 254:=(zab _ _ _).on (alB _ _)
  have fG:Aside (Blk (w5.setCell ⟨sb,1,none⟩ (.slice q' (n+1) c')) w3.heap.size #[.slice kq m kc,.pointer (some ⟨a,0,none⟩)] 254):=eG.kp K5 (fun h=>by have:=hlow _ h;omega)
  have fS0:Blk (w5.setCell ⟨sb,1,none⟩ (.slice q' (n+1) c')) sb #[.int .i64 fr,.slice q' (n+1) c'] 177:=by
   have:=hS5.out.set 1 (.slice q' (n+1) c')
   simpa using this
  have fS:Aside (Blk (w5.setCell ⟨sb,1,none⟩ (.slice q' (n+1) c')) sb #[.int .i64 fr,.slice q' (n+1) c'] 177):=fS0
  have hq:(Value.slice q' (n+1) c').ownBlock≠some sb:=fun e=>by
   rcases HB.out with h|h
   ·exact hne0 (h.symm.trans e)
   ·rw[h] at e
    injection e with e
    simp at e
    omega
  have fO:Aside ((w5.setCell ⟨sb,1,none⟩ (.slice q' (n+1) c')).ownsRow base 249 1 (.slice q' (n+1) c') (n+1) (xs.take k++.pointer (some ⟨w3.heap.size,0,none⟩)::xs.drop k)):=ownsRow_setCell_other HO.out (a:=⟨sb,1,none⟩) hq (.slice q' (n+1) c')
  have fK:Aside ((w5.setCell ⟨sb,1,none⟩ (.slice q' (n+1) c')).ownsRow base 28 3 (.slice kq m kc) m (zao ls)):=zfH (zac (zfG HK3.out (show base≤_ by have:=HB3.out.size;simp;omega)) bW) K5 (fun k h1 h2=>by have h3:=(zdA HK3.out k h1).1;have:=hlow _ h2;simp at h3;omega)
  have fA:Aside (AcAt (w5.setCell ⟨sb,1,none⟩ (.slice q' (n+1) c')) a v ps0 []):=(HA3.on bW).kp K5 hM (fun i h1 h2=>by have:=HA2.out.2 i h1;have:=hlow _ h2;omega)
  have fKp:Aside (Kp (fun i=>i=sb∨(Value.slice gq n gc).ownBlock=some i) w (w5.setCell ⟨sb,1,none⟩ (.slice q' (n+1) c'))):=(Kp.of_below BI).trans K5
  have fB:Aside ((Value.slice q' (n+1) c').ownBlock=(Value.slice gq n gc).ownBlock∨∃g,(Value.slice q' (n+1) c').ownBlock=some g∧w.heap.size≤g):=HB.out.imp id (fun h=>⟨_,h,by have:=BI.size;exact this⟩)
  have hAc:Aside (∀k,accS a v k→w.heap.size≤k):=HA2.out.2
  obtain⟨g',cap,e⟩:=zdi fO.out
  injection e with e1 _ e3
  subst e1
  subst e3
  have hkc:(xs.take k++Value.pointer (some ⟨w3.heap.size,0,none⟩)::xs.drop k)[k]?=some (Value.pointer (some ⟨w3.heap.size,0,none⟩)):=by
   have hxl:xs.length=n:=by have:=HOWN.out.1;omega
   rw[List.getElem?_append_right (by rw[List.length_take];omega),List.length_take,show k-min k xs.length=0 by omega]
   rfl
  have fcell:=World.ownsRow.cells fO.out (g:=g') rfl k _ hkc
  rw[Go.WideShapes.add_plain,Nat.zero_add] at fcell
  have fc1:=Blk.cell fS.out 1
  simp at fc1
  generalize hWF:w5.setCell ⟨sb,1,none⟩ (.slice (some ⟨g',0,none⟩) (n+1) c')=WF at *
  generalize hgz:w3.heap.size=gz at *
  clear hWF hg2 hg3 hg4 hg5 c5 f5 K5 hM bW eG hq hkc hS5 HO HK HB HA3 HB3 HK3 BI B3 fS0 HI HG HG4 HSW HOWN
  clear hgz HA2 B2 hsz2 hown0 hl3
  go_wp2
  go_ret2
  exact⟨gz,rfl,⟨a,v,some ⟨g',0,none⟩,c',_,(show Aside _ from ⟨fS.out,fO.out,fG.out,by rw[HM.out];exact fK.out,fA.out,hAc.out,hs3⟩),fKp,fB⟩⟩
end
def Gm.pl(g:Gm):PG:=(g.key,g.rs)
def Wm.pl(x:Wm):PW:=(x.fr,x.gs.map Gm.pl)
theorem OkK.len:∀{ts:List Int} {l:List V3},OkK ts l→l.length=ts.length
 | [],[],_=>rfl
 | t::ts,v::vs,h=>by rw[List.length_cons,List.length_cons,OkK.len h.2]
 | [],_::_,h=>h.elim
 | _::_,[],h=>h.elim
theorem OkK.small:∀{ts:List Int} {l:List V3},OkK ts l→∀v∈l,v.2.2.size≤40
 | [],[],_=>fun v h=>by cases h
 | t::ts,v::vs,h=>fun u hu=>by
  rcases List.mem_cons.1 hu with rfl|hu
  ·have:=zcQ h.1.2;simpa using this
  ·exact OkK.small h.2 u hu
 | [],_::_,h=>h.elim
 | _::_,[],h=>h.elim
def dgm:Gm:=⟨0,[],0,.nilIface,[]⟩
def hdZ(ls:List V3):List Gm→Bool
 | []=>false
 | g::_=>keyC g.key ls == 0
theorem zbd{α:Type}{l:List α}{d:α}{j:Nat}(h:j<l.length):l.getD j d=l[j]:=by rw[List.getD_eq_getElem?_getD,List.getElem?_eq_getElem h];rfl
theorem zbe{α:Type}{l:List α}{d:α}{j:Nat}(h:j<l.length):l.getD j d∈l:=by rw[zbd h];exact List.getElem_mem h
theorem WmAt.keys{w:World}{base:Nat}{ps0:List Pt}{x:Wm}(h:WmAt w base ps0 x){kt:List Int}(hk:∀g∈x.gs,OkK kt g.key)(hn:x.gs.length≤1000)(hm:kt.length≤1000){g c:Nat}(hg:x.gv=.slice (some ⟨g,0,none⟩) x.gs.length c):zlv w g x.gs.length kt.length (fun j=>(x.gs.getD j dgm).z) (fun j=>(x.gs.getD j dgm).key):=by
 have hrow:=h.row
 rw[hg] at hrow
 refine⟨(zdA hrow g rfl).2,by omega,by omega,fun j hj=>?_,fun j hj=>?_,fun j hj v hv=>?_⟩
 ·have:=World.ownsRow.cells hrow (g:=g) rfl j (x.gs.getD j dgm).p (by rw[List.getElem?_map,List.getElem?_eq_getElem hj,zbd hj];rfl)
  rw[Go.WideShapes.add_plain,Nat.zero_add] at this
  exact this
 ·have hmem:=zbe (d:=dgm) hj
  generalize x.gs.getD j dgm=y at hmem ⊢
  obtain⟨kv,h1,h2⟩:=(h.gp y hmem).blk
  obtain⟨q,c,rfl⟩:=zaa h2
  have hl:=(hk y hmem).len
  refine⟨hl,q,c,?_,zdL rfl h2⟩
  have:=h1.cell 0
  rw[←hl]
  simpa using this
 ·have:=(hk _ (zbe (d:=dgm) hj)).small v hv
  unfold maxLen;omega
theorem zgU{l1 l2 gs:List Gm}{ls:List V3}(hs:gs=l1++l2)(h1:∀g∈l1,keyC g.key ls<0)(h2:∀g∈l2,0≤keyC g.key ls):(∀j,j<l1.length→keyC (gs.getD j dgm).key ls<0)∧(∀j,l1.length≤j→j<gs.length→0≤keyC (gs.getD j dgm).key ls)∧(decide (l1.length<gs.length)&&(keyC (gs.getD l1.length dgm).key ls == 0))=hdZ ls l2:=by
 subst hs
 refine⟨fun j hj=>?_,fun j h3 h4=>?_,?_⟩
 ·have e:(l1++l2).getD j dgm=l1[j]:=by rw[List.getD_eq_getElem?_getD,List.getElem?_append_left hj,List.getElem?_eq_getElem hj];rfl
  rw[e];exact h1 _ (List.getElem_mem _)
 ·have h5:j-l1.length<l2.length:=by rw[List.length_append] at h4;omega
  have e:(l1++l2).getD j dgm=l2[j-l1.length]:=by rw[List.getD_eq_getElem?_getD,List.getElem?_append_right h3,List.getElem?_eq_getElem h5];rfl
  rw[e];exact h2 _ (List.getElem_mem _)
 ·cases l2 with
  | nil=>simp[hdZ]
  | cons g t =>
   have e:(l1++g::t).getD l1.length dgm=g:=by rw[List.getD_eq_getElem?_getD,List.getElem?_append_right (Nat.le_refl _),Nat.sub_self];rfl
   rw[e]
   simp[hdZ]
theorem wfind{w:World}{base:Nat}{ps0:List Pt}{x:Wm}(h:WmAt w base ps0 x){kt:List Int}(hk:∀g∈x.gs,OkK kt g.key)(hn:x.gs.length≤1000)(hm:kt.length≤1000)(q2:Option Addr)(c2:Nat)(ls:List V3)(hl:OkK kt ls)(hv:zaf w q2 ls)(l1 l2:List Gm)(hs:x.gs=l1++l2)(h1:∀g∈l1,keyC g.key ls<0)(h2:∀g∈l2,0≤keyC g.key ls) :
  Calls Tryz.prog 170 #[.pointer (some ⟨x.z,0,none⟩),.slice q2 ls.length c2] w fun e w'=>e=.returned (.tuple #[.int .i64 (l1.length:Int),.bool (hdZ ls l2)])∧Below w.heap.size w w':=by
 obtain⟨q,c,hq⟩:=zaa h.row
 have hc:=h.blk.cell 1
 have hc1:w.cell? ⟨x.z,1,none⟩=some x.gv:=by simpa using hc
 obtain⟨b1,b2,b3⟩:=zgU hs h1 h2
 by_cases h0:x.gs.length=0
 ·have e1:l1=[]:=by rw[hs,List.length_append] at h0;exact List.length_eq_zero_iff.1 (by omega)
  have e2:l2=[]:=by rw[hs,List.length_append] at h0;exact List.length_eq_zero_iff.1 (by omega)
  subst e1 e2
  rw[hq,h0] at hc1
  refine (znc x.z q c (.slice q2 ls.length c2) w hc1).mono ?_
  rintro e w' ⟨rfl,rfl⟩
  exact⟨rfl,Below.refl _ _⟩
 ·obtain⟨n,hn'⟩:∃n,x.gs.length=n+1:=⟨x.gs.length-1,by omega⟩
  have hrow:=h.row
  rw[hn'] at hrow
  obtain⟨g,cap,hg⟩:=zdi hrow
  rw[←hn'] at hg
  rw[hg] at hc1
  have hK:=h.keys hk hn hm hg
  have hl1:l1.length≤x.gs.length:=by rw[hs,List.length_append];omega
  have:=zov x.z g x.gs.length cap kt.length (fun j=>(x.gs.getD j dgm).z) (fun j=>(x.gs.getD j dgm).key) q2 c2 ls w hc1 hK hl.len hv (fun v hv=>by have:=hl.small v hv;unfold maxLen;omega) l1.length hl1 b1 b2
  rw[b3,←hl.len] at this
  exact this
theorem wroom{w:World}{base:Nat}{ps0:List Pt}{x:Wm}(h:WmAt w base ps0 x){kt:List Int}(hk:∀g∈x.gs,OkK kt g.key)(hr:x.gs.Pairwise fun g h=>keyC g.key h.key<0)(hn:x.gs.length≤1000)(hm:kt.length≤1000)(q2:Option Addr)(c2:Nat)(ls:List V3)(hl:OkK kt ls)(hv:zaf w q2 ls) :
  Calls Tryz.prog 141 #[.pointer (some ⟨x.z,0,none⟩),.slice q2 ls.length c2] w fun e w'=>e=.returned (.bool (gRoom ls (x.gs.map Gm.pl)))∧Below w.heap.size w w':=by
 obtain⟨l1,l2,hs,h1,h2,h3⟩:=zbV (·.key) kt ls hl x.gs hk hr
 obtain⟨q,c,hq⟩:=zaa h.row
 have hc:=h.blk.cell 1
 have hc1:w.cell? ⟨x.z,1,none⟩=some x.gv:=by simpa using hc
 obtain⟨b1,b2,b3⟩:=zgU hs h1 h2
 have hroom:gRoom ls (x.gs.map Gm.pl)=(hdZ ls l2||decide (x.gs.length<40)):=by
  rw[gRoom,List.length_map]
  congr 1
  rw[hs,List.map_append,List.any_append]
  have e1:(l1.map Gm.pl).any (fun g=>keyC g.1 ls == 0)=false:=by
   rw[List.any_eq_false]
   intro g hg
   obtain⟨y,hy,rfl⟩:=List.mem_map.1 hg
   have:=h1 y hy
   show ¬((keyC y.key ls == 0)=true)
   simp;omega
  rw[e1,Bool.false_or]
  cases l2 with
  | nil=>rfl
  | cons g t =>
   rw[List.map_cons,List.any_cons]
   have e2:(t.map Gm.pl).any (fun g=>keyC g.1 ls == 0)=false:=by
    rw[List.any_eq_false]
    intro g' hg
    obtain⟨y,hy,rfl⟩:=List.mem_map.1 hg
    have:=h3 y hy
    show ¬((keyC y.key ls == 0)=true)
    simp;omega
   rw[e2,Bool.or_false]
   rfl
 rw[hroom]
 by_cases h0:x.gs.length=0
 ·rw[hq,h0] at hc1
  refine (zjQ x.z q c (.slice q2 ls.length c2) w hc1).mono ?_
  rintro e w' ⟨rfl,rfl⟩
  refine⟨by rw[h0];simp,Below.refl _ _⟩
 ·obtain⟨n,hn'⟩:∃n,x.gs.length=n+1:=⟨x.gs.length-1,by omega⟩
  have hrow:=h.row
  rw[hn'] at hrow
  obtain⟨g,cap,hg⟩:=zdi hrow
  rw[←hn'] at hg
  rw[hg] at hc1
  have hK:=h.keys hk hn hm hg
  have hl1:l1.length≤x.gs.length:=by rw[hs,List.length_append];omega
  have:=zlU x.z g x.gs.length cap kt.length (fun j=>(x.gs.getD j dgm).z) (fun j=>(x.gs.getD j dgm).key) q2 c2 ls w hc1 hK hl.len hv (fun v hv=>by have:=hl.small v hv;unfold maxLen;omega) l1.length hl1 b1 b2
  rw[b3,←hl.len] at this
  exact this
structure zlu(w w':World)(base:Nat)(ps0:List Pt)(x:Wm)(ls:List V3)(l1:List Gm)(x':Wm)(g:Gm)(l2:List Gm):Prop where
 at_:WmAt w' base ps0 x'
 form:x'.z=x.z∧x'.fr=x.fr∧x'.gs=l1++g::l2
 key:g.key=ls
 add:∀vs,gAdd ls vs (x.gs.map Gm.pl)=l1.map Gm.pl++(ls,g.rs++[vs])::l2.map Gm.pl
 kp:Kp (fun k=>k=x.z∨x.gv.ownBlock=some k) w w'
 foot:∀k,x'.S k→x.S k∨w.heap.size≤k
 rows:g∈x.gs∨g.rs=[]
theorem zfz{l1 l2:List Gm}{gs:List Gm}(hs:gs=l1++l2):(gs.map Gm.p).take l1.length=l1.map Gm.p∧(gs.map Gm.p).drop l1.length=l2.map Gm.p:=by
 subst hs
 rw[List.map_append]
 exact⟨by rw[List.take_append_of_le_length (by simp),List.take_of_length_le (by simp)],by rw[List.drop_append_of_le_length (by simp),List.drop_of_length_le (by simp)];rfl⟩
theorem zie{w:World}{base:Nat}{ps0:List Pt}{x:Wm}(h:WmAt w base ps0 x){kt:List Int}(hk:∀g∈x.gs,OkK kt g.key)(hr:x.gs.Pairwise fun g h=>keyC g.key h.key<0)(hn:x.gs.length≤1000)(hm:kt.length≤1000)(q2:Option Addr)(c2:Nat)(ls:List V3)(hl:OkK kt ls)(hv:zaf w q2 ls)(hbase:base≤w.heap.size)(av tv:Value)
  (hN:∀W,Below w.heap.size w W→Calls Tryz.prog 195 #[av,tv] W fun e w'=>∃a v,e=.returned (.tuple #[.pointer (some ⟨a,0,none⟩),.nilIface])∧Aside (AcAt w' a v ps0 []∧(∀k,accS a v k→W.heap.size≤k))∧Below W.heap.size W w') :
  Calls Tryz.prog 173 #[.pointer (some ⟨x.z,0,none⟩),.slice q2 ls.length c2,av,tv] w fun e w'=>∃gz,e=.returned (.tuple #[.pointer (some ⟨gz,0,none⟩),.nilIface])∧∃l1 x' g l2,g.z=gz∧zlu w w' base ps0 x ls l1 x' g l2:=by
 obtain⟨l1,l2,hs,h1,h2,h3⟩:=zbV (·.key) kt ls hl x.gs hk hr
 have hF:=wfind h hk hn hm q2 c2 ls hl hv l1 l2 hs h1 h2
 obtain⟨q,c,hq⟩:=zaa h.row
 have hc:=h.blk.cell 1
 have hc1:w.cell? ⟨x.z,1,none⟩=some x.gv:=by simpa using hc
 obtain⟨b1,b2,b3⟩:=zgU hs h1 h2
 have hpl1:∀g∈l1.map Gm.pl,keyC g.1 ls<0:=fun g hg=>by obtain⟨y,hy,rfl⟩:=List.mem_map.1 hg;exact h1 y hy
 have hl1:l1.length≤x.gs.length:=by rw[hs,List.length_append];omega
 by_cases hz:hdZ ls l2=true
 ·obtain⟨g,t,rfl⟩:∃g t,l2=g::t:=by
   cases l2 with
   | nil=>simp[hdZ] at hz
   | cons g t=>exact⟨g,t,rfl⟩
  have hz0:keyC g.key ls=0:=by simpa [hdZ] using hz
  obtain⟨n,hn'⟩:∃n,x.gs.length=n+1:=⟨x.gs.length-1,by rw[hs,List.length_append,List.length_cons];omega⟩
  have hrow:=h.row
  rw[hn'] at hrow
  obtain⟨gg,cap,hg⟩:=zdi hrow
  rw[←hn'] at hg
  rw[hg] at hc1
  have hK:=h.keys hk hn hm hg
  have hgm:g∈x.gs:=by rw[hs];exact List.mem_append_right _ (List.mem_cons_self ..)
  have hgl:x.gs.getD l1.length dgm=g:=by rw[hs,List.getD_eq_getElem?_getD,List.getElem?_append_right (Nat.le_refl _),Nat.sub_self];rfl
  have:=zfp x.z gg x.gs.length cap kt.length (fun j=>(x.gs.getD j dgm).z) (fun j=>(x.gs.getD j dgm).key) q2 c2 ls av tv w hc1 hK hl.len hv (fun v hv=>by have:=hl.small v hv;unfold maxLen;omega) l1.length (by rw[hs,List.length_append,List.length_cons];omega) b1 b2 (by rw[hgl];exact hz0)
  rw[hgl,←hl.len] at this
  refine this.mono ?_
  rintro e w' ⟨rfl,hB⟩
  have hke:g.key=ls:=zmh (hk g hgm) hl hz0
  refine⟨_,rfl,l1,x,g,t,rfl,⟨h.on hB,⟨rfl,rfl,hs⟩,hke,fun vs=>?_,Kp.of_below hB,fun k hk=>.inl hk,.inl hgm⟩⟩
  rw[hs,List.map_append,zcH _ _ _ _ hpl1,List.map_cons,zjK _ _ _ _ hz0,Gm.pl,hke]
 ·have hzf:hdZ ls l2=false:=by simpa using hz
  rw[hzf] at hF
  have hp2:∀g∈l2,0<keyC g.key ls:=fun g hg=>by
   cases l2 with
   | nil=>cases hg
   | cons y t =>
    rcases List.mem_cons.1 hg with rfl|hg
    ·have:=h2 g (List.mem_cons_self ..)
     have h5:keyC g.key ls≠0:=by simpa [hdZ] using hzf
     omega
    ·exact h3 g hg
  have hblk:=h.blk
  have hrow:=h.row
  rw[hq] at hblk hrow
  obtain⟨m1,m2⟩:=zfz hs
  have:=zif x.z base x.fr q x.gs.length c l1.length (x.gs.map Gm.p) ps0 q2 c2 ls av tv w hblk hrow (fun u hu=>by obtain⟨y,_,rfl⟩:=List.mem_map.1 hu;rfl) hl1 hn hbase hv (by rw[hl.len];exact hm) (fun v hv=>by have:=hl.small v hv;omega) hF hN
  refine this.mono ?_
  rintro e w' ⟨gz,rfl,a,v,q',c',kv,hA,hKp,hB⟩
  obtain⟨e1,e2,e3,e4,e5,e6,e7⟩:=hA.out
  rw[m1,m2] at e2
  have hsz:=hKp.out.size
  have hM:MutS w (fun k=>k=x.z∨(Value.slice q x.gs.length c).ownBlock=some k):=(MutS.one h.blk (by decide)).or (zdh hrow (by decide))
  have old:∀g∈x.gs,GmAt w' base ps0 g:=fun g hg=>(h.gp g hg).kp hKp.out hM (fun k hs hk=>by
   rcases hk with rfl|hk
   ·exact (h.gp g hg).acc.notblk h.blk (by decide) hs
   ·exact (h.gp g hg).acc.notown hrow (by decide) hk hs)
  have hnew:GmAt w' base ps0 ⟨gz,ls,a,v,[]⟩:=⟨⟨kv,e3,e4⟩,e5,fun k hk=>by have:=e6 k hk;omega⟩
  have hgs:∀g∈x.gs,∀k,g.S k→k<w.heap.size:=fun g hg k hk=>(h.gp g hg).acc.lt k hk
  have hdj:=h.dj
  rw[hs] at hdj
  obtain⟨p1,p2,p3⟩:=List.pairwise_append.1 hdj
  refine⟨gz,rfl,l1,⟨x.z,x.fr,.slice q' (x.gs.length+1) c',l1++⟨gz,ls,a,v,[]⟩::l2⟩,⟨gz,ls,a,v,[]⟩,l2,rfl,⟨⟨e1,?_,fun g hg=>?_,?_,h.low⟩,⟨rfl,rfl,rfl⟩,rfl,fun vs=>?_,by rw[hq];exact hKp.out,fun k hk=>?_,.inr rfl⟩⟩
  ·have hlen:(l1++(⟨gz,ls,a,v,[]⟩:Gm)::l2).length=x.gs.length+1:=by rw[hs];simp;omega
   rw[hlen,List.map_append,List.map_cons]
   exact e2
  ·rcases List.mem_append.1 hg with hg|hg
   ·exact old g (by rw[hs];exact List.mem_append_left _ hg)
   ·rcases List.mem_cons.1 hg with rfl|hg
    ·exact hnew
    ·exact old g (by rw[hs];exact List.mem_append_right _ hg)
  ·refine List.pairwise_append.2 ⟨p1,List.pairwise_cons.2 ⟨fun y hy k hk hk2=>?_,p2⟩,fun y hy z hz k hk hk2=>?_⟩
   ·have h6:=e6 k hk
    have h7:=hgs y (by rw[hs];exact List.mem_append_right _ hy) k hk2
    omega
   ·rcases List.mem_cons.1 hz with rfl|hz
    ·have h6:=e6 k hk2
     have h7:=hgs y (by rw[hs];exact List.mem_append_left _ hy) k hk
     omega
    ·exact p3 y hy z hz k hk hk2
  ·rw[hs,List.map_append,zcH _ _ _ _ hpl1,zjJ _ _ _ (fun g hg=>by obtain⟨y,hy,rfl⟩:=List.mem_map.1 hg;exact hp2 y hy)]
   rfl
  ·rcases hk with hk|hk|⟨g,hg,hk⟩
   ·exact .inl (.inl hk)
   ·rcases hB.out with hb|⟨i,hb,hi⟩
    ·exact .inl (.inr (.inl (by rw[hq,←hb];exact hk)))
    ·right
     have hk:(Value.slice q' (x.gs.length+1) c').ownBlock=some k:=hk
     rw[hb] at hk
     injection hk with hk
     omega
   ·rcases List.mem_append.1 hg with hg|hg
    ·exact .inl (.inr (.inr ⟨g,by rw[hs];exact List.mem_append_left _ hg,hk⟩))
    ·rcases List.mem_cons.1 hg with rfl|hg
     ·exact .inr (e6 k hk)
     ·exact .inl (.inr (.inr ⟨g,by rw[hs];exact List.mem_append_right _ hg,hk⟩))
theorem WmAt.ty{w:World}{base:Nat}{ps0:List Pt}{x:Wm}(h:WmAt w base ps0 x){k:Nat}(hk:x.S k):∃cs t,Blk w k cs t∧(t=177∨t=249∨t=284∨t=292):=by
 rcases hk with rfl|hk|⟨g,hg,hs⟩
 ·exact⟨_,_,h.blk,.inl rfl⟩
 ·rcases h.row.2 with ⟨e1,-⟩|⟨g,cap,cur,e1,-,hg,-⟩
  ·rw[e1] at hk;simp[Value.ownBlock] at hk
  ·rw[e1] at hk
   have hk:g=k:=by simpa [Value.ownBlock] using hk
   subst hk
   exact⟨_,_,hg,.inr (.inl rfl)⟩
 ·obtain⟨cs,t,h1,h2⟩:=(h.gp g hg).acc.ty hs
  exact⟨cs,t,h1,.inr (.inr h2)⟩
theorem WmAt.notblk{w:World}{base:Nat}{ps0:List Pt}{x:Wm}(h:WmAt w base ps0 x){b:Nat}{cs:Array Value}{t:TypeId}(hb:Blk w b cs t)(ht:t≠177∧t≠249∧t≠284∧t≠292):¬x.S b:=fun hk=>by
 obtain⟨ds,u,h1,h2⟩:=h.ty hk
 exact zfa hb h1 (by rcases h2 with rfl|rfl|rfl|rfl;exact ht.1;exact ht.2.1;exact ht.2.2.1;exact ht.2.2.2) rfl
theorem WmAt.notown{w:World}{base:Nat}{ps0:List Pt}{x:Wm}(h:WmAt w base ps0 x){B n size:Nat}{u:Value}{e:TypeId}{xs:List Value}(ho:w.ownsRow B e size u n xs)(ht:e≠177∧e≠249∧e≠284∧e≠292){k:Nat}(hu:u.ownBlock=some k):¬x.S k:=by
 rcases ho.2 with ⟨e1,-⟩|⟨g,cap,cur,e1,-,hg,-⟩
 ·rw[e1] at hu;simp[Value.ownBlock] at hu
 ·rw[e1] at hu
  have hk:g=k:=by simpa [Value.ownBlock] using hu
  subst hk
  exact h.notblk (show Blk w g cur e from hg) ht
theorem WmAt.upd{w w':World}{base:Nat}{ps0:List Pt}{x:Wm}{l1 l2:List Gm}{g:Gm}(h:WmAt w base ps0 x)(hs:x.gs=l1++g::l2){rs':List (List V3)}(ha:AcAt w' g.a g.v ps0 rs')(hk:Kp (accS g.a g.v) w w'):WmAt w' base ps0 { x with gs:=l1++{ g with rs:=rs' }::l2 }:=by
 have hg:g∈x.gs:=by rw[hs];exact List.mem_append_right _ (List.mem_cons_self ..)
 have hgm:=h.gp g hg
 have hm:MutS w (accS g.a g.v):=hgm.acc.mut
 have hdj:=h.dj
 rw[hs] at hdj
 obtain⟨p1,p2,p3⟩:=List.pairwise_append.1 hdj
 obtain⟨q1,q2⟩:=List.pairwise_cons.1 p2
 have hlen:(l1++({ g with rs:=rs' }:Gm)::l2).length=x.gs.length:=by rw[hs];simp
 have hmap:(l1++({ g with rs:=rs' }:Gm)::l2).map Gm.p=x.gs.map Gm.p:=by rw[hs,List.map_append,List.map_append,List.map_cons,List.map_cons];rfl
 refine⟨h.blk.kp hk (hgm.acc.notblk h.blk (by decide)),?_,fun y hy=>?_,?_,h.low⟩
 ·rw[hlen,hmap]
  exact zfH h.row hk (fun k e hs=>hgm.acc.notown h.row (by decide) e hs)
 ·rcases List.mem_append.1 hy with hy|hy
  ·exact (h.gp y (by rw[hs];exact List.mem_append_left _ hy)).kp hk hm (fun k k1 k2=>p3 y hy g (List.mem_cons_self ..) k k1 k2)
  ·rcases List.mem_cons.1 hy with rfl|hy
   ·obtain⟨kv,b1,b2⟩:=hgm.blk
    exact⟨⟨kv,b1.kp hk (hm.blk b1 (by decide)),zfH b2 hk (zno b2 hm)⟩,ha,hgm.low⟩
   ·exact (h.gp y (by rw[hs];exact List.mem_append_right _ (List.mem_cons_of_mem _ hy))).kp hk hm (fun k k1 k2=>q1 y hy k k2 k1)
 ·refine List.pairwise_append.2 ⟨p1,List.pairwise_cons.2 ⟨fun y hy=>q1 y hy,q2⟩,fun y hy z hz=>?_⟩
  rcases List.mem_cons.1 hz with rfl|hz
  ·exact p3 y hy g (List.mem_cons_self ..)
  ·exact p3 y hy z (List.mem_cons_of_mem _ hz)
theorem GrAt.upd{w w':World}{base:Nat}{ps0:List Pt}{gb:Nat}{s:Gs}{last:Int}{ov:Value}{xs1 xs2:List Wm}{x x':Wm}{S:Nat→Prop}(h:GrAt w base ps0 gb s last ov (xs1++x::xs2))(hk:Kp S w w')(hm:MutS w S)(hS:∀k,S k→x.S k)(hx':WmAt w' base ps0 x')(hz:x'.z=x.z)(hf:∀k,x'.S k→x.S k∨w.heap.size≤k):GrAt w' base ps0 gb s last ov (xs1++x'::xs2):=by
 have hx:x∈xs1++x::xs2:=List.mem_append_right _ (List.mem_cons_self ..)
 have hxm:=h.wm x hx
 obtain⟨p1,p2,p3⟩:=List.pairwise_append.1 h.dj
 obtain⟨q1,q2⟩:=List.pairwise_cons.1 p2
 obtain⟨C,c1,c2⟩:=h.blk
 have hlen:(xs1++x'::xs2).length=(xs1++x::xs2).length:=by simp
 have hmap:(xs1++x'::xs2).map Wm.p=(xs1++x::xs2).map Wm.p:=by rw[List.map_append,List.map_append,List.map_cons,List.map_cons,Wm.p,Wm.p,hz]
 refine⟨⟨C,c1.kp hk (fun e=>hxm.notblk c1 (by decide) (hS _ e)),c2⟩,?_,fun y hy=>?_,?_,h.lt⟩
 ·rw[hlen,hmap]
  exact zfH h.row hk (fun k e hs=>hxm.notown h.row (by decide) e (hS k hs))
 ·rcases List.mem_append.1 hy with hy|hy
  ·exact (h.wm y (List.mem_append_left _ hy)).kp hk hm (fun k k1 k2=>p3 y hy x (List.mem_cons_self ..) k k1 (hS k k2))
  ·rcases List.mem_cons.1 hy with rfl|hy
   ·exact hx'
   ·exact (h.wm y (List.mem_append_right _ (List.mem_cons_of_mem _ hy))).kp hk hm (fun k k1 k2=>q1 y hy k (hS k k2) k1)
 ·refine List.pairwise_append.2 ⟨p1,List.pairwise_cons.2 ⟨fun y hy k k1 k2=>?_,q2⟩,fun y hy z hz k k1 k2=>?_⟩
  ·rcases hf k k1 with k1|k1
   ·exact q1 y hy k k1 k2
   ·have:=((h.wm y (List.mem_append_right _ (List.mem_cons_of_mem _ hy))).lt k k2).2;omega
  ·rcases List.mem_cons.1 hz with rfl|hz
   ·rcases hf k k2 with k2|k2
    ·exact p3 y hy x (List.mem_cons_self ..) k k1 k2
    ·have:=((h.wm y (List.mem_append_left _ hy)).lt k k1).2;omega
   ·exact p3 y hy z (List.mem_cons_of_mem _ hz) k k1 k2
def dwm:Wm:=⟨0,0,.nilIface,[]⟩
def hdF(fr:Int):List Wm→Bool
 | []=>false
 | x::_=>x.fr == fr
theorem zpt{l1 l2 gs:List Wm}{fr:Int}(hs:gs=l1++l2)(h1:∀g∈l1,g.fr<fr)(h2:∀g∈l2,fr≤g.fr):(∀j,j<l1.length→(gs.getD j dwm).fr<fr)∧(∀j,l1.length≤j→j<gs.length→fr≤(gs.getD j dwm).fr)∧(decide (l1.length<gs.length)&&((gs.getD l1.length dwm).fr == fr))=hdF fr l2:=by
 subst hs
 refine⟨fun j hj=>?_,fun j h3 h4=>?_,?_⟩
 ·have e:(l1++l2).getD j dwm=l1[j]:=by rw[List.getD_eq_getElem?_getD,List.getElem?_append_left hj,List.getElem?_eq_getElem hj];rfl
  rw[e];exact h1 _ (List.getElem_mem _)
 ·have h5:j-l1.length<l2.length:=by rw[List.length_append] at h4;omega
  have e:(l1++l2).getD j dwm=l2[j-l1.length]:=by rw[List.getD_eq_getElem?_getD,List.getElem?_append_right h3,List.getElem?_eq_getElem h5];rfl
  rw[e];exact h2 _ (List.getElem_mem _)
 ·cases l2 with
  | nil=>simp[hdF]
  | cons g t =>
   have e:(l1++g::t).getD l1.length dwm=g:=by rw[List.getD_eq_getElem?_getD,List.getElem?_append_right (Nat.le_refl _),Nat.sub_self];rfl
   rw[e]
   simp[hdF]
theorem GrAt.ptr{w:World}{base:Nat}{ps0:List Pt}{gb:Nat}{s:Gs}{last:Int}{ov:Value}{xs:List Wm}(h:GrAt w base ps0 gb s last ov xs){g c:Nat}(hg:ov=.slice (some ⟨g,0,none⟩) xs.length c){j:Nat}(hj:j<xs.length):w.cell? ⟨g,j,none⟩=some (xs.getD j dwm).p:=by
 have hrow:=h.row
 rw[hg] at hrow
 have:=World.ownsRow.cells hrow (g:=g) rfl j (xs.getD j dwm).p (by rw[List.getElem?_map,List.getElem?_eq_getElem hj,zbd hj];rfl)
 rw[Go.WideShapes.add_plain,Nat.zero_add] at this
 exact this
theorem GrAt.row_some{w:World}{base:Nat}{ps0:List Pt}{gb:Nat}{s:Gs}{last:Int}{ov:Value}{xs:List Wm}(h:GrAt w base ps0 gb s last ov xs)(hn:0<xs.length):∃g c,ov=.slice (some ⟨g,0,none⟩) xs.length c∧g<w.heap.size∧base≤g:=by
 rcases h.row.2 with ⟨_,h0⟩|⟨g,cap,cur,e,hb,hg,-⟩
 ·omega
 ·exact⟨g,cap,e,(Array.getElem?_eq_some_iff.1 hg).1,hb⟩
theorem GrAt.c16{w:World}{base:Nat}{ps0:List Pt}{gb:Nat}{s:Gs}{last:Int}{ov:Value}{xs:List Wm}(h:GrAt w base ps0 gb s last ov xs):w.cell? ⟨gb,16,none⟩=some ov:=by
 obtain⟨C,c1,c2⟩:=h.blk
 rw[c1.cell];exact c2.c16
theorem gfind{w:World}{base:Nat}{ps0:List Pt}{gb:Nat}{s:Gs}{last:Int}{ov:Value}{xs:List Wm}(h:GrAt w base ps0 gb s last ov xs)(hn:xs.length≤1000)(fr:Int)(l1 l2:List Wm)(hs:xs=l1++l2)(h1:∀g∈l1,g.fr<fr)(h2:∀g∈l2,fr≤g.fr) :
  Calls Tryz.prog 140 #[.pointer (some ⟨gb,0,none⟩),.int .i64 fr] w fun e w'=>e=.returned (.tuple #[.int .i64 (l1.length:Int),.bool (hdF fr l2)])∧Below w.heap.size w w':=by
 have hc1:=h.c16
 obtain⟨b1,b2,b3⟩:=zpt hs h1 h2
 by_cases h0:xs.length=0
 ·have e1:l1=[]:=by rw[hs,List.length_append] at h0;exact List.length_eq_zero_iff.1 (by omega)
  have e2:l2=[]:=by rw[hs,List.length_append] at h0;exact List.length_eq_zero_iff.1 (by omega)
  obtain⟨q,c,hq⟩:=zaa h.row
  subst e1 e2
  rw[hq,h0] at hc1
  refine (zqM gb q c fr w hc1).mono ?_
  rintro e w' ⟨rfl,rfl⟩
  exact⟨rfl,Below.refl _ _⟩
 ·obtain⟨g,c,hg,hgl,-⟩:=h.row_some (by omega)
  rw[hg] at hc1
  have:=ztd gb g xs.length c (fun j=>(xs.getD j dwm).z) (fun j=>(xs.getD j dwm).fr) fr w hc1 (by omega) hgl (fun j hj=>h.ptr hg hj) (fun j hj=>by
   have:=(h.wm _ (zbe (d:=dwm) hj)).blk.cell 0
   simpa using this) l1.length (by rw[hs,List.length_append];omega) b1 b2
  rw[b3] at this
  exact this
theorem zrm{w:World}{B size:Nat}{e:TypeId}:w.ownsRow B e size (.slice none 0 0) 0 []:=World.ownsRow_nil _ _ _ _
theorem GrAt.ins{w4 w5:World}{base:Nat}{ps0:List Pt}{gb:Nat}{s:Gs}{last fr:Int}{ov ov':Value}{xs1 xs2:List Wm}{zx:Nat}(h:GrAt w4 base ps0 gb s last ov (xs1++xs2))(hz:Blk w4 zx #[.int .i64 fr,.slice none 0 0] 177)(hzb:base≤zx)(hzn:∀k,GrS gb ov (xs1++xs2) k→k≠zx)
  (hk:Kp (fun k=>ov.ownBlock=some k) w4 w5)(hrow:w5.ownsRow base 147 1 ov' ((xs1++xs2).length+1) (xs1.map Wm.p++.pointer (some ⟨zx,0,none⟩)::xs2.map Wm.p))(hb:ov'.ownBlock=ov.ownBlock∨∃g,ov'.ownBlock=some g∧w4.heap.size≤g) :
  GrAt (w5.setCell ⟨gb,16,none⟩ ov') base ps0 gb s last ov' (xs1++⟨zx,fr,.slice none 0 0,[]⟩::xs2)∧Kp (GrS gb ov (xs1++xs2)) w4 (w5.setCell ⟨gb,16,none⟩ ov'):=by
 obtain⟨C,c1,c2⟩:=h.blk
 have hog:ov.ownBlock≠some gb:=fun e=>by
  rcases h.row.2 with ⟨e1,-⟩|⟨g,cap,cur,e1,-,hg,-⟩
  ·rw[e1] at e;simp[Value.ownBlock] at e
  ·rw[e1] at e
   have e:g=gb:=by simpa [Value.ownBlock] using e
   subst e
   exact zfa (show Blk w4 g cur _ from hg) c1 (by decide) rfl
 have hog':ov'.ownBlock≠some gb:=fun e=>by
  rcases hb with hb|⟨g,hb,hg⟩
  ·exact hog (hb.symm.trans e)
  ·rw[hb] at e;injection e with e;have:=c1.lt;omega
 have K:Kp (fun k=>k=gb∨ov.ownBlock=some k) w4 (w5.setCell ⟨gb,16,none⟩ ov'):=(hk.mono (fun _ _ h=>.inr h)).set 16 _ (fun _=>.inl rfl)
 have hM:MutS w4 (fun k=>k=gb∨ov.ownBlock=some k):=(MutS.one c1 (by decide)).or (zdh h.row (by decide))
 have hy:∀y∈xs1++xs2,WmAt (w5.setCell ⟨gb,16,none⟩ ov') base ps0 y:=fun y hy=>(h.wm y hy).kp K hM (fun k k1 k2=>by
  rcases k2 with rfl|k2
  ·exact (h.wm y hy).notblk c1 (by decide) k1
  ·exact (h.wm y hy).notown h.row (by decide) k2 k1)
 have hS0:∀k,(⟨zx,fr,.slice none 0 0,[]⟩:Wm).S k→k=zx:=fun k hk=>by
  rcases hk with hk|hk|⟨g,hg,_⟩
  ·exact hk
  ·have hk:(Value.slice none 0 0).ownBlock=some k:=hk
   simp[Value.ownBlock] at hk
  ·cases hg
 obtain⟨p1,p2,p3⟩:=List.pairwise_append.1 h.dj
 refine⟨⟨⟨_,(c1.kp hk hog).set 16 _,c2.opens⟩,?_,fun y hy'=>?_,?_,h.lt⟩,K.mono fun k _ hk=>?_⟩
 ·have hl:(xs1++(⟨zx,fr,.slice none 0 0,[]⟩:Wm)::xs2).length=(xs1++xs2).length+1:=by simp;omega
  rw[hl,List.map_append,List.map_cons]
  exact ownsRow_setCell_other hrow (a:=⟨gb,16,none⟩) hog' ov'
 ·rcases List.mem_append.1 hy' with hy'|hy'
  ·exact hy y (List.mem_append_left _ hy')
  ·rcases List.mem_cons.1 hy' with rfl|hy'
   ·exact⟨hz.kp K (fun e=>by
     rcases e with e|e
     ·exact hzn gb (.inl rfl) e.symm
     ·exact hzn zx (.inr (.inl e)) rfl),zrm,by simp,by simp,hzb⟩
   ·exact hy y (List.mem_append_right _ hy')
 ·refine List.pairwise_append.2 ⟨p1,List.pairwise_cons.2 ⟨fun y hy' k k1 k2=>?_,p2⟩,fun y hy' z hz' k k1 k2=>?_⟩
  ·rw[hS0 k k1] at k2
   exact hzn zx (.inr (.inr ⟨y,List.mem_append_right _ hy',k2⟩)) rfl
  ·rcases List.mem_cons.1 hz' with rfl|hz'
   ·rw[hS0 k k2] at k1
    exact hzn zx (.inr (.inr ⟨y,List.mem_append_left _ hy',k1⟩)) rfl
   ·exact p3 y hy' z hz' k k1 k2
 ·rcases hk with hk|hk
  ·exact .inl hk
  ·exact .inr (.inl hk)
theorem zrf{l1 l2:List Wm}:((l1++l2).map Wm.p).take l1.length=l1.map Wm.p∧((l1++l2).map Wm.p).drop l1.length=l2.map Wm.p:=by
 rw[List.map_append]
 exact⟨by rw[List.take_append_of_le_length (by simp),List.take_of_length_le (by simp)],by rw[List.drop_append_of_le_length (by simp),List.drop_of_length_le (by simp)];rfl⟩
structure PuMid(w wx:World)(base:Nat)(ps0:List Pt)(gb:Nat)(s:Gs)(last fr:Int)(kt:List Int)(ls:List V3)(ov:Value)(xs:List Wm)(xs1:List Wm)(ov4:Value)(x:Wm)(xs2:List Wm):Prop where
 at_:GrAt wx base ps0 gb s last ov4 (xs1++x::xs2)
 frm:x.fr=fr
 keys:(∀g∈x.gs,OkK kt g.key)∧(x.gs.Pairwise fun g h=>keyC g.key h.key<0)∧x.gs.length≤1000∧∀g∈x.gs,g.rs.length+1≤10000
 add:∀vs,wAdd ls vs fr (xs.map Wm.pl)=xs1.map Wm.pl++(fr,gAdd ls vs (x.gs.map Gm.pl))::xs2.map Wm.pl
 kp:Kp (GrS gb ov xs) w wx
 foot:∀k,GrS gb ov4 (xs1++x::xs2) k→GrS gb ov xs k∨w.heap.size≤k
 few:(xs1++x::xs2).length≤1001
theorem PuMid.on{w wx wy:World}{base:Nat}{ps0:List Pt}{gb:Nat}{s:Gs}{last fr:Int}{kt:List Int}{ls:List V3}{ov:Value}{xs xs1:List Wm}{ov4:Value}{x:Wm}{xs2:List Wm}(h:PuMid w wx base ps0 gb s last fr kt ls ov xs xs1 ov4 x xs2)(hb:Below wx.heap.size wx wy):PuMid w wy base ps0 gb s last fr kt ls ov xs xs1 ov4 x xs2 :=
 ⟨h.at_.on hb,h.frm,h.keys,h.add,h.kp.on hb,h.foot,h.few⟩
theorem ztu{w wc w5 w6:World}{base:Nat}{ps0:List Pt}{gb:Nat}{s:Gs}{last fr:Int}{kt:List Int}{ls:List V3}{ov:Value}{xs xs1:List Wm}{ov4:Value}{x x':Wm}{xs2:List Wm}{l1 l2:List Gm}{g:Gm}{vs:List V3}(P:PuMid w wc base ps0 gb s last fr kt ls ov xs xs1 ov4 x xs2)(GP:zlu wc w5 base ps0 x ls l1 x' g l2)(hA:AcAt w6 g.a g.v ps0 (g.rs++[vs]))(hK:Kp (accS g.a g.v) w5 w6) :
  ∃ov' xs',GrAt w6 base ps0 gb s last ov' xs'∧xs'.map Wm.pl=wAdd ls vs fr (xs.map Wm.pl)∧Kp (GrS gb ov xs) w w6∧(∀k,GrS gb ov' xs' k→GrS gb ov xs k∨w.heap.size≤k):=by
 obtain⟨f1,f2,f3⟩:=GP.form
 have hx:x∈xs1++x::xs2:=List.mem_append_right _ (List.mem_cons_self ..)
 have hxm:=P.at_.wm x hx
 have hS5:∀k,(k=x.z∨x.gv.ownBlock=some k)→x.S k:=fun k hk=>hk.imp id .inl
 have hM5:MutS wc (fun k=>k=x.z∨x.gv.ownBlock=some k):=hxm.mut.mono hS5
 have G5:=P.at_.upd GP.kp hM5 hS5 GP.at_ f1 GP.foot
 have hgm:g∈x'.gs:=by rw[f3];exact List.mem_append_right _ (List.mem_cons_self ..)
 have hx6:=GP.at_.upd f3 hA hK
 have hS6:∀k,accS g.a g.v k→x'.S k:=fun k hk=>.inr (.inr ⟨g,hgm,hk⟩)
 have hfx:∀k,({ x' with gs:=l1++{ g with rs:=g.rs++[vs] }::l2 }:Wm).S k→x'.S k:=fun k hk=>by
  rcases hk with hk|hk|⟨y,hy,hk⟩
  ·exact .inl hk
  ·exact .inr (.inl hk)
  ·rcases List.mem_append.1 hy with hy|hy
   ·exact .inr (.inr ⟨y,by rw[f3];exact List.mem_append_left _ hy,hk⟩)
   ·rcases List.mem_cons.1 hy with rfl|hy
    ·exact .inr (.inr ⟨g,hgm,hk⟩)
    ·exact .inr (.inr ⟨y,by rw[f3];exact List.mem_append_right _ (List.mem_cons_of_mem _ hy),hk⟩)
 have G6:=G5.upd (x':={ x' with gs:=l1++{ g with rs:=g.rs++[vs] }::l2 }) hK (hgm |> fun hm=>(GP.at_.gp g hm).acc.mut) hS6 hx6 rfl (fun k hk=>.inl (hfx k hk))
 have hs5:=GP.kp.size
 have hsc:=P.kp.size
 have hsub:∀k,x'.S k→GrS gb ov xs k∨w.heap.size≤k:=fun k hk=>by
  rcases GP.foot k hk with hk|hk
  ·exact P.foot k (.inr (.inr ⟨x,hx,hk⟩))
  ·exact .inr (by omega)
 have k5:Kp (GrS gb ov xs) w w5:=⟨P.kp.low.trans GP.kp.low,fun k hk hn=>by
  rw[GP.kp.kept k (by omega) (fun h=>(P.foot k (.inr (.inr ⟨x,hx,hS5 k h⟩))).elim hn (fun h=>by omega)),P.kp.kept k hk hn]⟩
 refine⟨ov4,_,G6,?_,⟨k5.low.trans hK.low,fun k hk hn=>by rw[hK.kept k (by omega) (fun h=>(hsub k (hS6 k h)).elim hn (fun h=>by omega)),k5.kept k hk hn]⟩,fun k hk=>?_⟩
 ·rw[P.add vs,GP.add vs,List.map_append,List.map_cons]
  congr 2
  rw[Wm.pl]
  simp only[f2,P.frm,List.map_append,List.map_cons]
  congr 2
  rw[Gm.pl]
  simp only[GP.key]
 ·rcases hk with hk|hk|⟨y,hy,hk⟩
  ·exact .inl (.inl hk)
  ·exact P.foot k (.inr (.inl hk))
  ·rcases List.mem_append.1 hy with hy|hy
   ·exact P.foot k (.inr (.inr ⟨y,List.mem_append_left _ hy,hk⟩))
   ·rcases List.mem_cons.1 hy with rfl|hy
    ·exact hsub k (hfx k hk)
    ·exact P.foot k (.inr (.inr ⟨y,List.mem_append_right _ (List.mem_cons_of_mem _ hy),hk⟩))
section
open Go.BigFrame
abbrev tlG(cv:Value)(gb:Nat):Array Value:=#[cv,.func (.func 72) #[.pointer (some ⟨gb,0,none⟩)] #[],.pointer (some ⟨gb,0,none⟩)]
set_option maxRecDepth 20000 in
theorem zkm(gb:Nat)(cv:Value)(w:World)(hg:w.cell? ⟨gb,0,none⟩=some cv)(hcv:∃q n c,cv=.slice q n c) :
  Calls Tryz.prog 37 #[.pointer (some ⟨gb,0,none⟩)] w fun e w'=>(∃tb,e=.returned (.pointer (some ⟨tb,0,none⟩))∧Aside (Blk w' tb (tlG cv gb) 102∧w.heap.size≤tb))∧Below w.heap.size w w':=by
 obtain⟨cq,cn,cc,rfl⟩:=hcv
 have HE:Aside (Blk (w.alloc (.cells (tlG (.slice cq cn cc) gb) 102)) w.heap.size (tlG (.slice cq cn cc) gb) 102∧w.heap.size≤w.heap.size):=⟨zab w _ _,Nat.le_refl _⟩
 have HB:Aside (Below w.heap.size w (w.alloc (.cells (tlG (.slice cq cn cc) gb) 102))):=alB w _
 go_enter Tryz.func37,Tryz.ntmps37
 go_wp2
 go_ret
 exact⟨⟨_,rfl,HE⟩,HB.out⟩
set_option maxRecDepth 20000 in
theorem zpB(tb gb:Nat)(cv vr:Value)(w:World)(R:Value→World→Prop)(hT:Blk w tb (tlG cv gb) 102)
  (hC:Calls Tryz.prog 39 #[cv,vr] w fun e w'=>e=.returned .nilIface∧Below w.heap.size w w')
  (hP:∀W,Below w.heap.size w W→Calls Tryz.prog 72 #[.pointer (some ⟨gb,0,none⟩),vr] W fun e w'=>∃u,e=.returned u∧Aside (R u w')) :
  Calls Tryz.prog 18 #[.pointer (some ⟨tb,0,none⟩),vr] w fun e w'=>∃u,e=.returned (.tuple #[u,.nilIface])∧Aside (R u w'):=by
 have hl:=hT.lt
 have c0:=hT.cell 0
 have c1:∀W,Below w.heap.size w W→W.cell? ⟨tb,1,none⟩=some (.func (.func 72) #[.pointer (some ⟨gb,0,none⟩)] #[]):=fun W hb=>by rw[hb.cell (p:=⟨tb,1,none⟩) hl,hT.cell];rfl
 simp at c0
 have HC1:Aside _:=c1
 have HP:Aside _:=hP
 clear hT c1 hP
 go_enter Tryz.func18,Tryz.ntmps18
 go_wp2_with fail
 refine hC.mono ?_
 rintro e w1 ⟨rfl,b1⟩
 have c1:=HC1.out w1 b1
 have cP:=HP.out w1 b1
 clear hC c0 HP HC1
 go_wp2_with fail
 refine cP.mono ?_
 rintro e w2 ⟨u,rfl,HR⟩
 clear cP
 go_wp2
 go_ret2
 exact⟨u,rfl,HR⟩
set_option maxRecDepth 20000 in
theorem zsm(tb gb:Nat)(cv:Value)(w:World)(R:Value→World→Prop)(hT:Blk w tb (tlG cv gb) 102)
  (hP:Calls Tryz.prog 40 #[.pointer (some ⟨gb,0,none⟩)] w fun e w'=>∃u,e=.returned u∧Aside (R u w')) :
  Calls Tryz.prog 19 #[.pointer (some ⟨tb,0,none⟩)] w fun e w'=>∃u,e=.returned u∧Aside (R u w'):=by
 have hl:=hT.lt
 have c2:=hT.cell 2
 simp at c2
 clear hT
 go_enter Tryz.func19,Tryz.ntmps19
 go_wp2_with fail
 refine hP.mono ?_
 rintro e w2 ⟨u,rfl,HR⟩
 clear hP
 go_wp2
 go_ret
 exact⟨u,rfl,HR⟩
end
end Go.Proofs.YtbdnccnfidjiaaaGreatDoor
