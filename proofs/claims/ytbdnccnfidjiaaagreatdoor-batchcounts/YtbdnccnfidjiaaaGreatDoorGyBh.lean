/-
  TkB, SlP, BcP, NgA.
-/
import Derived.Test.YtbdnccnfidjiaaaGreatDoorYNsW
import Derived.Test.YtbdnccnfidjiaaaGreatDoorGyBb
import Derived.Test.YtbdnccnfidjiaaaGreatDoorGyAl
import Derived.Test.YtbdnccnfidjiaaaGreatDoorGyBa
import Derived.Lib.SliceRun
namespace Go.Proofs.YtbdnccnfidjiaaaGreatDoor
open Go.RowKit
set_option linter.unusedVariables false
set_option linter.unusedSimpArgs false
set_option maxHeartbeats 8000000
theorem ExIn.keepB{w w':World}{B:Nat}{lo:Nat→Prop}{v:Value}{x:Ex}(h:ExIn w lo v x)(hk:KeepB B w w')(hl:∀b,lo b→B≤b):ExIn w' lo v x:=ExIn.keep hk.1 (fun b o hb hlt=>by simp only[World.cell?,hk.2 b (hl b hb) hlt]) _ _ h
theorem zaq.keepB{w w':World}{B:Nat}{lo:Nat→Prop}{v:Value}{l:List Ex}(h:zaq w lo v l)(hk:KeepB B w w')(hl:∀b,lo b→B≤b):zaq w' lo v l:=h.keep hk.1 (fun b o hb hlt=>by simp only[World.cell?,hk.2 b (hl b hb) hlt])
theorem zmz{S0:Nat→Prop}{r gb:Nat}{zs:List (ByteArray×Int)}{y:Ex}{ys:List Ex}{SC:Array Value}{W1:World}(hV:NsV r zs y ys SC W1)(hg:gb≤r)(hz:∀z∈zs,z.1.size≤maxLen)(hel:ys.length≤1048576)(hny:noOp y=true)(hnys:∀x∈ys,noOp x=true)
  (T:List V3)(P:Bool)(E:Int)(rq:Option Addr)(rc:Nat)(rs:List V3)(hR:takP zs y ys rs=(T,P,E)) :
  ∀W,Bts S0 gb W1 W→zaf W rq rs→Calls Tryz.prog 66 #[.agg SC,.slice rq rs.length rc] W fun e w'=>(∃u,e=.returned (.tuple #[u,.bool P,errV E])∧Aside (FrV W.heap.size w' u T))∧Below W.heap.size W w':=by
 intro W hb hv
 have hk:=hb.keepB
 obtain⟨cv,yp,yc,uv,rfl,⟨cq,cc,ec,h1⟩,h2,⟨uq,uc,eu,h3⟩⟩:=hV
 subst ec
 subst eu
 have hx:ExIn W (r < ·) (.agg #[.string y.op,.string y.nm,.int .i64 y.vt,.int .i64 y.vn,.string y.vs,.slice yp y.args.length yc,.int .i64 y.pos]) y:=ExIn.keepB h2 hk (fun b hb=>by have hb:r<b:=hb;omega)
 have hes:zaq W (fun b=>r+1≤b) (.slice uq ys.length uc) ys:=(zax.is h3).keepB hk (fun b hb=>by have hb:r+1≤b:=hb;omega)
 have hes:zaq W (r < ·) (.slice uq ys.length uc) ys:=hes
 have hcv:ColsV W (.slice cq zs.length cc) zs:=zjo rfl hz (zaA h1 hk (by omega))
 refine ztB y ys (r < ·) #[.string y.op,.string y.nm,.int .i64 y.vt,.int .i64 y.vn,.string y.vs,.slice yp y.args.length yc,.int .i64 y.pos] _ (.slice cq zs.length cc) _ uq uc zs rs W hx hes hel ⟨rfl,rfl,fun j v hv=>?_,rfl⟩ hcv T P E hR (fun h=>by rw[hny] at h;cases h) (fun z hz h=>by rw[hnys z hz] at h;cases h)
 have hj:j<7:=by have:=(Array.getElem?_eq_some_iff.1 hv).1;simpa using this
 have:j=0∨j=1∨j=2∨j=3∨j=4∨j=5∨j=6:=by omega
 rcases this with rfl|rfl|rfl|rfl|rfl|rfl|rfl
 all_goals (simp at hv;subst hv;rfl)
def agC(x:ByteArray):List Value:=[.string x,.string ⟨#[]⟩,.string ⟨#[]⟩,.int .i64 0,.int .i64 0,.string ⟨#[]⟩,.slice none 0 0,.int .i64 0,.string ⟨#[]⟩]
def agsC(xs:List ByteArray):List Value:=xs.flatMap agC
theorem ziP(x:ByteArray):(agC x).length=9:=rfl
theorem zmN:∀(xs:List ByteArray) (j:Nat) (h:j<xs.length) (i:Nat),i<9→(agsC xs)[j*9+i]?=(agC xs[j])[i]?
 | x::t,0,_,i,hi=>by
  show (agC x++agsC t)[0*9+i]?=_
  rw[List.getElem?_append_left (by rw[ziP];omega),Nat.zero_mul,Nat.zero_add]
  rfl
 | x::t,j+1,h,i,hi=>by
  show (agC x++agsC t)[(j+1)*9+i]?=_
  rw[List.getElem?_append_right (by rw[ziP];omega),ziP,show (j+1)*9+i-9=j*9+i by omega,zmN t j (by simpa using h) i hi]
  rfl
theorem zpT{W:World}{B:Nat}{p:Option Addr}{c:Nat}{xs:List ByteArray}(h:W.ownsRow B 87 9 (.slice p xs.length c) xs.length (agsC xs)):AgsW W p xs:=by
 rcases id h.2 with ⟨e,-⟩|⟨g,cap,cur,e,hB,hg,-⟩
 ·injection e with e1 e2 e3
  exact .inl e2
 ·injection e with e1 e2 e3
  subst e1
  refine .inr ⟨g,0,rfl,lt_of_block hg,fun j hj=>⟨⟨#[]⟩,⟨#[]⟩,0,0,⟨#[]⟩,none,0,0,0,⟨#[]⟩,fun i v hv=>?_⟩⟩
  have hi:i<9:=by have:=(List.getElem?_eq_some_iff.1 hv).1;simpa using this
  have h1:=h.cells (g:=g) rfl (j*9+i) v (by rw[zmN xs j hj i hi];exact hv)
  rw[Go.WideShapes.add_plain] at h1
  rw[Nat.zero_add] at h1 ⊢
  exact h1
def nsI(ns:List Nat):List Int:=ns.map Int.ofNat
theorem zkk(ns:List Nat):(nsI ns).length=ns.length:=by simp[nsI]
theorem ztm{ns:List Nat}{j:Nat}(h:j<ns.length):(intC (nsI ns))[j]?=some (.int .i64 (ns[j]:Int)):=by
 simp[intC,nsI,h]
theorem zoL{W:World}{B:Nat}{p:Option Addr}{c:Nat}{ts:List Int}(h:W.ownsRow B 3 1 (.slice p ts.length c) ts.length (intC ts)):IntW W p ts:=by
 rcases id h.2 with ⟨e,-⟩|⟨g,cap,cur,e,hB,hg,-⟩
 ·injection e with e1 e2 e3
  exact .inl e2
 ·injection e with e1 e2 e3
  subst e1
  refine .inr ⟨g,0,rfl,lt_of_block hg,fun j hj=>?_⟩
  have h1:=h.cells (g:=g) rfl j (.int .i64 ts[j]) (by simp[intC,hj])
  rw[Go.WideShapes.add_plain] at h1
  exact h1
theorem zku{W:World}{B:Nat}{p:Option Addr}{c:Nat}{ns:List Nat}(h:W.ownsRow B 3 1 (.slice p ns.length c) ns.length (intC (nsI ns))):zaZ W p ns:=by
 rcases id h.2 with ⟨e,-⟩|⟨g,cap,cur,e,hB,hg,-⟩
 ·injection e with e1 e2 e3
  exact .inl e2
 ·injection e with e1 e2 e3
  subst e1
  refine .inr ⟨g,0,rfl,lt_of_block hg,fun j hj=>?_⟩
  have h1:=h.cells (g:=g) rfl j (.int .i64 (ns[j]:Int)) (ztm hj)
  rw[Go.WideShapes.add_plain] at h1
  exact h1
theorem zrj{S0:Nat→Prop}{gb:Nat}{W1:World}(hA:∀W,Bts S0 gb W1 W→AEnv W)(ap:Option Addr)(ac:Nat)(xs:List ByteArray)(tp:Option Addr)(tc:Nat)(ts:List Int)(ha:W1.ownsRow (gb+1) 87 9 (.slice ap xs.length ac) xs.length (agsC xs))(ht:W1.ownsRow (gb+1) 3 1 (.slice tp ts.length tc) ts.length (intC ts))(hx:xs.length≤maxLen)(htl:ts.length≤maxLen)(hE:nwE xs ts=0) :
  ∀W,Bts S0 gb W1 W→Calls Tryz.prog 195 #[.slice ap xs.length ac,.slice tp ts.length tc] W fun e w'=>∃a v,e=.returned (.tuple #[.pointer (some ⟨a,0,none⟩),.nilIface])∧Aside (AcAt w' a v (nwP xs ts) []∧(∀k,accS a v k→W.heap.size≤k))∧Below W.heap.size W w':=by
 intro W hb
 refine (new_c ap ac xs tp tc ts W (hA W hb) (zpT (zaA ha hb.keepB (Nat.le_refl _))) (zoL (zaA ht hb.keepB (Nat.le_refl _))) hx htl hE).mono ?_
 rintro e w' ⟨a,v,e1,e2,e3,e4⟩
 exact⟨a,v,e1,(show Aside _ from ⟨e2,e3⟩),e4⟩
theorem GrAt.start{w:World}{base:Nat}{ps0:List Pt}{gb:Nat}{s:Gs}{C:Array Value}(hb:Blk w gb C 141)(hC:GrC s 0 (.slice none 0 0) C)(hg:gb<base):GrAt w base ps0 gb s 0 (.slice none 0 0) [] :=
 ⟨⟨C,hb,hC⟩,World.ownsRow_nil _ _ _ _,by simp,by simp,hg⟩
theorem zpx(zs:List (ByteArray×Int))(rs:List V3):takP zs ex0 [ex0] rs=([noV],true,0):=by
 have h0:noOp ex0=true:=by decide
 have hp:pasP zs rs ex0=(true,0):=by rw[pasP,if_pos h0]
 have hc:comP zs rs ex0=(noV,0):=by rw[comP,if_pos h0]
 have hg:gatP zs rs [] [ex0]=([noV],0):=by rw[gatP,hc,if_neg (by simp),gatP];rfl
 rw[takP,hp,hg]
 simp
def zed:ByteArray:=⟨#[99,111,117,110,116]⟩
theorem zhB:nwE [zed] [1]=0:=by decide
theorem zhg:adE (nwP [zed] [1]) [noV]=0:=by decide
noncomputable def bcPs:List Pt:=nwP [zed] [1]
def bcK(s:ByteArray):List V3:=[(3,0,s)]
noncomputable def zbu(Z Y:Int)(st:Int×List PW)(r:Int×ByteArray):(Int×List PW)×List Ot:=pushP bcPs Z Y st r.1 ([noV],true,0) (bcK r.2)
noncomputable def zbp(Z Y:Int):(Int×List PW)→List (Int×ByteArray)→List Ot
 | st,[]=>endP bcPs st
 | st,r::rs=>(zbu Z Y st r).2++zbp Z Y (zbu Z Y st r).1 rs
def gTot(l:List PG):Nat:=(l.map fun g=>g.2.length).sum
def wTot(l:List PW):Nat:=(l.map fun x=>gTot x.2).sum
theorem zej(key vs:List V3):∀l:List PG,gTot (gAdd key vs l)=gTot l+1
 | []=>by simp[gAdd,gTot]
 | g::t=>by
  have ih:=zej key vs t
  rw[gAdd]
  unfold gTot at *
  split
  ·simp only[List.map_cons,List.sum_cons];omega
  ·split
   ·simp only[List.map_cons,List.sum_cons,List.length_append,List.length_singleton];omega
   ·simp only[List.map_cons,List.sum_cons,List.length_singleton];omega
theorem zlp(key vs:List V3)(fr:Int):∀l:List PW,wTot (wAdd key vs fr l)=wTot l+1
 | []=>by
  have:=zej key vs []
  simp only[wAdd,wTot,List.map_cons,List.map_nil,List.sum_cons,List.sum_nil,this]
  rfl
 | x::t=>by
  have ih:=zlp key vs fr t
  have g1:=zej key vs x.2
  have g2:=zej key vs []
  have g3:gTot ([]:List PG)=0:=rfl
  rw[wAdd]
  unfold wTot at *
  split
  ·simp only[List.map_cons,List.sum_cons];omega
  ·split
   ·simp only[List.map_cons,List.sum_cons];omega
   ·simp only[List.map_cons,List.sum_cons];omega
theorem zlo(key vs:List V3):∀(fs:List Int) (l:List PW),wTot (adL key vs fs l)=wTot l+fs.length
 | [],l=>rfl
 | f::fs,l=>by
  have:=zlo key vs fs (wAdd key vs f l)
  show wTot (adL key vs fs (wAdd key vs f l))=_
  rw[this,zlp,List.length_cons];omega
theorem zpL(a b:List PW):wTot (a++b)=wTot a+wTot b:=by simp[wTot]
theorem zei(key vs:List V3):∀l:List PG,(gAdd key vs l).length≤l.length+1
 | []=>by simp[gAdd]
 | g::t=>by
  have ih:=zei key vs t
  rw[gAdd]
  split
  ·simp only[List.length_cons];omega
  ·split<;>simp only[List.length_cons]<;>omega
theorem zlk(key vs:List V3)(fr:Int)(f:Int→Nat):∀l:List PW,(∀x∈l,x.2.length≤f x.1)→∀x∈wAdd key vs fr l,x.2.length≤f x.1+(if x.1=fr then 1 else 0)
 | [],_=>fun x hx=>by
  rw[wAdd,List.mem_singleton] at hx
  subst hx
  have:=zei key vs []
  simp only[if_true,List.length_nil] at *
  omega
 | y::t,h=>fun x hx=>by
  have hy:=h y (List.mem_cons_self ..)
  have ih:=zlk key vs fr f t fun z hz=>h z (List.mem_cons_of_mem _ hz)
  have up:∀z∈y::t,z.2.length≤f z.1+(if z.1=fr then 1 else 0):=fun z hz=>by have:=h z hz;omega
  rw[wAdd] at hx
  split at hx
  ·rcases List.mem_cons.1 hx with rfl|hx
   ·exact up _ (List.mem_cons_self ..)
   ·exact ih x hx
  ·split at hx
   ·rename_i he
    rcases List.mem_cons.1 hx with rfl|hx
    ·have:=zei key vs y.2
     show (gAdd key vs y.2).length≤f y.1+(if y.1=fr then 1 else 0)
     rw[if_pos he]
     omega
    ·exact up x (List.mem_cons_of_mem _ hx)
   ·rcases List.mem_cons.1 hx with rfl|hx
    ·have:=zei key vs []
     show (gAdd key vs []).length≤f fr+(if fr=fr then 1 else 0)
     rw[if_pos rfl]
     simp only[List.length_nil] at this
     omega
    ·exact up x hx
theorem zmL(key vs:List V3):∀(fs:List Int) (f:Int→Nat) (l:List PW),(∀x∈l,x.2.length≤f x.1)→∀x∈adL key vs fs l,x.2.length≤f x.1+fs.count x.1
 | [],f,l,h=>fun x hx=>by have:=h x hx;simp;exact this
 | g::fs,f,l,h=>fun x hx=>by
  have:=zmL key vs fs (fun i=>f i+(if i=g then 1 else 0)) (wAdd key vs g l) (zlk key vs g f l h) x hx
  rw[List.count_cons]
  by_cases he:x.1=g
  ·simp only[he,if_true,beq_self_eq_true] at *;omega
  ·have:¬g=x.1:=fun e=>he e.symm
   simp only[he,if_false,beq_iff_eq,this] at *;omega
theorem zll(key vs:List V3)(fr:Int):∀l:List PW,(wAdd key vs fr l).length≤l.length+1
 | []=>by simp[wAdd]
 | x::t=>by
  have ih:=zll key vs fr t
  rw[wAdd]
  split
  ·simp only[List.length_cons];omega
  ·split<;>simp only[List.length_cons]<;>omega
theorem zmM(key vs:List V3):∀(fs:List Int) (l:List PW),(adL key vs fs l).length≤l.length+fs.length
 | [],l=>Nat.le_refl _
 | f::fs,l=>by
  have h1:=zmM key vs fs (wAdd key vs f l)
  have h2:=zll key vs f l
  show (adL key vs fs (wAdd key vs f l)).length≤_
  rw[List.length_cons];omega
theorem zeh(key vs:List V3):∀l:List PG,(∀g∈l,∀v∈g.2,v=vs)→∀g∈gAdd key vs l,∀v∈g.2,v=vs
 | [],_=>fun g hg v hv=>by
  rw[gAdd,List.mem_singleton] at hg
  subst hg
  exact List.mem_singleton.1 hv
 | y::t,h=>fun g hg v hv=>by
  have ht:∀g∈t,∀v∈g.2,v=vs:=fun g hg=>h g (List.mem_cons_of_mem _ hg)
  rw[gAdd] at hg
  split at hg
  ·rcases List.mem_cons.1 hg with rfl|hg
   ·exact h _ (List.mem_cons_self ..) v hv
   ·exact zeh key vs t ht g hg v hv
  ·split at hg
   ·rcases List.mem_cons.1 hg with rfl|hg
    ·rcases List.mem_append.1 hv with hv|hv
     ·exact h _ (List.mem_cons_self ..) v hv
     ·exact List.mem_singleton.1 hv
    ·exact ht g hg v hv
   ·rcases List.mem_cons.1 hg with rfl|hg
    ·exact List.mem_singleton.1 hv
    ·exact h g hg v hv
theorem zlj(key vs:List V3)(fr:Int):∀l:List PW,(∀x∈l,∀g∈x.2,∀v∈g.2,v=vs)→∀x∈wAdd key vs fr l,(x.1=fr∨∃y∈l,y.1=x.1)∧∀g∈x.2,∀v∈g.2,v=vs
 | [],_=>fun x hx=>by
  rw[wAdd,List.mem_singleton] at hx
  subst hx
  exact⟨.inl rfl,zeh key vs [] (by simp)⟩
 | y::t,h=>fun x hx=>by
  have ht:∀x∈t,∀g∈x.2,∀v∈g.2,v=vs:=fun x hx=>h x (List.mem_cons_of_mem _ hx)
  have same:∀x∈y::t,(x.1=fr∨∃z∈y::t,z.1=x.1)∧∀g∈x.2,∀v∈g.2,v=vs:=fun x hx=>⟨.inr ⟨x,hx,rfl⟩,h x hx⟩
  rw[wAdd] at hx
  split at hx
  ·rcases List.mem_cons.1 hx with rfl|hx
   ·exact same _ (List.mem_cons_self ..)
   ·have:=zlj key vs fr t ht x hx
    exact⟨this.1.imp id fun ⟨z,hz,e⟩=>⟨z,List.mem_cons_of_mem _ hz,e⟩,this.2⟩
  ·split at hx
   ·rcases List.mem_cons.1 hx with rfl|hx
    ·exact⟨.inr ⟨y,List.mem_cons_self ..,rfl⟩,zeh key vs y.2 (h y (List.mem_cons_self ..))⟩
    ·exact same x (List.mem_cons_of_mem _ hx)
   ·rcases List.mem_cons.1 hx with rfl|hx
    ·exact⟨.inl rfl,zeh key vs [] (by simp)⟩
    ·exact same x hx
theorem ziN(key vs:List V3):∀(fs:List Int) (l:List PW),(∀x∈l,∀g∈x.2,∀v∈g.2,v=vs)→∀x∈adL key vs fs l,(x.1∈fs∨∃y∈l,y.1=x.1)∧∀g∈x.2,∀v∈g.2,v=vs
 | [],l,h=>fun x hx=>⟨.inr ⟨x,hx,rfl⟩,h x hx⟩
 | f::fs,l,h=>fun x hx=>by
  have h1:=zlj key vs f l h
  have:=ziN key vs fs (wAdd key vs f l) (fun z hz=>(h1 z hz).2) x hx
  refine⟨?_,this.2⟩
  rcases this.1 with e|⟨z,hz,e⟩
  ·exact .inl (List.mem_cons_of_mem _ e)
  ·rcases (h1 z hz).1 with e2|⟨y,hy,e2⟩
   ·exact .inl (by rw[←e,e2];exact List.mem_cons_self ..)
   ·exact .inr ⟨y,hy,e2.trans e⟩
theorem zqO{key:List V3}{l:List PW}(h:∀x∈l,x.2.length<40)(fr:Int):wFull key l fr=false:=by
 rw[wFull,List.any_eq_false]
 intro x hx
 have:gRoom key x.2=true:=by rw[gRoom,decide_eq_true (h x hx),Bool.or_true]
 simp[this]
theorem zsp:∀n:Nat,n≤9000→(∃ps,Acu bcPs (List.replicate n [noV]) ps)
 | 0,_=>⟨_,Acu.new zhB⟩
 | n+1,h=>by
  obtain⟨ps,hp⟩:=zsp n (by omega)
  have:=hp.add zhg (vs:=[noV]) (fun v hv=>by
   rw[List.mem_singleton] at hv
   subst hv
   exact⟨Nat.zero_le _,by unfold noV inB;decide⟩) (by rw[List.length_replicate];omega)
  rw[List.replicate_succ']
  exact⟨_,this⟩
theorem ztE{rs:List (List V3)}(h:∀v∈rs,v=[noV])(hl:rs.length≤9000):tlE bcPs rs=0∧tlR bcPs rs=[(1,(rs.length:Int),⟨#[]⟩)]:=by
 obtain⟨ps,hp⟩:=zsp rs.length hl
 have e:List.replicate rs.length [noV]=rs:=(List.eq_replicate_iff.2 ⟨rfl,h⟩).symm
 rw[e] at hp
 obtain⟨h1,h2⟩:=tl_of hp
 have hlen:ps.length=1:=hp.al.1
 obtain⟨p,rfl⟩:∃p,ps=[p]:=List.length_eq_one_iff.1 hlen
 have hw:p.what=zed:=(hp.al.2 0 (by simp) (by decide)).1
 have hr:resP p (rs.length:Int)=((1,(rs.length:Int),⟨#[]⟩),0):=by
  rw[resP,if_pos (by unfold Pt.wh;rw[hw];rfl)]
 rw[←h1,←h2,reE,reV,List.map_singleton,List.map_singleton,hr]
 exact⟨rfl,rfl⟩
def oN(o:Ot):Int:=(o.1.getD 1 noV).2.1
def oS(l:List Ot):Int:=(l.map oN).sum
theorem zmj(a b:List Ot):oS (a++b)=oS a+oS b:=by simp[oS]
def GoodO(Y:Int)(o:Ot):Prop:=o.2.1=0∧o.1.length=2∧Y ∣ o.2.2∧0≤oN o∧0≤o.2.2∧o.2.2≤1000000
structure BcI(Z Y:Int)(k:Nat)(st:Int×List PW):Prop where
 ok:OkSt [3] (10*k) Z st
 few:∀x∈st.2,x.2.length≤k
 mul:∀x∈st.2,Y ∣ x.1
 one:∀x∈st.2,∀g∈x.2,∀v∈g.2,v=[noV]
 cnt:st.2.length≤10*k
theorem BcI.nil(Z Y:Int):BcI Z Y 0 (0,[]):=⟨OkSt.nil _ _ _,by simp,by simp,by simp,by simp⟩
theorem zrY{A Z Y:Int}:∀f∈stP A Z Y,Y ∣ f:=fun f hf=>by
 rw[stP,prg] at hf
 obtain⟨i,hi,rfl⟩:=List.mem_map.1 hf
 rw[stS]
 exact Int.dvd_add (Int.dvd_mul_left _ _) (Int.dvd_mul_left _ _)
theorem zka{s:ByteArray}(h:chk 3 0 s.data.toList=0):OkK [3] (bcK s):=⟨⟨rfl,h⟩,trivial⟩
theorem ziZ{Z Y:Int}(hw:wdB Z Y){k:Nat}{st:Int×List PW}(h:BcI Z Y k st)(hk:k<40){A:Int}{s:ByteArray}(h1:st.1≤A)(h2:A≤1000000)(hs:chk 3 0 s.data.toList=0) :
  zbu Z Y st (A,s)=((A,adL (bcK s) [noV] (stP A Z Y) (leftB Z A st.2)),(toldB Z A st.2).flatMap (wOt bcPs))∧BcI Z Y (k+1) (zbu Z Y st (A,s)).1:=by
 have h0:=h.ok.time.1
 have hsub:=(zco Z A st.2).subset
 have hno:(stP A Z Y).any (wFull (bcK s) (leftB Z A st.2))=false:=by
  rw[List.any_eq_false]
  intro f _
  rw[zqO fun x hx=>by have:=h.few x (hsub hx);omega]
  decide
 have e:zbu Z Y st (A,s)=((A,adL (bcK s) [noV] (stP A Z Y) (leftB Z A st.2)),(toldB Z A st.2).flatMap (wOt bcPs)):=by
  have ha:adW (stP A Z Y) ([noV],true,0) (bcK s) (leftB Z A st.2)=(adL (bcK s) [noV] (stP A Z Y) (leftB Z A st.2),0):=by
   rw[adW,if_neg (by simp),if_neg (by simp),if_neg (by rw[hno];simp)]
  rw[zbu,pushP,if_neg (fun k=>k ⟨by show 0≤A;omega,h2⟩),if_neg (by show ¬A<st.1;omega),ha]
  show ((A,_),_++(if (0:Int)=0 then [] else _))=_
  rw[if_pos rfl,List.append_nil]
 refine⟨e,?_⟩
 have hok:=h.ok.push (ps0:=bcPs) hw A ([noV],true,0) (zka hs)
 have hnd:=(zbW hw (by omega:0≤A)).2.1
 have ho:=ziN (bcK s) [noV] (stP A Z Y) (leftB Z A st.2) (fun x hx=>h.one x (hsub hx))
 rw[show 10*k+10=10*(k+1) by omega] at hok
 refine⟨hok,?_,?_,?_,?_⟩
 all_goals rw[e]
 ·intro x hx
  have:=zmL (bcK s) [noV] (stP A Z Y) (fun _=>k) (leftB Z A st.2) (fun x hx=>h.few x (hsub hx)) x hx
  have:=List.nodup_iff_count.1 hnd x.1
  omega
 ·intro x hx
  rcases (ho x hx).1 with hf|⟨y,hy,e⟩
  ·exact zrY _ hf
  ·rw[←e];exact h.mul y (hsub hy)
 ·exact fun x hx=>(ho x hx).2
 ·have h1:=zmM (bcK s) [noV] (stP A Z Y) (leftB Z A st.2)
  have h2:=(zco Z A st.2).length_le
  have h3:=(zbW hw (by omega:0≤A)).1
  have h4:=h.cnt
  show (adL (bcK s) [noV] (stP A Z Y) (leftB Z A st.2)).length≤10*(k+1)
  omega
theorem zsR{Z Y:Int}{k:Nat}{st:Int×List PW}(h:BcI Z Y k st)(hk:k≤100){x:PW}(hx:x∈st.2):(∀o∈wOt bcPs x,GoodO Y o∧o.2.2=x.1)∧oS (wOt bcPs x)=(gTot x.2:Int):=by
 have hwin:=h.ok.win x hx
 have htm:=h.ok.time
 have hg:=h.ok.ok.ok x hx
 have each:∀g∈x.2,gOt bcPs x.1 g=(g.1++[(1,(g.2.length:Int),⟨#[]⟩)],0,x.1)∧g.1.length=1:=fun g hgm=>by
  obtain⟨k1,k2⟩:=hg.ok g hgm
  obtain⟨t1,t2⟩:=ztE (h.one x hx g hgm) (by omega)
  exact⟨by rw[gOt,if_pos t1,t2],k1.len⟩
 have cnt:∀g∈x.2,oN (gOt bcPs x.1 g)=(g.2.length:Int):=fun g hgm=>by
  obtain⟨e1,e2⟩:=each g hgm
  rw[e1,oN,List.getD_eq_getElem?_getD,List.getElem?_append_right (by omega),e2]
  rfl
 refine⟨fun o ho=>?_,?_⟩
 ·rw[wOt] at ho
  obtain⟨g,hgm,rfl⟩:=List.mem_map.1 ho
  have hc:=cnt g hgm
  obtain⟨e1,e2⟩:=each g hgm
  refine⟨⟨by rw[e1],by rw[e1,List.length_append,e2];rfl,by rw[e1];exact h.mul x hx,by rw[hc];omega,by rw[e1];exact hwin.1,by rw[e1];show x.1≤1000000;omega⟩,by rw[e1]⟩
 ·rw[oS,wOt,List.map_map,gTot]
  have:∀l:List PG,(∀g∈l,g∈x.2)→(l.map (oN ∘ gOt bcPs x.1)).sum=((l.map fun g=>g.2.length).sum:Nat):=fun l=>by
   induction l with
   | nil=>intro _;rfl
   | cons g t ih =>
    intro hl
    rw[List.map_cons,List.sum_cons,List.map_cons,List.sum_cons,ih fun z hz=>hl z (List.mem_cons_of_mem _ hz),Function.comp,cnt g (hl g (List.mem_cons_self ..))]
    push_cast
    rfl
  exact this x.2 fun g hg=>hg
theorem zja{Z Y:Int}{k:Nat}{st:Int×List PW}(h:BcI Z Y k st)(hk:k≤100):∀l:List PW,l.Sublist st.2→(∀o∈l.flatMap (wOt bcPs),GoodO Y o∧∃x∈l,o.2.2=x.1)∧oS (l.flatMap (wOt bcPs))=(wTot l:Int)∧(l.flatMap (wOt bcPs)).Pairwise (fun a b=>a.2.2≤b.2.2)
 | [],_=>⟨by simp,rfl,by simp⟩
 | x::t,hs=>by
  obtain⟨i1,i2,i3⟩:=zja h hk t ((List.sublist_cons_self x t).trans hs)
  have hx:x∈st.2:=hs.subset (List.mem_cons_self ..)
  obtain⟨w1,w2⟩:=zsR h hk hx
  have hr:=(h.ok.ok.rise.sublist hs)
  obtain⟨r1,r2⟩:=List.pairwise_cons.1 hr
  rw[List.flatMap_cons]
  refine⟨fun o ho=>?_,?_,List.pairwise_append.2 ⟨?_,i3,fun a ha b hb=>?_⟩⟩
  ·rcases List.mem_append.1 ho with ho|ho
   ·exact⟨(w1 o ho).1,x,List.mem_cons_self ..,(w1 o ho).2⟩
   ·obtain⟨g,z,hz,e⟩:=i1 o ho
    exact⟨g,z,List.mem_cons_of_mem _ hz,e⟩
  ·rw[zmj,w2,i2,wTot,wTot,List.map_cons,List.sum_cons]
   push_cast
   rfl
  ·refine List.Pairwise.imp_of_mem (R:=fun _ _=>True) (fun {a b} ha hb _=>?_) (List.pairwise_of_forall (fun _ _=>trivial))
   have e1:=(w1 a ha).2
   have e2:=(w1 b hb).2
   omega
  ·obtain⟨g,z,hz,e⟩:=i1 b hb
   have e1:=(w1 a ha).2
   have:=r1 z hz
   omega
def BcRs:Int→List (Int×ByteArray)→Prop
 | _,[]=>True
 | a,r::rs=>a≤r.1∧r.1≤1000000∧chk 3 0 r.2.data.toList=0∧BcRs r.1 rs
def bcSum(Z Y:Int)(rs:List (Int×ByteArray)):Int:=(rs.map fun r=>(stN r.1 Z Y:Int)).sum
theorem znP{Z Y:Int}(hw:wdB Z Y):∀(rs:List (Int×ByteArray)) (k:Nat) (st:Int×List PW),BcI Z Y k st→k+rs.length≤40→BcRs st.1 rs →
  (∀o∈zbp Z Y st rs,GoodO Y o)∧oS (zbp Z Y st rs)=(wTot st.2:Int)+bcSum Z Y rs∧(zbp Z Y st rs).Pairwise (fun a b=>a.2.2≤b.2.2)∧∀b:Int,(∀x∈st.2,b≤x.1)→b≤st.1-Z+1→∀o∈zbp Z Y st rs,b≤o.2.2
 | [],k,st,h,hk,_=>by
  obtain⟨i1,i2,i3⟩:=zja h (by simp at hk;omega) st.2 (List.Sublist.refl _)
  rw[zbp,endP]
  refine⟨fun o ho=>(i1 o ho).1,by rw[i2];simp[bcSum],i3,fun b h1 _ o ho=>?_⟩
  obtain⟨-,x,hx,e⟩:=i1 o ho
  rw[e];exact h1 x hx
 | r::rs,k,st,h,hk,hr=>by
  obtain⟨A,s⟩:=r
  obtain⟨r1,r2,r3,r4⟩:=hr
  rw[List.length_cons] at hk
  obtain⟨e,hI⟩:=ziZ hw h (by omega) r1 r2 r3
  obtain⟨a1,a2,a3,a4⟩:=znP hw rs (k+1) _ hI (by omega) (by rw[e];exact r4)
  obtain⟨i1,i2,i3⟩:=zja h (by omega) (toldB Z A st.2) (List.takeWhile_sublist _)
  have hs:(zbu Z Y st (A,s)).2=(toldB Z A st.2).flatMap (wOt bcPs):=by rw[e]
  have hn:∀x∈(zbu Z Y st (A,s)).1.2,(∃y∈leftB Z A st.2,y.1=x.1)∨A-Z<x.1:=fun x hx=>by
   rw[e] at hx
   rcases (ziN (bcK s) [noV] (stP A Z Y) (leftB Z A st.2) (fun x hx=>h.one x ((zco Z A st.2).subset hx)) x hx).1 with hf|hy
   ·have h0:=h.ok.time.1
    exact .inr ((zbW hw (by show 0≤A;have:st.1≤A:=r1;omega)).2.2 _ hf).2.1
   ·exact .inl hy
  have r1':st.1≤A:=r1
  have hA:(zbu Z Y st (A,s)).1.1=A:=by rw[e]
  have hsp:st.2=toldB Z A st.2++leftB Z A st.2:=(List.takeWhile_append_dropWhile ..).symm
  have hrise:=h.ok.ok.rise
  rw[hsp] at hrise
  obtain⟨-,-,p3⟩:=List.pairwise_append.1 hrise
  rw[zbp,hs]
  refine⟨fun o ho=>?_,?_,List.pairwise_append.2 ⟨i3,a3,fun o ho p hp=>?_⟩,fun b h1 h2 o ho=>?_⟩
  ·rcases List.mem_append.1 ho with ho|ho
   ·exact (i1 o ho).1
   ·exact a1 o ho
  ·rw[zmj,i2,a2,e]
   show (wTot (toldB Z A st.2):Int)+((wTot (adL (bcK s) [noV] (stP A Z Y) (leftB Z A st.2)):Int)+bcSum Z Y rs)=(wTot st.2:Int)+bcSum Z Y ((A,s)::rs)
   have e1:wTot st.2=wTot (toldB Z A st.2)+wTot (leftB Z A st.2):=by rw[←zpL,←hsp]
   have e2:(stP A Z Y).length=stN A Z Y:=zhG _ _ _
   rw[zlo,e1,e2,bcSum,bcSum,List.map_cons,List.sum_cons]
   push_cast
   omega
  ·obtain⟨-,x,hx,eo⟩:=i1 o ho
   have hx2:x.1+Z≤A:=by
    have:∀l:List PW,x∈l.takeWhile (fun x=>decide (x.1+Z≤A))→x.1+Z≤A:=fun l=>by
     induction l with
     | nil=>intro hx;simp at hx
     | cons y t ih =>
      intro hx
      rw[List.takeWhile_cons] at hx
      split at hx
      ·rename_i hy
       rcases List.mem_cons.1 hx with rfl|hx
       ·simpa using hy
       ·exact ih hx
      ·simp at hx
    exact this st.2 hx
   have:=a4 x.1 (fun y hy=>by
    rcases hn y hy with ⟨z,hz,ez⟩|hy
    ·have:=p3 x hx z hz;omega
    ·omega) (by rw[hA];omega) p hp
   omega
  ·rcases List.mem_append.1 ho with ho|ho
   ·obtain⟨-,x,hx,eo⟩:=i1 o ho
    rw[eo]
    exact h1 x ((List.takeWhile_sublist _).subset hx)
   ·refine a4 b (fun y hy=>?_) (by rw[hA];omega) o ho
    rcases hn y hy with ⟨z,hz,ez⟩|hy
    ·rw[←ez];exact h1 z ((zco Z A st.2).subset hz)
    ·omega
theorem zmP{Y:Int}(hY:1≤Y):∀(rs:List (Int×ByteArray)) (a:Int),0≤a→BcRs a rs→bcSum Y Y rs=(rs.length:Int)
 | [],_,_,_=>rfl
 | r::rs,a,h0,⟨h1,h2,h3,h4⟩=>by
  have ih:=zmP hY rs r.1 (by omega) h4
  have:=znv hY (by omega:0≤r.1) (Int.le_refl 1)
  rw[Int.mul_one] at this
  have hd:0≤r.1 / Y:=Int.ediv_nonneg (by omega) (by omega)
  rw[bcSum,List.map_cons,List.sum_cons,←bcSum,ih,this,List.length_cons]
  push_cast
  omega
def early(Y:Int)(rs:List (Int×ByteArray)):Nat:=rs.countP fun r=>decide (r.1<Y)
theorem zmQ{Y:Int}(hY:1≤Y):∀(rs:List (Int×ByteArray)) (a:Int),0≤a→BcRs a rs→bcSum (2*Y) Y rs=2*(rs.length:Int)-(early Y rs:Int)
 | [],_,_,_=>rfl
 | r::rs,a,h0,⟨h1,h2,h3,h4⟩=>by
  have ih:=zmQ hY rs r.1 (by omega) h4
  have:=znv hY (by omega:0≤r.1) (by decide:(1:Int)≤2)
  rw[Int.mul_comm] at this
  have e:early Y (r::rs)=early Y rs+(if r.1<Y then 1 else 0):=by
   rw[early,early,List.countP_cons]
   simp
  rw[bcSum,List.map_cons,List.sum_cons,←bcSum,ih,this,List.length_cons,e]
  by_cases hr:r.1<Y
  ·have hd:r.1 / Y=0:=Int.ediv_eq_zero_of_lt (by omega) hr
   rw[if_pos hr,hd]
   push_cast
   omega
  ·have hd:1≤r.1 / Y:=(Int.le_ediv_iff_mul_le (by omega)).2 (by omega)
   rw[if_neg hr]
   push_cast
   omega
structure NgIs(W:World)(gb:Nat)(A sz sl:Int)(zs:List (ByteArray×Int))(y:Ex)(ys:List Ex)(xs:List ByteArray)(ns:List Nat)(ts:List Int)(s:Gs):Prop where
 blk:∃C,Blk W gb C 141∧GrC s 0 (.slice none 0 0) C
 at_:s.at_=A
 size:s.size=sz
 slide:s.slide=sl
 sv:∃r,gb≤r∧NsV r zs y ys s.SC W
 pl:∃p c,s.pv=.slice p ns.length c∧W.ownsRow (gb+1) 3 1 s.pv ns.length (intC (nsI ns))
 ag:∃p c,s.av=.slice p xs.length c∧W.ownsRow (gb+1) 87 9 s.av xs.length (agsC xs)
 ty:∃p c,s.tv=.slice p ts.length c∧W.ownsRow (gb+1) 3 1 s.tv ts.length (intC ts)
theorem zkG(b off n c l:Nat)(hl:l<n)(hn:n≤c)(W:World):Sem.run Tryz.prog (Instr.slice 26 (.slice (some ⟨b,off,none⟩) n c) (some (.int .i64 (l:Int))) none none) W=.ok (.slice (some ⟨b,off+l*2,none⟩) (n-l) (c-l)) W:=by
 have g0:(0:Int)≤(l:Int):=by omega
 have g1:(l:Int)≤(n:Int):=by omega
 have g2:Sem.run Tryz.prog (Go.sizeOf (Tryz.prog.elem 26)) W=.ok 2 W:=by kernel_rfl
 rw[run_slice_l W 26 (some ⟨b,off,none⟩) n c (by kernel_rfl) .i64 l g0 g1,g2]
 show Result.ok (sliced (some ⟨b,off,none⟩) l n c 2) W=_
 rw[sliced,if_neg (by omega),Option.map_some,Go.WideShapes.add_plain]
theorem NsV.keepB{r B:Nat}{zs:List (ByteArray×Int)}{y:Ex}{ys:List Ex}{SC:Array Value}{W W':World}(h:NsV r zs y ys SC W)(hk:KeepB B W W')(hB:B≤r+1):NsV r zs y ys SC W':=by
 obtain⟨cv,yp,yc,uv,e,⟨q1,c1,e1,h1⟩,h2,q3,c3,e3,cs,o1,o2⟩:=h
 refine⟨cv,yp,yc,uv,e,⟨q1,c1,e1,zaA h1 hk hB⟩,ExIn.keepB h2 hk (fun b hb=>by have hb:r<b:=hb;omega),q3,c3,e3,cs,zaA o1 hk hB,fun j hj=>?_⟩
 obtain⟨a0,a1,a2,a3,a4,a5,a6,e0,e1,e2,e3,e4,e5,e6,hz⟩:=o2 j hj
 exact⟨a0,a1,a2,a3,a4,a5,a6,e0,e1,e2,e3,e4,e5,e6,hz.keepB hk (fun b hb=>by omega)⟩
end Go.Proofs.YtbdnccnfidjiaaaGreatDoor
