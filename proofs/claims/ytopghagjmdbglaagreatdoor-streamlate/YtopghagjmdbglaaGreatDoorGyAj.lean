/-
  TreeR8, TreeAp, TreeR9, TreeOn, TreeRA, ArO.
-/
import Derived.Test.YtopghagjmdbglaaGreatDoorGyAh
import Derived.Test.YtopghagjmdbglaaGreatDoorGyAi
import Derived.Laws.Rows
import Derived.Laws.AppendOwn
import Derived.Test.YtopghagjmdbglaaGreatDoorGyAf
import Derived.Test.YtopghagjmdbglaaGreatDoorGyAc
namespace Go.Proofs.YtopghagjmdbglaaGreatDoor
open Go.RowKit
set_option linter.unusedVariables false
set_option linter.unusedSimpArgs false
set_option maxHeartbeats 8000000
section
open Go.BigFrame
theorem zsd(k:Nat)(hk:k<19):∃S:ByteArray,(∀W:World,Sem.run Tryz.prog (Instr.index 196 (.agg zkT) (.int .i64 (k:Int))) W=.ok (.string S) W)∧zcn[k]'hk=S.data.toList:=by
 have h:k=0∨k=1∨k=2∨k=3∨k=4∨k=5∨k=6∨k=7∨k=8∨k=9∨k=10∨k=11∨k=12∨k=13∨k=14∨k=15∨k=16∨k=17∨k=18:=by omega
 rcases h with rfl|rfl|rfl|rfl|rfl|rfl|rfl|rfl|rfl|rfl|rfl|rfl|rfl|rfl|rfl|rfl|rfl|rfl|rfl
 ·exact⟨⟨#[111,114]⟩,fun W=>by kernel_rfl,rfl⟩
 ·exact⟨⟨#[97,110,100]⟩,fun W=>by kernel_rfl,rfl⟩
 ·exact⟨⟨#[110,111,116]⟩,fun W=>by kernel_rfl,rfl⟩
 ·exact⟨⟨#[116,114,117,101]⟩,fun W=>by kernel_rfl,rfl⟩
 ·exact⟨⟨#[102,97,108,115,101]⟩,fun W=>by kernel_rfl,rfl⟩
 ·exact⟨⟨#[108,101,110]⟩,fun W=>by kernel_rfl,rfl⟩
 ·exact⟨⟨#[105,102]⟩,fun W=>by kernel_rfl,rfl⟩
 ·exact⟨⟨#[115,101,108,101,99,116]⟩,fun W=>by kernel_rfl,rfl⟩
 ·exact⟨⟨#[97,115]⟩,fun W=>by kernel_rfl,rfl⟩
 ·exact⟨⟨#[102,114,111,109]⟩,fun W=>by kernel_rfl,rfl⟩
 ·exact⟨⟨#[119,104,101,114,101]⟩,fun W=>by kernel_rfl,rfl⟩
 ·exact⟨⟨#[103,114,111,117,112]⟩,fun W=>by kernel_rfl,rfl⟩
 ·exact⟨⟨#[98,121]⟩,fun W=>by kernel_rfl,rfl⟩
 ·exact⟨⟨#[119,105,110,100,111,119]⟩,fun W=>by kernel_rfl,rfl⟩
 ·exact⟨⟨#[115,108,105,100,101]⟩,fun W=>by kernel_rfl,rfl⟩
 ·exact⟨⟨#[99,111,117,110,116]⟩,fun W=>by kernel_rfl,rfl⟩
 ·exact⟨⟨#[115,117,109]⟩,fun W=>by kernel_rfl,rfl⟩
 ·exact⟨⟨#[108,101,97,115,116]⟩,fun W=>by kernel_rfl,rfl⟩
 ·exact⟨⟨#[109,111,115,116]⟩,fun W=>by kernel_rfl,rfl⟩
theorem zqE(k:Nat)(hk:k<19):∃(S:ByteArray) (n:Int),(∀W:World,Sem.run Tryz.prog (Instr.index 162 (.agg opsC) (.int .i64 (k:Int))) W=.ok (.agg #[.string S,.int .i64 n]) W)∧(opsL[k]'hk).1=S.data.toList∧(opsL[k]'hk).2=n:=by
 have h:k=0∨k=1∨k=2∨k=3∨k=4∨k=5∨k=6∨k=7∨k=8∨k=9∨k=10∨k=11∨k=12∨k=13∨k=14∨k=15∨k=16∨k=17∨k=18:=by omega
 rcases h with rfl|rfl|rfl|rfl|rfl|rfl|rfl|rfl|rfl|rfl|rfl|rfl|rfl|rfl|rfl|rfl|rfl|rfl|rfl
 ·exact⟨⟨#[118,97,108]⟩,0,fun W=>by kernel_rfl,rfl,rfl⟩
 ·exact⟨⟨#[99,111,108]⟩,0,fun W=>by kernel_rfl,rfl,rfl⟩
 ·exact⟨⟨#[111,114]⟩,2,fun W=>by kernel_rfl,rfl,rfl⟩
 ·exact⟨⟨#[97,110,100]⟩,2,fun W=>by kernel_rfl,rfl,rfl⟩
 ·exact⟨⟨#[110,111,116]⟩,1,fun W=>by kernel_rfl,rfl,rfl⟩
 ·exact⟨⟨#[61]⟩,2,fun W=>by kernel_rfl,rfl,rfl⟩
 ·exact⟨⟨#[60,62]⟩,2,fun W=>by kernel_rfl,rfl,rfl⟩
 ·exact⟨⟨#[60]⟩,2,fun W=>by kernel_rfl,rfl,rfl⟩
 ·exact⟨⟨#[60,61]⟩,2,fun W=>by kernel_rfl,rfl,rfl⟩
 ·exact⟨⟨#[62]⟩,2,fun W=>by kernel_rfl,rfl,rfl⟩
 ·exact⟨⟨#[62,61]⟩,2,fun W=>by kernel_rfl,rfl,rfl⟩
 ·exact⟨⟨#[43]⟩,2,fun W=>by kernel_rfl,rfl,rfl⟩
 ·exact⟨⟨#[45]⟩,2,fun W=>by kernel_rfl,rfl,rfl⟩
 ·exact⟨⟨#[42]⟩,2,fun W=>by kernel_rfl,rfl,rfl⟩
 ·exact⟨⟨#[47]⟩,2,fun W=>by kernel_rfl,rfl,rfl⟩
 ·exact⟨⟨#[37]⟩,2,fun W=>by kernel_rfl,rfl,rfl⟩
 ·exact⟨⟨#[110,101,103]⟩,1,fun W=>by kernel_rfl,rfl,rfl⟩
 ·exact⟨⟨#[108,101,110]⟩,1,fun W=>by kernel_rfl,rfl,rfl⟩
 ·exact⟨⟨#[105,102]⟩,3,fun W=>by kernel_rfl,rfl,rfl⟩
set_option maxRecDepth 20000 in
theorem zjB(x:ByteArray)(w:World)(henv:TEnv w) :
  Calls Tryz.prog 94 #[.string x] w fun e w'=>e=.returned (.bool (zcn.any (· == x.data.toList)))∧w'=w:=by
 obtain⟨tt,fr,hgl⟩:=henv.wds
 obtain⟨R,hR⟩:∃R,zcn.any (· == x.data.toList)=R:=⟨_,rfl⟩
 have HR:Hid (zcn.any (· == x.data.toList)=R):=hR
 rw[hR]
 clear hR
 go_enter Tryz.func94,Tryz.ntmps94
 go_wp2_with (refine wpList_load_row rfl 196 _ rfl 3 rfl tt _ fr _ hgl Tryz.underlying196 rfl (by kernel_rfl) ?_)
 have hat:=zsd
 generalize Value.agg zkT=AR at hat ⊢
 clear hgl
 go_loopg [4,6] 19 (fun gg _ s6 wr=>∃kk:Nat,kk≤19∧19-kk≤gg∧s6=.int .i64 kk∧wr=w∧Hid ((zcn.drop kk).any (· == x.data.toList)=R))
 case atStart=>exact⟨0,Nat.zero_le _,by omega,rfl,rfl,HR⟩
 case round =>
  obtain⟨kk,hkk,hg,rfl,rfl,HE⟩:=hrel
  clear HR
  by_cases hlt:kk<19
  ·have hltz:(kk:Int)<19:=by omega
   obtain⟨S,hS,hS1⟩:=hat kk hlt
   clear hat
   have hd:zcn.drop kk=S.data.toList::zcn.drop (kk+1):=by
    rw[List.drop_eq_getElem_cons (show kk<zcn.length from hlt)]
    exact congrArg (·::_) hS1
   have HS:Hid ((S.data.toList::zcn.drop (kk+1)).any (· == x.data.toList)=R):=by show _=_;rw[←hd];exact HE.out
   clear hd hS1 HE
   by_cases he:S.data.toList=x.data.toList
   ·have hq:(S.toList == x.toList)=true:=by rw[Lib.toList_data,Lib.toList_data];simpa using he
    have hR2:true=R:=by
     have hb:(S.data.toList == x.data.toList)=true:=by simpa using he
     rw[←HS.out,List.any_cons,hb];rfl
    subst hR2
    clear HS
    go_wp2
    go_ret
    exact⟨rfl,rfl⟩
   ·have hq:(S.toList == x.toList)=false:=by rw[Lib.toList_data,Lib.toList_data];simpa using he
    have HS2:Hid ((zcn.drop (kk+1)).any (· == x.data.toList)=R):=by
     show _=_
     have hb:(S.data.toList == x.data.toList)=false:=by simpa using he
     rw[←HS.out,List.any_cons,hb,Bool.false_or]
    clear HS
    go_wp2
    go_roundg (19-(kk+1))
    case measure=>omega
    case rel=>exact⟨kk+1,by omega,by omega,by go_num,rfl,HS2⟩
  ·have hltz:¬(kk:Int)<19:=by omega
   have hR2:false=R:=by rw[←HE.out,List.drop_eq_nil_of_le (by show 19≤kk;omega)];rfl
   subst hR2
   clear HE
   go_wp2
   go_ret
   exact⟨rfl,rfl⟩
def apL(x:List UInt8):List (List UInt8×Int)→Int×Bool
 | []=>(0,false)
 | o::os=>if o.1=x then (o.2,true) else apL x os
set_option maxRecDepth 20000 in
theorem zeK(x:ByteArray)(w:World)(henv:TEnv w)(n:Int)(ok:Bool)(hx:apL x.data.toList opsL=(n,ok)) :
  Calls Tryz.prog 64 #[.string x] w fun e w'=>e=.returned (.tuple #[.int .i64 n,.bool ok])∧Below w.heap.size w w':=by
 obtain⟨tt,fr,hgl⟩:=henv.ops
 have HX:Hid (apL x.data.toList opsL=(n,ok)):=hx
 clear hx
 go_enter Tryz.func64,Tryz.ntmps64
 go_wp2_with (refine wpList_load_row rfl 162 _ rfl 0 rfl tt _ fr _ hgl Tryz.underlying162 rfl (by kernel_rfl) ?_)
 have hat:=zqE
 generalize Value.agg opsC=AR at hat ⊢
 clear hgl
 go_loopg [5,7] 19 (fun gg _ s7 wr=>∃kk:Nat,kk≤19∧19-kk≤gg∧s7=.int .i64 kk∧Aside (Below w.heap.size w wr)∧Hid (apL x.data.toList (opsL.drop kk)=(n,ok)))
 case atStart=>exact⟨0,Nat.zero_le _,by omega,rfl,(show Aside _ from Below.refl _ _),HX⟩
 case round =>
  obtain⟨kk,hkk,hg,rfl,BW,HE⟩:=hrel
  clear HX
  by_cases hlt:kk<19
  ·have hltz:(kk:Int)<19:=by omega
   obtain⟨S,m,hS,hS1,hS2⟩:=hat kk hlt
   clear hat
   have hd:opsL.drop kk=(S.data.toList,m)::opsL.drop (kk+1):=by
    rw[List.drop_eq_getElem_cons (show kk<opsL.length from hlt)]
    congr 1
    exact Prod.ext hS1 hS2
   have HS:Hid (apL x.data.toList ((S.data.toList,m)::opsL.drop (kk+1))=(n,ok)):=by show _=_;rw[←hd];exact HE.out
   clear hd hS1 hS2 HE
   by_cases he:S.data.toList=x.data.toList
   ·have hq:(S.toList == x.toList)=true:=by rw[Lib.toList_data,Lib.toList_data];simpa using he
    have hR2:(m,true)=(n,ok):=by rw[←HS.out,apL,if_pos he]
    obtain⟨rfl,rfl⟩:=Prod.mk.inj hR2
    clear HS
    go_wp2
    go_ret2
    exact⟨rfl,BW.out.alloc (by have:=BW.out.size;omega) _⟩
   ·have hq:(S.toList == x.toList)=false:=by rw[Lib.toList_data,Lib.toList_data];simpa using he
    have HS2:Hid (apL x.data.toList (opsL.drop (kk+1))=(n,ok)):=by
     show _=_
     rw[←HS.out,apL,if_neg he]
    clear HS
    go_wp2
    go_roundg (19-(kk+1))
    case measure=>omega
    case rel=>exact⟨kk+1,by omega,by omega,by go_num,(show Aside _ from BW.out.alloc (by have:=BW.out.size;omega) _),HS2⟩
  ·have hltz:¬(kk:Int)<19:=by omega
   have hR2:((0:Int),false)=(n,ok):=by rw[←HE.out,List.drop_eq_nil_of_le (by show 19≤kk;omega)];rfl
   obtain⟨rfl,rfl⟩:=Prod.mk.inj hR2
   clear HE
   go_wp2
   go_ret2
   exact⟨rfl,BW.out⟩
theorem zqv(l:List UInt8):nameB l=zgo l:=by
 have hl:∀c:UInt8,letN c=letB c:=fun c=>by
  rw[letN,letB]
  congr 1<;>exact decide_eq_decide.2 (by omega)
 rw[nameB,zgo,show (letN:UInt8→Bool)=letB from funext hl]
 cases l with
 | nil=>simp
 | cons c r=>simp
theorem zbx(x:ByteArray)(w:World)(henv:TEnv w)(hs:x.size≤maxLen) :
  Calls Tryz.prog 58 #[.string x] w fun e w'=>e=.returned (.bool (nameT x.data.toList))∧Below w.heap.size w w':=by
 have cN:=zcS x w hs
 have cW:=fun W (hb:Below w.heap.size w W)=>zjB x W (henv.on hb)
 have HT:Hid (nameT x.data.toList=(nameB x.data.toList&&!(zcn.any (· == x.data.toList)))):=by show _=_;rw[nameT,zqv]
 obtain⟨R,hR⟩:∃R,nameT x.data.toList=R:=⟨_,rfl⟩
 rw[hR] at HT ⊢
 clear hR
 generalize nameB x.data.toList=A at cN HT
 generalize zcn.any (· == x.data.toList)=B at cW HT
 cases A
 ·obtain rfl:R=false:=HT.out
  clear HT cW
  go_enter Tryz.func58,Tryz.ntmps58
  go_wp2_with fail
  refine cN.mono ?_
  rintro e w1 ⟨rfl,b1⟩
  go_wp2
  go_ret
  exact⟨rfl,b1⟩
 ·cases B
  ·obtain rfl:R=true:=HT.out
   clear HT
   go_enter Tryz.func58,Tryz.ntmps58
   go_wp2_with fail
   refine cN.mono ?_
   rintro e w1 ⟨rfl,b1⟩
   go_wp2_with fail
   refine (cW _ b1).mono ?_
   rintro e w2 ⟨rfl,rfl⟩
   go_wp2
   go_ret
   exact⟨rfl,b1⟩
  ·obtain rfl:R=false:=HT.out
   clear HT
   go_enter Tryz.func58,Tryz.ntmps58
   go_wp2_with fail
   refine cN.mono ?_
   rintro e w1 ⟨rfl,b1⟩
   go_wp2_with fail
   refine (cW _ b1).mono ?_
   rintro e w2 ⟨rfl,rfl⟩
   go_wp2
   go_ret
   exact⟨rfl,b1⟩
theorem zcY(t:Tok)(w:World)(henv:TEnv w)(hs:t.2.1.size≤maxLen) :
  Calls Tryz.prog 270 #[tokV t] w fun e w'=>e=.returned (.bool (nmT t))∧Below w.heap.size w w':=by
 obtain⟨tk,tx,ta⟩:=t
 rw[tokV,nmT]
 simp only at hs ⊢
 have cC:=fun W (hb:Below w.heap.size w W)=>zbx tx W (henv.on hb) hs
 generalize nameT tx.data.toList=R at cC
 go_enter Tryz.func270,Tryz.ntmps270
 go_wp2_with fail
 refine (cC _ (al _ _)).mono ?_
 rintro e w1 ⟨rfl,b1⟩
 go_wp2
 go_ret
 exact⟨rfl,(al _ _).trans (b1.mono (by simp))⟩
theorem zdA(t:Tok)(w:World)(henv:TEnv w)(hs:t.2.1.size≤400) :
  Calls Tryz.prog 269 #[tokV t] w fun e w'=>e=.returned (.bool (vlT t))∧Below w.heap.size w w':=by
 obtain⟨tk,tx,ta⟩:=t
 rw[tokV,vlT]
 simp only at hs ⊢
 have cC:=fun W (hb:Below w.heap.size w W)=>zel tx W (by omega) (henv.env.on hb)
 obtain⟨vt,vn,vl,er,hv⟩:∃vt vn vl er,readV tx=(vt,vn,vl,er):=⟨_,_,_,_,rfl⟩
 rw[hv] at cC ⊢
 rw[readR] at cC
 simp only at cC ⊢
 by_cases he:er=0
 ·subst he
  rw[errV,if_pos rfl] at cC
  go_enter Tryz.func269,Tryz.ntmps269
  go_wp2_with fail
  refine (cC _ (al _ _)).mono ?_
  rintro e w1 ⟨rfl,b1⟩
  go_wp2
  go_ret
  exact⟨rfl,((al _ _).trans (b1.mono (by simp))).alloc (by have:=b1.size;simp at this;omega) _⟩
 ·rw[errV,if_neg he] at cC
  have hd:decide (er=0)=false:=by simpa using he
  rw[hd]
  go_enter Tryz.func269,Tryz.ntmps269
  go_wp2_with fail
  refine (cC _ (al _ _)).mono ?_
  rintro e w1 ⟨rfl,b1⟩
  go_wp2
  go_ret
  exact⟨rfl,((al _ _).trans (b1.mono (by simp))).alloc (by have:=b1.size;simp at this;omega) _⟩
end
theorem zcG{P:Program}(w:World)(base:Nat)(t ty e:TypeId)(i:TypeInfo)(z:Value)(ht:P.underlying t=some (.slice e))(hi:P.info? e=some i)(hz:i.zero=some z)
  (v:Value)(n:Nat)(xs:List Value)(hown:w.ownsRow base e i.size v n xs)
  (a:Addr)(m c:Nat)(news:List Value)(hl:news.length=m*i.size)(hnews:∀j u,news[j]?=some u→w.cell? (a.add j)=some u)(h1:∀u∈news,u.oneCell'=true)(hm:0<m)
  (h63:n+m≤maxLen)(hbytes:(n+m)*i.bytes≤140737488355328){v':Value}{w':World}(hr:(Builtin.append_ #[t,t] ty #[v,.slice (some a) m c]).run P w=.ok v' w'):v'.ownBlock=v.ownBlock∨v'.ownBlock=some w.heap.size:=by
 have hsmall:n+m≤9223372036854775807:=by simp only[maxLen] at h63;omega
 rcases hown.2 with ⟨rfl,rfl⟩|⟨g,cap,cur,rfl,hbg,hg,hnc,hcm,hcs,htake⟩
 ·have h2:=run_append_nil (P:=P) w t ty e i z ht hi hz a m c news hl hnews (by omega) (by omega) (by have hb:=hbytes;simp only[Nat.zero_add] at hb;omega)
  rw[h2] at hr
  injection hr with hv _
  rw[←hv]
  exact .inr rfl
 ·by_cases hroom:n+m≤cap
  ·have hfit:n*i.size+news.length≤cur.size:=by rw[hl,hcs,←Nat.add_mul];exact Nat.mul_le_mul_right _ hroom
   have h2:=run_append_room (P:=P) w t ty e i ht hi g n cap cur hg a m c news hl hnews h1 hroom hfit
   rw[h2] at hr
   injection hr with hv _
   rw[←hv]
   exact .inl rfl
  ·have holds:∀j u,xs[j]?=some u→w.cell? ((⟨g,0,none⟩:Addr).add j)=some u:=hown.cells (g:=g) rfl
   have h2:=run_append_grow (P:=P) w t ty e i z ht hi hz ⟨g,0,none⟩ n cap xs hown.1 holds a m c news hl hnews (by omega) (by omega) (growslice_fits (by omega) hbytes)
   rw[h2] at hr
   injection hr with hv _
   rw[←hv]
   exact .inr rfl
theorem zad{P:Program}{w:World}{ops:Array Oper}{rest:List Oper}{o:Oper}{a:Act}{Q:Exit→Act→World→Prop}(hgd:o.guard=none)(s x:Operand)(t:TypeId)
  (ho:o.op=.call { callee:=.builtin .append,args:=#[s,x],argTypes:=#[t,t] })
  (base:Nat)(e:TypeId)(i:TypeInfo)(z:Value)(size bytes:Nat)(ht:P.underlying t=some (.slice e))(hi:P.info? e=some i)(hz:i.zero=some z)
  (hsize:i.size=size)(hby:i.bytes=bytes)(hzs:z.cells.size=size)(hsz:0<size)
  (v:Value)(n:Nat)(xs:List Value)(hs:a.eval s=v)(hown:w.ownsRow base e size v n xs)
  (ad:Addr)(m c:Nat)(news:List Value)(hx:a.eval x=.slice (some ad) m c)(hl:news.length=m*size)(hnews:∀j u,news[j]?=some u→w.cell? (ad.add j)=some u)(h1:∀u∈news,u.oneCell'=true)(hm:0<m)
  (h63:n+m≤maxLen)(hbytes:(n+m)*bytes≤140737488355328)(hbase:base≤w.heap.size)
  (h:∀v' w',w'.ownsRow base e size v' (n+m) (xs++news)→w.grownBy w' v.ownBlock→(v'.ownBlock=v.ownBlock∨v'.ownBlock=some w.heap.size)→wpList P ops Q rest (a.put o.dst v') w'):wpList P ops Q (o::rest) a w :=
 wpList_plain hgd fun _ hK=>by
  obtain⟨v',w',hr,h2,h3,_⟩:=run_append_own (P:=P) w base t o.type e i z size bytes ht hi hz hsize hby hzs hsz v n xs hown ad m c news hl hnews h1 h63 hbytes hbase
  have h5:v'.ownBlock=v.ownBlock∨v'.ownBlock=some w.heap.size:=by
   subst hsize
   subst hby
   exact zcG w base t o.type e i z ht hi hz v n xs hown ad m c news hl hnews h1 hm h63 hbytes hr
  unfold Oper.wp execOp
  simp only[ho,resolve,invoke,builtin,Sem.run_bind,Sem.run_pure,Result.andThen_ok,List.map_toArray,List.map_cons,List.map_nil,hs,hx,hr]
  exact hK _ _ (h v' w' h2 h3 h5)
section
open Go.BigFrame
variable {en : Nat}

def zaw(w:World)(B:Nat)(v:Value)(xs:List Ex):Prop:=∃cs:List Value,w.ownsRow B 30 7 v xs.length cs ∧
 ∀j (h:j<xs.length),∃a0 a1 a2 a3 a4 a5 a6,cs[j*7]?=some a0∧cs[j*7+1]?=some a1∧cs[j*7+2]?=some a2∧cs[j*7+3]?=some a3∧cs[j*7+4]?=some a4∧cs[j*7+5]?=some a5∧cs[j*7+6]?=some a6∧ExIn w (fun b=>B≤b∧some b≠v.ownBlock) (.agg #[a0,a1,a2,a3,a4,a5,a6]) xs[j]
theorem zdt(w:World)(B:Nat):zaw w B (.slice none 0 0) []:=⟨[],World.ownsRow_nil _ _ _ _,fun j h=>absurd h (Nat.not_lt_zero _)⟩
theorem zdC{W W':World}{r base:Nat}{e:TypeId}{size:Nat}{v:Value}{n:Nat}{xs:List Value}(h:W.ownsRow base e size v n xs)(hb:But r W W')(hr:r<base):W'.ownsRow base e size v n xs:=by
 refine⟨h.1,?_⟩
 rcases h.2 with hn|⟨g,cap,cur,rfl,h1,hgg,rest⟩
 ·exact .inl hn
 ·exact .inr ⟨g,cap,cur,rfl,h1,by rw[hb.kept g (Array.getElem?_eq_some_iff.1 hgg).1 (by omega)];exact hgg,rest⟩
theorem zaw.but{w w':World}{r B:Nat}{v:Value}{xs:List Ex}(h:zaw w B v xs)(hb:But r w w')(hr:r<B):zaw w' B v xs:=by
 obtain⟨cs,h1,h2⟩:=h
 refine⟨cs,zdC h1 hb hr,fun j hj=>?_⟩
 obtain⟨a0,a1,a2,a3,a4,a5,a6,e0,e1,e2,e3,e4,e5,e6,hx⟩:=h2 j hj
 exact⟨a0,a1,a2,a3,a4,a5,a6,e0,e1,e2,e3,e4,e5,e6,hx.but hb (fun b hb=>by have:=hb.1;omega)⟩
theorem zaw.on{w w':World}{B:Nat}{v:Value}{xs:List Ex}(h:zaw w B v xs)(hb:Below w.heap.size w w'):zaw w' B v xs:=by
 obtain⟨cs,h1,h2⟩:=h
 refine⟨cs,zac h1 hb,fun j hj=>?_⟩
 obtain⟨a0,a1,a2,a3,a4,a5,a6,e0,e1,e2,e3,e4,e5,e6,hx⟩:=h2 j hj
 exact⟨a0,a1,a2,a3,a4,a5,a6,e0,e1,e2,e3,e4,e5,e6,hx.on hb⟩
theorem zaw.push{w w':World}{B:Nat}{v v':Value}{xs:List Ex}{cs:List Value}{a0 a1 a2 a3 a4 a5 a6:Value}{x:Ex}(h1:w.ownsRow B 30 7 v xs.length cs)(h2:∀j (h:j<xs.length),∃a0 a1 a2 a3 a4 a5 a6,cs[j*7]?=some a0∧cs[j*7+1]?=some a1∧cs[j*7+2]?=some a2∧cs[j*7+3]?=some a3∧cs[j*7+4]?=some a4∧cs[j*7+5]?=some a5∧cs[j*7+6]?=some a6∧ExIn w (fun b=>B≤b∧some b≠v.ownBlock) (.agg #[a0,a1,a2,a3,a4,a5,a6]) xs[j])
  (hx:ExIn w (fun b=>B≤b∧some b≠v.ownBlock) (.agg #[a0,a1,a2,a3,a4,a5,a6]) x)(hown':w'.ownsRow B 30 7 v' (xs.length+1) (cs++[a0,a1,a2,a3,a4,a5,a6]))(hg:w.grownBy w' v.ownBlock)(hf:v'.ownBlock=v.ownBlock∨v'.ownBlock=some w.heap.size):zaw w' B v' (xs++[x]):=by
 have key:∀(y:Ex) (u:Value),ExIn w (fun b=>B≤b∧some b≠v.ownBlock) u y→ExIn w' (fun b=>B≤b∧some b≠v'.ownBlock) u y:=fun y u hy=>by
  have h3:=ExIn.low (lo':=fun b=>(B≤b∧some b≠v.ownBlock)∧b<w.heap.size) (fun b hb hb2=>⟨hb2,hb⟩) _ _ hy
  have h4:=ExIn.keep (w':=w') hg.size (fun b o hb _=>by simp only[World.cell?,hg.block b hb.2 hb.1.2]) _ _ h3
  refine ExIn.low (fun b _ hb=>⟨hb.1.1,?_⟩) _ _ h4
  rcases hf with hf|hf
  ·rw[hf];exact hb.1.2
  ·rw[hf];intro e;injection e with e;have:=hb.2;omega
 have hlen:=h1.1
 refine⟨cs++[a0,a1,a2,a3,a4,a5,a6],by rw[List.length_append,List.length_singleton];exact hown',fun j hj=>?_⟩
 rw[List.length_append,List.length_singleton] at hj
 by_cases hj2:j<xs.length
 ·obtain⟨b0,b1,b2,b3,b4,b5,b6,e0,e1,e2,e3,e4,e5,e6,hy⟩:=h2 j hj2
  refine⟨b0,b1,b2,b3,b4,b5,b6,?_,?_,?_,?_,?_,?_,?_,?_⟩
  ·rw[List.getElem?_append_left (by omega)];exact e0
  ·rw[List.getElem?_append_left (by omega)];exact e1
  ·rw[List.getElem?_append_left (by omega)];exact e2
  ·rw[List.getElem?_append_left (by omega)];exact e3
  ·rw[List.getElem?_append_left (by omega)];exact e4
  ·rw[List.getElem?_append_left (by omega)];exact e5
  ·rw[List.getElem?_append_left (by omega)];exact e6
  ·rw[List.getElem_append_left hj2];exact key _ _ hy
 ·obtain rfl:j=xs.length:=by omega
  refine⟨a0,a1,a2,a3,a4,a5,a6,?_,?_,?_,?_,?_,?_,?_,?_⟩
  ·rw[List.getElem?_append_right (by omega),show xs.length*7-cs.length=0 by omega];rfl
  ·rw[List.getElem?_append_right (by omega),show xs.length*7+1-cs.length=1 by omega];rfl
  ·rw[List.getElem?_append_right (by omega),show xs.length*7+2-cs.length=2 by omega];rfl
  ·rw[List.getElem?_append_right (by omega),show xs.length*7+3-cs.length=3 by omega];rfl
  ·rw[List.getElem?_append_right (by omega),show xs.length*7+4-cs.length=4 by omega];rfl
  ·rw[List.getElem?_append_right (by omega),show xs.length*7+5-cs.length=5 by omega];rfl
  ·rw[List.getElem?_append_right (by omega),show xs.length*7+6-cs.length=6 by omega];rfl
  ·rw[List.getElem_append_right (Nat.le_refl _)];simp only[Nat.sub_self,List.getElem_cons_zero];exact key _ _ hx
def zaq(w:World)(lo:Nat→Prop)(v:Value)(xs:List Ex):Prop:=∃p c,v=.slice p xs.length c∧(xs.length≤maxLen∧xs.length≤c)∧(xs.length=0∨∃b off,p=some ⟨b,off,none⟩∧b<w.heap.size∧lo b∧ExsIn w lo b off xs)
theorem zaw.is{w:World}{B:Nat}{v:Value}{xs:List Ex}(h:zaw w B v xs):zaq w (B≤·) v xs:=by
 obtain⟨cs,h1,h2⟩:=h
 rcases h1.2 with ⟨e,h0⟩|⟨g,cap,cur,e,hB,hgg,hcap,hmx,_,_⟩
 ·exact⟨none,0,by rw[e,h0],⟨by omega,by omega⟩,.inl h0⟩
 ·refine⟨_,cap,e,⟨by omega,hcap⟩,.inr ⟨g,0,rfl,(Array.getElem?_eq_some_iff.1 hgg).1,hB,zbw _ _ _ _ _ fun j hj=>?_⟩⟩
  obtain⟨b0,b1,b2,b3,b4,b5,b6,e0,e1,e2,e3,e4,e5,e6,hy⟩:=h2 j hj
  have hc:=fun k u hu=>h1.cells (g:=g) (by rw[e];rfl) k u hu
  simp only[Go.WideShapes.add_plain] at hc
  refine⟨b0,b1,b2,b3,b4,b5,b6,?_,?_,?_,?_,?_,?_,?_,ExIn.low (fun b _ hb=>hb.1) _ _ hy⟩
  ·have:=hc _ _ e0;simpa using this
  ·have:=hc _ _ e1;simpa [Nat.add_assoc] using this
  ·have:=hc _ _ e2;simpa [Nat.add_assoc] using this
  ·have:=hc _ _ e3;simpa [Nat.add_assoc] using this
  ·have:=hc _ _ e4;simpa [Nat.add_assoc] using this
  ·have:=hc _ _ e5;simpa [Nat.add_assoc] using this
  ·have:=hc _ _ e6;simpa [Nat.add_assoc] using this
theorem zql:(Tryz.prog.info? 30).map (fun i=>(i.zero,i.size,i.bytes))=some (some (.agg #[.string ⟨#[]⟩,.string ⟨#[]⟩,.int .i64 0,.int .i64 0,.string ⟨#[]⟩,.slice none 0 0,.int .i64 0]),7,96):=by kernel_rfl
theorem zba(w:World)(lo:Nat→Prop):zaq w lo (.slice none 0 0) []:=⟨none,0,rfl,⟨Nat.zero_le _,Nat.zero_le _⟩,.inl rfl⟩
theorem zkJ{sub:List Tok→Option Ex×List Tok}{k:Nat}{acc:List Ex}{ts:List Tok}(h:nxT (sgT [if acc.length=0 then [40] else [44]]) ts=none):uBr sub (k+1) acc ts=(none,ts):=by rw[uBr,h]
theorem zmX{sub:List Tok→Option Ex×List Tok}{k:Nat}{acc:List Ex}{ts rs:List Tok}{t:Tok}(h:nxT (sgT [if acc.length=0 then [40] else [44]]) ts=some (t,rs))(hs:(sub rs).1=none):uBr sub (k+1) acc ts=(none,(sub rs).2):=by
 rw[uBr,h]
 cases h3:sub rs with
 | mk o r=>rw[h3] at hs;simp only at hs;subst hs;simp only[h3]
theorem zkK{sub:List Tok→Option Ex×List Tok}{k:Nat}{acc:List Ex}{ts rs:List Tok}{t:Tok}{x:Ex}(h:nxT (sgT [if acc.length=0 then [40] else [44]]) ts=some (t,rs))(hs:(sub rs).1=some x):uBr sub (k+1) acc ts=uBr sub k (acc++[x]) (sub rs).2:=by
 rw[uBr,h]
 cases h3:sub rs with
 | mk o r=>rw[h3] at hs;simp only at hs;subst hs;simp only[h3]
set_option maxRecDepth 20000 in
theorem zco(sub:List Tok→Option Ex×List Tok)(n:Nat)(hn3:n≤3)(ts:List Tok)(hsuf:Suf sub)(hg:Fit ts)(hsub:∀ts',ts' <:+ ts→ts'.length<ts.length→Reads 95 sub ts')(w:World)(r:Nat)(h:RdAt en w r ts)(henv:TEnv w)(hr:12≤r) :
  Calls Tryz.prog 268 #[.pointer (some ⟨r,0,none⟩),.int .i64 (n:Int)] w fun e w'=>∃v ok xs,e=.returned (.tuple #[v,.bool ok])∧Aside (zaq w' (w.heap.size≤·) v xs)∧Aside (RdAt en w' r (uBr sub n [] ts).2)∧Aside (But r w w')∧Hid ((uBr sub n [] ts).1=if ok=true then some xs else none):=by
 have HR:Aside (RdAt en w r ts):=h
 have HE:Aside (TEnv w):=henv
 have HG:Aside (Fit ts):=hg
 have HC:Aside (∀ts',ts' <:+ ts→ts'.length<ts.length→Reads 95 sub ts'):=hsub
 have hl:=h.lt
 clear h henv hg hsub
 go_enter Tryz.func268,Tryz.ntmps268
 obtain⟨i0,hi,hz0,hz1,hzz⟩:=info_parts zql
 go_wp2
 go_loopg [6,7,8,9,10,11,12,16] n (fun gg s6 _ _ _ _ _ _ s16 wr=>∃(kk:Nat) (acc:List Ex) (ts':List Tok) (q:Option Addr) (c:Nat),kk≤n∧n-kk≤gg∧s16=.int .i64 kk∧acc.length≤kk∧kk≤acc.length∧s6=.slice q acc.length c∧Aside (zaw wr w.heap.size (.slice q acc.length c) acc)∧Aside (RdAt en wr r ts')∧Aside (But r w wr)∧Hid (ts' <:+ ts∧uBr sub n [] ts=uBr sub (n-kk) acc ts'))
 case atStart=>exact⟨0,[],ts,none,0,Nat.zero_le _,by omega,rfl,Nat.le_refl _,Nat.le_refl _,rfl,(show Aside _ from zdt _ _),HR,(show Aside _ from But.refl _ _),(show Hid _ from ⟨List.suffix_rfl,rfl⟩)⟩
 case round =>
  obtain⟨kk,acc,ts',q,c,hkk,hg,rfl,ha1,ha2,rfl,AO,RD,BW,HU⟩:=hrel
  have hzr:=BW.out.size
  by_cases hlt:kk<n
  ·have hltz:(kk:Int)<(n:Int):=by omega
   obtain⟨k1,hk1⟩:∃k1,n-kk=k1+1:=⟨n-kk-1,by omega⟩
   by_cases hk0:0<kk
   ·have hkz:(0:Int)<(kk:Int):=by omega
    have cO:=zav wr.heap.size 1 r [[44]] (wr.alloc (.cells #[.string ⟨#[44]⟩] 9)) (by decide) (zat _ _ rfl _ _ _ (fun j hj=>match j,hj with
     | 0,_=>rfl)) (by omega) (by simp;omega)
    have hif:(if acc.length=0 then [40] else [44]:List UInt8)=[44]:=if_neg (by omega)
    go_wp2_with fail
    refine cO.mono ?_
    rintro e w2 ⟨⟨p,rfl,hp⟩,b3⟩
    have B2:Below wr.heap.size wr w2:=(al _ _).trans (b3.mono (by simp))
    have hz2:wr.heap.size+1≤w2.heap.size:=by have:=b3.size;simpa using this
    have rd2:=RD.out.on B2
    have BB2:=BW.out.on B2 hl
    have AO2:=AO.out.on B2
    clear b3 cO
    cases hn:nxT (sgT [[44]]) ts' with
    | none =>
     have cT:=zam [[44]] p w2 r ts' rd2 hp.sign hn
     have hU:uBr sub n [] ts=(none,ts'):=by rw[HU.out.2,hk1];exact zkJ (by rw[hif];exact hn)
     rw[noTok] at cT
     clear hn
     go_wp2_with fail
     refine cT.mono ?_
     rintro e w3 ⟨rfl,rd3,b3⟩
     go_wp2
     go_ret2
     refine⟨_,false,[],rfl,zba _ _,?_,?_,?_⟩
     ·rw[hU];exact rd3.on (al _ _)
     ·exact (BB2.trans b3).on (al _ _) hl
     ·rw[hU];exact rfl
    | some y =>
     obtain⟨tt,rs⟩:=y
     have cT:=zan [[44]] p w2 r tt ts' rs rd2 hp.sign hn
     have hsf:rs <:+ ts∧rs.length<ts.length:=by
      have h1:=(zal hn).1
      have h2:=HU.out.1
      rw[h1] at h2
      have h3:=h2.length_le
      simp only[List.length_cons] at h3
      exact⟨(List.suffix_cons tt rs).trans h2,by omega⟩
     have cP:=HC.out rs hsf.1 hsf.2
     have HN:Hid (nxT (sgT [if acc.length=0 then [40] else [44]]) ts'=some (tt,rs)):=by show _=_;rw[hif];exact hn
     obtain⟨tk,tx,ta⟩:=tt
     rw[tokV] at cT
     simp only at cT
     clear hn hif
     go_wp2_with fail
     refine cT.mono ?_
     rintro e w3 ⟨rfl,rd3,b3⟩
     have hz3:=b3.size
     have bb:=al w3 (.cells #[.int .i64 tk,.string tx,.int .i64 (ta:Int)] 83)
     have BB3:=(BB2.trans b3).on bb hl
     have AO3:=(AO2.but b3 (by omega)).on bb
     go_wp2_with fail
     refine (cP _ r (rd3.on bb) (HE.out.but BB3 hr) hr).mono ?_
     rintro e w4 ⟨v,ok,x,rfl,hx,hrd,hbt,hres⟩
     obtain⟨u0,u1,u2,u3,u4,u5,u6,u7,u8,rfl⟩:=hx.out.agg
     have hz4:w3.heap.size+1≤w4.heap.size:=by have:=hbt.out.size;simpa using this
     have BB4:=BB3.trans hbt.out
     have AO4:=AO3.but hbt.out (by omega)
     have hob:∀j,(Value.slice q acc.length c).ownBlock=some j→w.heap.size≤j∧j<w3.heap.size+1:=fun j hj=>by
      obtain⟨cs3,o3,_⟩:=AO3
      have:=o3.lt j hj
      simpa using this
     clear cT cP AO2 AO3 BB2 BB3
     cases ok
     ·have hU:uBr sub n [] ts=(none,(sub rs).2):=by rw[HU.out.2,hk1];exact zmX HN.out hres.out
      go_wp2
      go_ret2
      refine⟨_,false,[],rfl,zba _ _,?_,?_,?_⟩
      ·rw[hU];exact hrd.out.on (al _ _)
      ·exact BB4.on (al _ _) hl
      ·rw[hU];exact rfl
     ·have hU:uBr sub n [] ts=uBr sub k1 (acc++[x]) (sub rs).2:=by rw[HU.out.2,hk1];exact zkK HN.out hres.out
      have hsf2:(sub rs).2 <:+ ts:=(hsuf rs).trans hsf.1
      have HU2:Hid ((sub rs).2 <:+ ts∧uBr sub n [] ts=uBr sub (n-(kk+1)) (acc++[x]) (sub rs).2):=⟨hsf2,by rw[hU,show n-(kk+1)=k1 by omega]⟩
      have b5:=(al w4 (.cells #[.string u0,.string u1,.int .i64 u2,.int .i64 u3,.string u4,.slice u5 u6 u7,.int .i64 u8] 30)).trans ((al _ (.cells #[.string u0,.string u1,.int .i64 u2,.int .i64 u3,.string u4,.slice u5 u6 u7,.int .i64 u8] 30)).mono (by simp))
      obtain⟨cs,ao1,ao2⟩:=AO4.on b5
      have hx2:=ExIn.low (lo':=fun b=>w.heap.size≤b∧some b≠(Value.slice q acc.length c).ownBlock) (fun b _ hb=>⟨by simp at hb;omega,fun e=>by have:=hob b e.symm;simp at hb;omega⟩) _ _ (hx.out.on b5)
      clear hU hsf2 hres HN
      go_wp2_with (at_builtin;refine zad rfl _ _ 28 rfl w.heap.size 30 i0 (.agg #[.string ⟨#[]⟩,.string ⟨#[]⟩,.int .i64 0,.int .i64 0,.string ⟨#[]⟩,.slice none 0 0,.int .i64 0]) 7 96 Tryz.underlying28 hi hz0 hz1 hzz rfl (by decide) _ _ _ rfl ao1 ⟨w4.heap.size+1,0,none⟩ 1 1 [.string u0,.string u1,.int .i64 u2,.int .i64 u3,.string u4,.slice u5 u6 u7,.int .i64 u8] rfl rfl ?c1 ?c2 (by decide) ?c3 ?c4 ?c5 ?_)
      case c1 =>
       intro i u hu
       rw[Go.WideShapes.add_plain,World.cell?_alloc_at _ _ _ _ (by simp)]
       simpa using hu
      case c2 =>
       intro u hu
       simp at hu
       rcases hu with rfl|rfl|rfl|rfl|rfl|rfl|rfl<;>rfl
      case c3=>unfold maxLen;omega
      case c4=>omega
      case c5=>have:=BB4.size;simp;omega
      ·intro v' w5 hown' hgrow hfr
       have AO5:=zaw.push ao1 ao2 hx2 hown' hgrow (hfr.imp id (fun h=>by rw[h];simp))
       have W5:=BB4.on b5 hl
       have rd5:=(hrd.out.on b5).onB ((Below.refl (r+1) _).grown hgrow (by simp;omega) (fun j hj=>by have:=(hob j hj).1;omega)) hgrow.size
       have BB5:But r w w5:=⟨W5.below.grown hgrow (by simp;omega) (fun j hj=>by have:=(hob j hj).1;omega),Nat.le_trans W5.size hgrow.size,fun j hj hjr=>by rw[hgrow.block j (by have:=W5.size;omega) (fun e=>by have:=(hob j e.symm).1;omega)];exact W5.kept j hj hjr⟩
       obtain⟨cs5,o5,_⟩:=id AO5
       obtain⟨q5,c5,rfl⟩:=zaa o5
       clear o5 hown' hgrow hfr
       go_wp2
       go_roundg (n-(kk+1))
       case measure=>omega
       case rel=>exact⟨kk+1,acc++[x],(sub rs).2,q5,c5,by omega,by omega,by go_num,by rw[List.length_append,List.length_singleton];omega,by rw[List.length_append,List.length_singleton];omega,rfl,(show Aside _ from AO5),(show Aside _ from rd5),(show Aside _ from BB5),HU2⟩
   ·have hkz:¬(0:Int)<(kk:Int):=by omega
    have cO:=zav wr.heap.size 1 r [[40]] (wr.alloc (.cells #[.string ⟨#[40]⟩] 9)) (by decide) (zat _ _ rfl _ _ _ (fun j hj=>match j,hj with
     | 0,_=>rfl)) (by omega) (by simp;omega)
    have hif:(if acc.length=0 then [40] else [44]:List UInt8)=[40]:=if_pos (by omega)
    go_wp2_with fail
    refine cO.mono ?_
    rintro e w2 ⟨⟨p,rfl,hp⟩,b3⟩
    have B2:Below wr.heap.size wr w2:=(al _ _).trans (b3.mono (by simp))
    have hz2:wr.heap.size+1≤w2.heap.size:=by have:=b3.size;simpa using this
    have rd2:=RD.out.on B2
    have BB2:=BW.out.on B2 hl
    have AO2:=AO.out.on B2
    clear b3 cO
    cases hn:nxT (sgT [[40]]) ts' with
    | none =>
     have cT:=zam [[40]] p w2 r ts' rd2 hp.sign hn
     have hU:uBr sub n [] ts=(none,ts'):=by rw[HU.out.2,hk1];exact zkJ (by rw[hif];exact hn)
     rw[noTok] at cT
     clear hn
     go_wp2_with fail
     refine cT.mono ?_
     rintro e w3 ⟨rfl,rd3,b3⟩
     go_wp2
     go_ret2
     refine⟨_,false,[],rfl,zba _ _,?_,?_,?_⟩
     ·rw[hU];exact rd3.on (al _ _)
     ·exact (BB2.trans b3).on (al _ _) hl
     ·rw[hU];exact rfl
    | some y =>
     obtain⟨tt,rs⟩:=y
     have cT:=zan [[40]] p w2 r tt ts' rs rd2 hp.sign hn
     have hsf:rs <:+ ts∧rs.length<ts.length:=by
      have h1:=(zal hn).1
      have h2:=HU.out.1
      rw[h1] at h2
      have h3:=h2.length_le
      simp only[List.length_cons] at h3
      exact⟨(List.suffix_cons tt rs).trans h2,by omega⟩
     have cP:=HC.out rs hsf.1 hsf.2
     have HN:Hid (nxT (sgT [if acc.length=0 then [40] else [44]]) ts'=some (tt,rs)):=by show _=_;rw[hif];exact hn
     obtain⟨tk,tx,ta⟩:=tt
     rw[tokV] at cT
     simp only at cT
     clear hn hif
     go_wp2_with fail
     refine cT.mono ?_
     rintro e w3 ⟨rfl,rd3,b3⟩
     have hz3:=b3.size
     have bb:=al w3 (.cells #[.int .i64 tk,.string tx,.int .i64 (ta:Int)] 83)
     have BB3:=(BB2.trans b3).on bb hl
     have AO3:=(AO2.but b3 (by omega)).on bb
     go_wp2_with fail
     refine (cP _ r (rd3.on bb) (HE.out.but BB3 hr) hr).mono ?_
     rintro e w4 ⟨v,ok,x,rfl,hx,hrd,hbt,hres⟩
     obtain⟨u0,u1,u2,u3,u4,u5,u6,u7,u8,rfl⟩:=hx.out.agg
     have hz4:w3.heap.size+1≤w4.heap.size:=by have:=hbt.out.size;simpa using this
     have BB4:=BB3.trans hbt.out
     have AO4:=AO3.but hbt.out (by omega)
     have hob:∀j,(Value.slice q acc.length c).ownBlock=some j→w.heap.size≤j∧j<w3.heap.size+1:=fun j hj=>by
      obtain⟨cs3,o3,_⟩:=AO3
      have:=o3.lt j hj
      simpa using this
     clear cT cP AO2 AO3 BB2 BB3
     cases ok
     ·have hU:uBr sub n [] ts=(none,(sub rs).2):=by rw[HU.out.2,hk1];exact zmX HN.out hres.out
      go_wp2
      go_ret2
      refine⟨_,false,[],rfl,zba _ _,?_,?_,?_⟩
      ·rw[hU];exact hrd.out.on (al _ _)
      ·exact BB4.on (al _ _) hl
      ·rw[hU];exact rfl
     ·have hU:uBr sub n [] ts=uBr sub k1 (acc++[x]) (sub rs).2:=by rw[HU.out.2,hk1];exact zkK HN.out hres.out
      have hsf2:(sub rs).2 <:+ ts:=(hsuf rs).trans hsf.1
      have HU2:Hid ((sub rs).2 <:+ ts∧uBr sub n [] ts=uBr sub (n-(kk+1)) (acc++[x]) (sub rs).2):=⟨hsf2,by rw[hU,show n-(kk+1)=k1 by omega]⟩
      have b5:=(al w4 (.cells #[.string u0,.string u1,.int .i64 u2,.int .i64 u3,.string u4,.slice u5 u6 u7,.int .i64 u8] 30)).trans ((al _ (.cells #[.string u0,.string u1,.int .i64 u2,.int .i64 u3,.string u4,.slice u5 u6 u7,.int .i64 u8] 30)).mono (by simp))
      obtain⟨cs,ao1,ao2⟩:=AO4.on b5
      have hx2:=ExIn.low (lo':=fun b=>w.heap.size≤b∧some b≠(Value.slice q acc.length c).ownBlock) (fun b _ hb=>⟨by simp at hb;omega,fun e=>by have:=hob b e.symm;simp at hb;omega⟩) _ _ (hx.out.on b5)
      clear hU hsf2 hres HN
      go_wp2_with (at_builtin;refine zad rfl _ _ 28 rfl w.heap.size 30 i0 (.agg #[.string ⟨#[]⟩,.string ⟨#[]⟩,.int .i64 0,.int .i64 0,.string ⟨#[]⟩,.slice none 0 0,.int .i64 0]) 7 96 Tryz.underlying28 hi hz0 hz1 hzz rfl (by decide) _ _ _ rfl ao1 ⟨w4.heap.size+1,0,none⟩ 1 1 [.string u0,.string u1,.int .i64 u2,.int .i64 u3,.string u4,.slice u5 u6 u7,.int .i64 u8] rfl rfl ?c1 ?c2 (by decide) ?c3 ?c4 ?c5 ?_)
      case c1 =>
       intro i u hu
       rw[Go.WideShapes.add_plain,World.cell?_alloc_at _ _ _ _ (by simp)]
       simpa using hu
      case c2 =>
       intro u hu
       simp at hu
       rcases hu with rfl|rfl|rfl|rfl|rfl|rfl|rfl<;>rfl
      case c3=>unfold maxLen;omega
      case c4=>omega
      case c5=>have:=BB4.size;simp;omega
      ·intro v' w5 hown' hgrow hfr
       have AO5:=zaw.push ao1 ao2 hx2 hown' hgrow (hfr.imp id (fun h=>by rw[h];simp))
       have W5:=BB4.on b5 hl
       have rd5:=(hrd.out.on b5).onB ((Below.refl (r+1) _).grown hgrow (by simp;omega) (fun j hj=>by have:=(hob j hj).1;omega)) hgrow.size
       have BB5:But r w w5:=⟨W5.below.grown hgrow (by simp;omega) (fun j hj=>by have:=(hob j hj).1;omega),Nat.le_trans W5.size hgrow.size,fun j hj hjr=>by rw[hgrow.block j (by have:=W5.size;omega) (fun e=>by have:=(hob j e.symm).1;omega)];exact W5.kept j hj hjr⟩
       obtain⟨cs5,o5,_⟩:=id AO5
       obtain⟨q5,c5,rfl⟩:=zaa o5
       clear o5 hown' hgrow hfr
       go_wp2
       go_roundg (n-(kk+1))
       case measure=>omega
       case rel=>exact⟨kk+1,acc++[x],(sub rs).2,q5,c5,by omega,by omega,by go_num,by rw[List.length_append,List.length_singleton];omega,by rw[List.length_append,List.length_singleton];omega,rfl,(show Aside _ from AO5),(show Aside _ from rd5),(show Aside _ from BB5),HU2⟩
  ·have hltz:¬(kk:Int)<(n:Int):=by omega
   have hU0:uBr sub n [] ts=uBr sub 0 acc ts':=by rw[HU.out.2,show n-kk=0 by omega]
   have cO:=zav wr.heap.size 1 r [[41]] (wr.alloc (.cells #[.string ⟨#[41]⟩] 9)) (by decide) (zat _ _ rfl _ _ _ (fun j hj=>match j,hj with
    | 0,_=>rfl)) (by omega) (by simp;omega)
   go_wp2_with fail
   refine cO.mono ?_
   rintro e w2 ⟨⟨p,rfl,hp⟩,b3⟩
   have B2:Below wr.heap.size wr w2:=(al _ _).trans (b3.mono (by simp))
   have rd2:=RD.out.on B2
   have BB2:=BW.out.on B2 hl
   have AO2:=AO.out.on B2
   clear b3 cO
   cases hn:nxT (sgT [[41]]) ts' with
   | none =>
    have cT:=zam [[41]] p w2 r ts' rd2 hp.sign hn
    have hU:uBr sub n [] ts=(none,ts'):=by rw[hU0,uBr,hn]
    rw[noTok] at cT
    clear hn
    go_wp2_with fail
    refine cT.mono ?_
    rintro e w3 ⟨rfl,rd3,b3⟩
    go_wp2
    go_ret2
    refine⟨_,false,acc,rfl,(show Aside _ from ((AO2.but b3 (by omega)).on (al _ _)).is),?_,?_,?_⟩
    ·rw[hU];exact rd3.on (al _ _)
    ·exact (BB2.trans b3).on (al _ _) hl
    ·rw[hU];exact rfl
   | some y =>
    obtain⟨tt,rs⟩:=y
    have cT:=zan [[41]] p w2 r tt ts' rs rd2 hp.sign hn
    have hU:uBr sub n [] ts=(some acc,rs):=by rw[hU0,uBr,hn]
    obtain⟨tk,tx,ta⟩:=tt
    rw[tokV] at cT
    simp only at cT
    clear hn
    go_wp2_with fail
    refine cT.mono ?_
    rintro e w3 ⟨rfl,rd3,b3⟩
    go_wp2
    go_ret2
    refine⟨_,true,acc,rfl,(show Aside _ from ((AO2.but b3 (by omega)).on (al _ _)).is),?_,?_,?_⟩
    ·rw[hU];exact rd3.on (al _ _)
    ·exact (BB2.trans b3).on (al _ _) hl
    ·rw[hU];exact rfl
end
abbrev lenIf:List (List UInt8):=[[108,101,110],[105,102]]
def manyT(t:Tok):Nat:=if t.2.1.data.toList=[108,101,110] then 1 else 3
theorem zmj{sub:List Tok→Option Ex×List Tok}{ts rs:List Tok}{t:Tok}(h:nxT (sgT lenIf) ts=some (t,rs)):uOne sub ts=((uBr sub (manyT t) [] rs).1.map fun l=>.node t.2.1 ⟨#[]⟩ 0 0 ⟨#[]⟩ (t.2.2:Int) l,(uBr sub (manyT t) [] rs).2):=by
 rw[uOne,h,manyT]
 simp only
 cases uBr sub (if t.2.1.data.toList=[108,101,110] then 1 else 3) [] rs with
 | mk o r=>cases o<;>rfl
theorem zpg{sub:List Tok→Option Ex×List Tok}{ts rs:List Tok}{t:Tok}(h:nxT (sgT lenIf) ts=none)(h2:nxT vlT ts=some (t,rs)):uOne sub ts=(some (valE t),rs):=by
 rw[uOne,h];simp only[h2]
theorem zpe{sub:List Tok→Option Ex×List Tok}{ts rs:List Tok}{t:Tok}(h:nxT (sgT lenIf) ts=none)(h2:nxT vlT ts=none)(h3:nxT nmT ts=some (t,rs)):uOne sub ts=(some (colE1 t),rs):=by
 rw[uOne,h];simp only[h2,h3]
theorem zrT{sub:List Tok→Option Ex×List Tok}{ts:List Tok}(h:nxT (sgT lenIf) ts=none)(h2:nxT vlT ts=none)(h3:nxT nmT ts=none):uOne sub ts=((uBr sub 1 [] ts).1.bind List.head?,(uBr sub 1 [] ts).2):=by
 rw[uOne,h];simp only[h2,h3]
 cases uBr sub 1 [] ts with
 | mk o r=>cases o<;>rfl
theorem zmY{sub:List Tok→Option Ex×List Tok}:∀(k:Nat) (acc:List Ex) (ts:List Tok) (l:List Ex),(uBr sub k acc ts).1=some l→l.length=acc.length+k
 | 0,acc,ts,l,h=>by
  rw[uBr] at h
  cases hn:nxT (sgT [[41]]) ts with
  | none=>rw[hn] at h;exact absurd h (by simp)
  | some q =>
   obtain⟨t,r⟩:=q
   rw[hn] at h
   simp only[Option.some.injEq] at h
   subst h;rfl
 | k+1,acc,ts,l,h=>by
  rw[uBr] at h
  cases hn:nxT (sgT [if acc.length=0 then [40] else [44]]) ts with
  | none=>rw[hn] at h;exact absurd h (by simp)
  | some q =>
   obtain⟨t,r⟩:=q
   rw[hn] at h
   simp only at h
   cases h3:sub r with
   | mk o r2 =>
    rw[h3] at h
    cases o with
    | none=>exact absurd h (by simp)
    | some e =>
     have:=zmY k (acc++[e]) r2 l h
     rw[this,List.length_append,List.length_singleton];omega
theorem zom{t:Tok}(h:sgT lenIf t=true):apL t.2.1.data.toList opsL=((manyT t:Int),true):=by
 rw[sgT,List.any_eq_true] at h
 obtain⟨g,hg,he⟩:=h
 have he:g=t.2.1.data.toList:=by simpa using he
 rw[manyT,←he]
 simp only[List.mem_cons,List.not_mem_nil,or_false] at hg
 rcases hg with rfl|rfl<;>decide
section
open Go.BigFrame
variable {en : Nat}

theorem zmx(args:Array Value)(W:World):Sem.run Tryz.prog (callFunc 269 args) W=.ok (.enter 269 args) W:=by kernel_rfl
theorem zmw(args:Array Value)(W:World):Sem.run Tryz.prog (callFunc 270 args) W=.ok (.enter 270 args) W:=by kernel_rfl
theorem zfC(w:World)(r:Nat)(ts:List Tok)(h:RdAt en w r ts)(hg:Fit ts)(henv:TEnv w)(hn:nxT vlT ts=none) :
  Calls Tryz.prog 50 #[.pointer (some ⟨r,0,none⟩),.func (.func 269) #[] #[]] w fun e w'=>e=.returned (.tuple #[noTok,.bool false])∧RdAt en w' r ts∧But r w w' :=
 zbT vlT _ _ zmx w r ts h (fun t ht W hb=>by simpa using zdA t W (henv.on hb) (hg t ht)) hn
theorem zfD(w:World)(r:Nat)(t:Tok)(ts rs:List Tok)(h:RdAt en w r ts)(hg:Fit ts)(henv:TEnv w)(hn:nxT vlT ts=some (t,rs)) :
  Calls Tryz.prog 50 #[.pointer (some ⟨r,0,none⟩),.func (.func 269) #[] #[]] w fun e w'=>e=.returned (.tuple #[tokV t,.bool true])∧RdAt en w' r rs∧But r w w' :=
 zcD vlT _ _ zmx w r t ts rs h (fun t ht W hb=>by simpa using zdA t W (henv.on hb) (hg t ht)) hn
theorem zfA(w:World)(r:Nat)(ts:List Tok)(h:RdAt en w r ts)(hg:Fit ts)(henv:TEnv w)(hn:nxT nmT ts=none) :
  Calls Tryz.prog 50 #[.pointer (some ⟨r,0,none⟩),.func (.func 270) #[] #[]] w fun e w'=>e=.returned (.tuple #[noTok,.bool false])∧RdAt en w' r ts∧But r w w' :=
 zbT nmT _ _ zmw w r ts h (fun t ht W hb=>by simpa using zcY t W (henv.on hb) (by have:=hg t ht;unfold maxLen;omega)) hn
theorem zfB(w:World)(r:Nat)(t:Tok)(ts rs:List Tok)(h:RdAt en w r ts)(hg:Fit ts)(henv:TEnv w)(hn:nxT nmT ts=some (t,rs)) :
  Calls Tryz.prog 50 #[.pointer (some ⟨r,0,none⟩),.func (.func 270) #[] #[]] w fun e w'=>e=.returned (.tuple #[tokV t,.bool true])∧RdAt en w' r rs∧But r w w' :=
 zcD nmT _ _ zmw w r t ts rs h (fun t ht W hb=>by simpa using zcY t W (henv.on hb) (by have:=hg t ht;unfold maxLen;omega)) hn
theorem zpS{w:World}{lo:Nat→Prop}{p:Option Addr}{n c:Nat}{xs:List Ex}{op nm vs:ByteArray}{vt vn pos:Int}(h:zaq w lo (.slice p n c) xs)(ho:op.size≤maxLen)(hn:nm.size≤maxLen)(hv:vs.size≤maxLen):ExIn w lo (.agg #[.string op,.string nm,.int .i64 vt,.int .i64 vn,.string vs,.slice p n c,.int .i64 pos]) (.node op nm vt vn vs pos xs):=by
 obtain⟨q,d,e,h1,h2⟩:=h
 injection e with e1 e2 e3
 subst e1 e2 e3
 rw[ExIn]
 exact⟨_,_,rfl,h1,ho,hn,hv,h2⟩
theorem zqs{ok:Bool}{xs:List Ex}{o:Option (List Ex)}{F:List Ex→Ex}(h:o=if ok=true then some xs else none):o.map F=if ok=true then some (F xs) else none:=by
 subst h
 cases ok<;>rfl
set_option maxRecDepth 20000 in
theorem zhZ(sub:List Tok→Option Ex×List Tok)(ts:List Tok)(hsuf:Suf sub)(hg:Fit ts)(hsub:∀ts',ts' <:+ ts→ts'.length<ts.length→Reads 95 sub ts'):Reads 264 (uOne sub) ts:=by
 intro w r en h henv hr
 have HR:Aside (RdAt en w r ts):=h
 have HE:Aside (TEnv w):=henv
 have HG:Aside (Fit ts):=hg
 have hl:=h.lt
 have HC:Aside (∀ts',ts' <:+ ts→ts'.length<ts.length→Reads 95 sub ts'):=hsub
 clear h henv hg hsub
 have X0:=zap w (.string ⟨#[]⟩) (.string ⟨#[]⟩) (.int .i64 0) (.int .i64 0) (.string ⟨#[]⟩) (.slice none 0 0) (.int .i64 0) 30
 have b0:=(Below.refl w.heap.size w).alloc (Nat.le_refl _) (.cells #[.string ⟨#[]⟩,.string ⟨#[]⟩,.int .i64 0,.int .i64 0,.string ⟨#[]⟩,.slice none 0 0,.int .i64 0] 30)
 have b1:=al (w.alloc (.cells #[.string ⟨#[]⟩,.string ⟨#[]⟩,.int .i64 0,.int .i64 0,.string ⟨#[]⟩,.slice none 0 0,.int .i64 0] 30)) (.cells #[.string ⟨#[108,101,110]⟩,.string ⟨#[105,102]⟩] 9)
 have X1:=X0.on b1
 have cO:=zav (w.heap.size+1) 2 r lenIf ((w.alloc (.cells #[.string ⟨#[]⟩,.string ⟨#[]⟩,.int .i64 0,.int .i64 0,.string ⟨#[]⟩,.slice none 0 0,.int .i64 0] 30)).alloc (.cells #[.string ⟨#[108,101,110]⟩,.string ⟨#[105,102]⟩] 9)) (by decide) (zat _ _ (by simp) _ _ _ (fun j hj=>match j,hj with
  | 0,_=>rfl
  | 1,_=>rfl)) (by omega) (by simp;omega)
 have b2:=b0.trans (b1.mono (by simp))
 clear X0 b1 b0
 go_enter Tryz.func264,Tryz.ntmps264
 go_wp2_with fail
 refine cO.mono ?_
 rintro e w2 ⟨⟨p,rfl,hp⟩,b3⟩
 have X2:=X1.on b3
 have B2:=b2.trans (b3.mono (by simp;omega))
 have hz2:w.heap.size+2≤w2.heap.size:=by have:=b3.size;simpa using this
 have rd2:=HR.out.on B2
 have BB2:=But.of_below' B2 (r:=r) (by omega)
 clear X1 b2 b3 cO
 cases hn:nxT (sgT lenIf) ts with
 | some y =>
  obtain⟨tt,rs⟩:=y
  have cT:=zan lenIf p w2 r tt ts rs rd2 hp.sign hn
  have hU:=zmj (sub:=sub) hn
  have hmo:=zom (zal hn).2
  have hts:=HG.out tt (by rw[(zal hn).1];exact List.mem_cons_self)
  have hrs:rs <:+ ts:=by rw[(zal hn).1];exact List.suffix_cons tt rs
  have hrl:rs.length<ts.length:=by rw[(zal hn).1];simp
  have hm3:manyT tt≤3:=by rw[manyT];split<;>omega
  have cB:=fun W h1 h2=>zco (en:=en) sub (manyT tt) hm3 rs hsuf (HG.out.suf hrs) (fun ts' h1 h2=>HC.out ts' (h1.trans hrs) (by omega)) W r h1 h2 hr
  have cA:=fun W h1=>zeK tt.2.1 W h1 _ _ hmo
  generalize manyT tt=mm at cB cA hU hm3
  obtain⟨tk,tx,ta⟩:=tt
  rw[tokV] at cT
  simp only at cT cA hU hts
  clear hn hmo
  go_wp2_with fail
  refine cT.mono ?_
  rintro e w3 ⟨rfl,rd3,b3⟩
  have hz3:=b3.size
  have bb:=al w3 (.cells #[.int .i64 tk,.string tx,.int .i64 (ta:Int)] 83)
  have X3:=(X2.but b3 (by omega)).on bb
  have BB3:=(BB2.trans b3).on bb hl
  have rd3':=rd3.on bb
  clear X2 cT
  go_wp2_with fail
  refine (cA _ (HE.out.but BB3 hr)).mono ?_
  rintro e w4 ⟨rfl,b4⟩
  have X4:=X3.on b4
  have BB4:=BB3.on b4 hl
  have rd4:=rd3'.on b4
  have hz4:w3.heap.size+1≤w4.heap.size:=by have:=b4.size;simpa using this
  have T4:∀i,w4.cell? ⟨w3.heap.size,i,none⟩=(#[.int .i64 tk,.string tx,.int .i64 (ta:Int)]:Array Value)[i]?:=fun i=>by
   rw[b4.cell (p:=⟨w3.heap.size,i,none⟩) (by simp),World.cell?_alloc_at _ _ _ _ rfl]
  clear X3 cA BB3 rd3' bb
  go_wp2_with fail
  refine (cB _ rd4 (HE.out.but BB4 hr)).mono ?_
  rintro e w5 ⟨v,ok,xs,rfl,hx,hrd,hbt,hres⟩
  have hz5:=hbt.out.size
  have X5:=X4.but hbt.out (by omega)
  have BB5:=BB4.trans hbt.out
  have hx':=hx.out
  obtain⟨q5,c5,rfl,hx1,hx2⟩:=hx'
  have g1:w5.cell? ⟨w3.heap.size,1,none⟩=some (.string tx):=by rw[hbt.out.cell _ (by omega) (by omega),T4];rfl
  have g2:w5.cell? ⟨w3.heap.size,2,none⟩=some (.int .i64 (ta:Int)):=by rw[hbt.out.cell _ (by omega) (by omega),T4];rfl
  have hlt5:w3.heap.size<w5.heap.size:=by omega
  obtain⟨c0,c1,c2,c3,c4,c5',c6,cf,cl⟩:=X5
  have rf0:=cf 0
  have rf1:=cf 1
  have rf2:=cf 2
  have rf3:=cf 3
  have rf4:=cf 4
  have rf5:=cf 5
  have rf6:=cf 6
  clear cf T4 X4 cB hx1 hx2
  have hxx:=zpS (op:=tx) (nm:=⟨#[]⟩) (vs:=⟨#[]⟩) (vt:=0) (vn:=0) (pos:=(ta:Int)) hx.out (by unfold maxLen;omega) (by decide) (by decide)
  go_wp2
  refine bodyPost_ret (v:=.tuple #[.agg #[.string tx,.string ⟨#[]⟩,.int .i64 0,.int .i64 0,.string ⟨#[]⟩,.slice q5 xs.length c5,.int .i64 (ta:Int)],.bool ok]) (by simp[results,Tryz.results264,go_sem,c0,c1,c2,c3,c4,c5',c6]) rfl ⟨_,ok,.node tx ⟨#[]⟩ 0 0 ⟨#[]⟩ (ta:Int) xs,rfl,?_,?_,?_,?_⟩
  ·exact ExIn.low (fun b _ (hb:w4.heap.size≤b)=>(show w.heap.size≤b by omega)) _ _ (hxx.set7 (fun b (hb:w4.heap.size≤b)=>by omega) _ _ _ _ _ _ _)
  ·rw[hU];exact hrd.out.set7 (by omega) _ _ _ _ _ _ _
  ·exact BB5.set7 (Nat.le_refl _) (by omega) _ _ _ _ _ _ _
  ·rw[hU];exact zqs hres.out
 | none =>
  have cT:=zam lenIf p w2 r ts rd2 hp.sign hn
  rw[noTok] at cT
  go_wp2_with fail
  refine cT.mono ?_
  rintro e w3 ⟨rfl,rd3,b3⟩
  have hz3:=b3.size
  have bb:=al w3 (.cells #[.int .i64 0,.string ⟨#[]⟩,.int .i64 0] 83)
  have X3:=(X2.but b3 (by omega)).on bb
  have BB3:=(BB2.trans b3).on bb hl
  have rd3':=rd3.on bb
  have he3:=HE.out.but BB3 hr
  clear X2 cT
  cases hv:nxT vlT ts with
  | some y =>
   obtain⟨tt,rs⟩:=y
   have cT:=zfD _ r tt ts rs rd3' HG.out he3 hv
   have hU:=zpg (sub:=sub) hn hv
   have hts:=HG.out tt (by rw[(zal hv).1];exact List.mem_cons_self)
   have hvt:=(zal hv).2
   have cV:=fun W (h1:TEnv W)=>zel tt.2.1 W (by omega) h1.env
   rw[vlT] at hvt
   rw[valE] at hU
   obtain⟨tk,tx,ta⟩:=tt
   rw[tokV] at cT
   simp only at cT cV hU hts hvt
   obtain⟨vt,vn,vl,er,hrv⟩:∃vt vn vl er,readV tx=(vt,vn,vl,er):=⟨_,_,_,_,rfl⟩
   rw[hrv] at cV hU hvt
   simp only at hvt
   obtain rfl:er=0:=by simpa using hvt
   rw[readR,errV,if_pos rfl] at cV
   simp only at cV hU
   have hvl:vl.length≤40:=(zkq vt vn vl tx hrv).2.2.1
   have hvl2:(⟨vl.toArray⟩:ByteArray).size≤maxLen:=by show vl.toArray.size≤maxLen;rw[List.size_toArray];unfold maxLen;omega
   generalize (⟨vl.toArray⟩:ByteArray)=vs at cV hU hvl2
   clear hn hv hrv hvt
   go_wp2_with fail
   refine cT.mono ?_
   rintro e w4 ⟨rfl,rd4,b4⟩
   have hz4:w3.heap.size+1≤w4.heap.size:=by have:=b4.size;simpa using this
   have bb4:=al w4 (.cells #[.int .i64 tk,.string tx,.int .i64 (ta:Int)] 83)
   have X4:=(X3.but b4 (by omega)).on bb4
   have BB4:=(BB3.trans b4).on bb4 hl
   have rd4':=rd4.on bb4
   clear X3 cT bb
   go_wp2_with fail
   refine (cV _ (HE.out.but BB4 hr)).mono ?_
   rintro e w5 ⟨rfl,b5⟩
   have hz5:w4.heap.size+1≤w5.heap.size:=by have:=b5.size;simpa using this
   have hlt5:w4.heap.size<w5.heap.size:=by omega
   have g2:w5.cell? ⟨w4.heap.size,2,none⟩=some (.int .i64 (ta:Int)):=by rw[b5.cell (p:=⟨w4.heap.size,2,none⟩) (by simp),World.cell?_alloc_at _ _ _ _ rfl];rfl
   obtain⟨c0,c1,c2,c3,c4,c5,c6,cf,cl⟩:=X4.on b5
   have rf0:=cf 0
   have rf1:=cf 1
   have rf2:=cf 2
   have rf3:=cf 3
   have rf4:=cf 4
   have rf5:=cf 5
   have rf6:=cf 6
   have BB5:=BB4.on b5 hl
   have rd5:=rd4'.on b5
   clear cf X4 cV
   go_wp2
   refine bodyPost_ret (v:=.tuple #[.agg #[.string ⟨#[118,97,108]⟩,.string ⟨#[]⟩,.int .i64 vt,.int .i64 vn,.string vs,.slice none 0 0,.int .i64 (ta:Int)],.bool true]) (by simp[results,Tryz.results264,go_sem,c0,c1,c2,c3,c4,c5,c6,cl]) rfl ⟨_,true,.node ⟨#[118,97,108]⟩ ⟨#[]⟩ vt vn vs (ta:Int) [],rfl,?_,?_,?_,?_⟩
   ·exact zgX (by decide) (by decide) hvl2
   ·rw[hU];exact (rd5.set7 (by omega) _ _ _ _ _ _ _).on (al _ _)
   ·exact (BB5.set7 (Nat.le_refl _) (by omega) _ _ _ _ _ _ _).on (al _ _) hl
   ·rw[hU];exact rfl
  | none =>
   have cT:=zfC _ r ts rd3' HG.out he3 hv
   rw[noTok] at cT
   go_wp2_with fail
   refine cT.mono ?_
   rintro e w4 ⟨rfl,rd4,b4⟩
   have hz4:w3.heap.size+1≤w4.heap.size:=by have:=b4.size;simpa using this
   have bb4:=al w4 (.cells #[.int .i64 0,.string ⟨#[]⟩,.int .i64 0] 83)
   have X4:=(X3.but b4 (by omega)).on bb4
   have BB4:=(BB3.trans b4).on bb4 hl
   have rd4':=rd4.on bb4
   have he4:=HE.out.but BB4 hr
   clear X3 cT bb
   cases hc:nxT nmT ts with
   | some y =>
    obtain⟨tt,rs⟩:=y
    have cT:=zfB _ r tt ts rs rd4' HG.out he4 hc
    have hU:=zpe (sub:=sub) hn hv hc
    have hts:=HG.out tt (by rw[(zal hc).1];exact List.mem_cons_self)
    rw[colE1] at hU
    obtain⟨tk,tx,ta⟩:=tt
    rw[tokV] at cT
    simp only at cT hU hts
    clear hn hv hc
    go_wp2_with fail
    refine cT.mono ?_
    rintro e w5 ⟨rfl,rd5,b5⟩
    have hz5:w4.heap.size+1≤w5.heap.size:=by have:=b5.size;simpa using this
    obtain⟨c0,c1,c2,c3,c4,c5,c6,cf,cl⟩:=X4.but b5 (by omega)
    have rf0:=cf 0
    have rf1:=cf 1
    have rf2:=cf 2
    have rf3:=cf 3
    have rf4:=cf 4
    have rf5:=cf 5
    have rf6:=cf 6
    have BB5:=BB4.trans b5
    clear cf X4
    go_wp2
    refine bodyPost_ret (v:=.tuple #[.agg #[.string ⟨#[99,111,108]⟩,.string tx,.int .i64 0,.int .i64 0,.string ⟨#[]⟩,.slice none 0 0,.int .i64 (ta:Int)],.bool true]) (by simp[results,Tryz.results264,go_sem,c0,c1,c2,c3,c4,c5,c6,cl]) rfl ⟨_,true,.node ⟨#[99,111,108]⟩ tx 0 0 ⟨#[]⟩ (ta:Int) [],rfl,?_,?_,?_,?_⟩
    ·exact zgX (by decide) (by unfold maxLen;omega) (by decide)
    ·rw[hU];exact (rd5.set7 (by omega) _ _ _ _ _ _ _).on (al _ _)
    ·exact (BB5.set7 (Nat.le_refl _) (by omega) _ _ _ _ _ _ _).on (al _ _) hl
    ·rw[hU];exact rfl
   | none =>
    have cT:=zfA _ r ts rd4' HG.out he4 hc
    have HU:Hid (uOne sub ts=((uBr sub 1 [] ts).1.bind List.head?,(uBr sub 1 [] ts).2)):=zrT (sub:=sub) hn hv hc
    rw[noTok] at cT
    clear hn hv hc
    go_wp2_with fail
    refine cT.mono ?_
    rintro e w5 ⟨rfl,rd5,b5⟩
    have hz5:w4.heap.size+1≤w5.heap.size:=by have:=b5.size;simpa using this
    have bb5:=al w5 (.cells #[.int .i64 0,.string ⟨#[]⟩,.int .i64 0] 83)
    have X5:=(X4.but b5 (by omega)).on bb5
    have BB5:=(BB4.trans b5).on bb5 hl
    have rd5':=rd5.on bb5
    have cB:=zco sub 1 (by decide) ts hsuf HG.out HC.out _ r rd5' (HE.out.but BB5 hr) hr
    clear X4 cT bb4
    go_wp2_with fail
    refine cB.mono ?_
    rintro e w6 ⟨v,ok,xs,rfl,hx,hrd,hbt,hres⟩
    have hz6:w5.heap.size+1≤w6.heap.size:=by have:=hbt.out.size;simpa using this
    obtain⟨c0,c1,c2,c3,c4,c5,c6,cf,cl⟩:=X5.but hbt.out (by omega)
    have rf0:=cf 0
    have rf1:=cf 1
    have rf2:=cf 2
    have rf3:=cf 3
    have rf4:=cf 4
    have rf5:=cf 5
    have rf6:=cf 6
    have BB6:=BB5.trans hbt.out
    clear cf X5 cB
    cases ok
    ·obtain⟨q5,e5,rfl,_,_⟩:=hx.out
     have HU2:Hid (uOne sub ts=(none,(uBr sub 1 [] ts).2)):=by show _=_;rw[HU.out,hres.out];rfl
     go_wp2
     refine bodyPost_ret (v:=.tuple #[.agg #[.string ⟨#[]⟩,.string ⟨#[]⟩,.int .i64 0,.int .i64 0,.string ⟨#[]⟩,.slice none 0 0,.int .i64 0],.bool false]) (by simp[results,Tryz.results264,go_sem,c0,c1,c2,c3,c4,c5,c6]) rfl ⟨_,false,ex0,rfl,?_,?_,?_,?_⟩
     ·exact zeX _ _
     ·rw[HU2.out];exact hrd.out.set7 (by omega) _ _ _ _ _ _ _
     ·exact BB6.set7 (Nat.le_refl _) (by omega) _ _ _ _ _ _ _
     ·rw[HU2.out];exact rfl
    ·have hlen:=zmY 1 [] ts xs hres.out
     obtain⟨x,rfl⟩:∃x,xs=[x]:=by
      match xs,hlen with
      | [x],_=>exact⟨x,rfl⟩
     obtain⟨q5,e5,rfl,_,h7⟩:=hx.out
     have HU2:Hid (uOne sub ts=(some x,(uBr sub 1 [] ts).2)):=by show _=_;rw[HU.out,hres.out];rfl
     rcases h7 with h7|⟨gb,go,rfl,hgl,hglo,h7⟩
     ·simp at h7
     rw[ExsIn] at h7
     obtain⟨⟨v0,v1,v2,v3,v4,v5,v6,e0,e1,e2,e3,e4,e5',e6,hxx⟩,_⟩:=h7
     obtain⟨u0,u1,u2,u3,u4,u5,u6,u7,u8,huu⟩:=hxx.agg
     injection huu with huu
     simp only[Array.mk.injEq,List.cons.injEq,and_true] at huu
     obtain⟨rfl,rfl,rfl,rfl,rfl,rfl,rfl⟩:=huu
     go_wp2
     refine bodyPost_ret (v:=.tuple #[.agg #[.string u0,.string u1,.int .i64 u2,.int .i64 u3,.string u4,.slice u5 u6 u7,.int .i64 u8],.bool true]) (by simp[results,Tryz.results264,go_sem,c0,c1,c2,c3,c4,c5,c6]) rfl ⟨_,true,x,rfl,?_,?_,?_,?_⟩
     ·exact ExIn.low (fun b _ hb=>(show w.heap.size≤b by simp at hb;omega)) _ _ (hxx.set7 (fun b hb=>by simp at hb;omega) _ _ _ _ _ _ _)
     ·rw[HU2.out];exact hrd.out.set7 (by omega) _ _ _ _ _ _ _
     ·exact BB6.set7 (Nat.le_refl _) (by omega) _ _ _ _ _ _ _
     ·rw[HU2.out];exact rfl
end
theorem zeh{w w':World}{B B':Nat}{e e':TypeId}{size size' n m:Nat}{u v:Value}{xs ys:List Value}(h:w.ownsRow B e size u n xs)(h':w.ownsRow B' e' size' v m ys)(hne:e≠e')(hg:w.grownBy w' v.ownBlock):w'.ownsRow B e size u n xs:=by
 refine⟨h.1,?_⟩
 rcases h.2 with hn|⟨g,cap,cur,rfl,h1,hgg,rest⟩
 ·exact .inl hn
 ·refine .inr ⟨g,cap,cur,rfl,h1,?_,rest⟩
  rw[hg.block g (Array.getElem?_eq_some_iff.1 hgg).1 (fun hb=>?_)]
  ·exact hgg
  ·rcases h'.2 with ⟨rfl,_⟩|⟨g',cap',cur',rfl,_,hgg',_⟩
   ·simp[Value.ownBlock] at hb
   ·have:g=g':=by simpa [Value.ownBlock] using hb
    subst this
    rw[hgg] at hgg'
    injection hgg' with hgg'
    injection hgg' with _ h2 _
    exact hne h2
end Go.Proofs.YtopghagjmdbglaaGreatDoor
