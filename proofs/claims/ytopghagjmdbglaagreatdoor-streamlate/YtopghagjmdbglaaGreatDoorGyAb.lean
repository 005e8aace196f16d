/-
  Print, UnqSteps, Unquote, Parse, Back, NumFacts, RdFacts, LexPure, Lex1.
-/
import Derived.Test.YtopghagjmdbglaaGreatDoorGyAa
import Derived.Test.YtopghagjmdbglaaGreatDoorYShelf
import Derived.WalkSmall
import Derived.Lib.LaidTab
import Derived.Lib.AppendIntMem
import Derived.WalkKit
import Derived.Test.YtopghagjmdbglaaGreatDoorProg
import Derived.Lib.AtoiAllCases
import Derived.Lib.ItoaLen
import Derived.Lib.OthersKept
import Derived.Laws.RangeAny
import Derived.Deep.DeepCutAuto
namespace Go.Proofs.YtopghagjmdbglaaGreatDoor
open Go.RowKit
set_option linter.unusedVariables false
set_option linter.unusedSimpArgs false
set_option maxHeartbeats 8000000
set_option maxRecDepth 20000
structure Env(w:World):Prop where
 tab : Lib.TabIs Tryz.prog w "internal/strconv.uint64pow10" .u64 Lib.pow10Tab
 syn : ∃ tp p, w.var? Tryz.prog "strconv.ErrSyntax" = some #[.iface tp p]
 ran : ∃ tp p, w.var? Tryz.prog "strconv.ErrRange" = some #[.iface tp p]
 big:9<w.heap.size∧5<w.heap.size∧6<w.heap.size
theorem g_tab : Tryz.prog.globalNamed "internal/strconv.uint64pow10" = some 9 := by kernel_rfl
theorem g_syn : Tryz.prog.globalNamed "strconv.ErrSyntax" = some 5 := by kernel_rfl
theorem g_ran : Tryz.prog.globalNamed "strconv.ErrRange" = some 6 := by kernel_rfl
theorem Env.on{w w':World}(h:Env w)(hb:Below w.heap.size w w'):Env w':=by
 have hbig:=h.big
 refine⟨?_,?_,?_,?_⟩
 ·exact var?_below hb g_tab (by omega) h.tab
 ·obtain⟨tp,p,hv⟩:=h.syn;exact⟨tp,p,var?_below hb g_syn (by omega) hv⟩
 ·obtain⟨tp,p,hv⟩:=h.ran;exact⟨tp,p,var?_below hb g_ran (by omega) hv⟩
 ·have:=hb.size;omega
theorem Env.alloc{w:World}(h:Env w)(o:Obj):Env (w.alloc o):=h.on ((Below.refl _ _).alloc (Nat.le_refl _) o)

def shown(t n:Int)(l:List UInt8):List UInt8 :=
 if t=1 then Lib.itoa n
 else if t=2 then (if n=1 then [116,114,117,101] else [102,97,108,115,101])
 else 39::(esc l++[39])
def prS(t n:Int)(l:List UInt8):List UInt8:=if chk t n l=0 then shown t n l else []

theorem zgr{w w':World}(h:∃k os,w'=Sort.grow (w.drewN k) os):Below w.heap.size w w':=by
 obtain⟨k,os,rfl⟩:=h
 exact Lib.below_grow _ w (Nat.le_refl _) k os
def rest(s:ByteArray)(j:Nat):List UInt8:=(s.data.toList.drop j).take (s.size-1-j)
theorem zbB(s:ByteArray)(j:Nat)(h:j+1<s.size):rest s j=s[j]::rest s (j+1):=by
 have hl:j<s.data.toList.length:=by simp;omega
 rw[rest,rest,List.drop_eq_getElem_cons hl,show s.size-1-j=(s.size-1-(j+1))+1 from by omega,List.take_succ_cons]
 rfl
theorem zkp(s:ByteArray)(j:Nat)(h:s.size≤j+1):rest s j=[]:=by
 rw[rest,show s.size-1-j=0 from by omega,List.take_zero]
def Got(s:ByteArray)(j:Nat)(l:List UInt8):Prop:=unq (rest s 1)=(unq (rest s j)).map (l++·)
theorem zof(s:ByteArray):Got s 1 []:=by simp[Got]
theorem zog{s:ByteArray}{j:Nat}{l:List UInt8}(h:j+1<s.size)(hc:(s[j].toNat:Int)≠39)(g:Got s j l):Got s (j+1) (l++[s[j]]):=by
 have hne:s[j]≠39:=fun e=>hc (by rw[e];rfl)
 rw[Got,zbB s j h,zqZ _ _ hne,Option.map_map] at g
 rw[Got,g]
 congr 1
 funext x
 simp
theorem zrV{s:ByteArray}{j:Nat}{l:List UInt8}(h:j+2<s.size)(hc:(s[j].toNat:Int)=39)(hd:(s[j+1].toNat:Int)=39)(g:Got s j l):Got s (j+2) (l++[s[j+1]]):=by
 have h1:s[j]=39:=UInt8.toNat_inj.1 (by rw[show (39:UInt8).toNat=39 from rfl];omega)
 have h2:s[j+1]=39:=UInt8.toNat_inj.1 (by rw[show (39:UInt8).toNat=39 from rfl];omega)
 rw[Got,zbB s j (by omega),zbB s (j+1) (by omega),h1,h2,zoD,Option.map_map] at g
 rw[Got,g,h2]
 congr 1
 funext x
 simp
theorem zum{s:ByteArray}{j:Nat}{l:List UInt8}(h:j+2=s.size)(hc:(s[j].toNat:Int)=39)(g:Got s j l):unq (rest s 1)=none:=by
 have h1:s[j]=39:=UInt8.toNat_inj.1 (by rw[show (39:UInt8).toNat=39 from rfl];omega)
 rw[Got,zbB s j (by omega),zkp s (j+1) (by omega),h1,zoV] at g
 rw[g];rfl
theorem zts{s:ByteArray}{j:Nat}{l:List UInt8}(h:j+2<s.size)(hc:(s[j].toNat:Int)=39)(hd:(s[j+1].toNat:Int)≠39)(g:Got s j l):unq (rest s 1)=none:=by
 have h1:s[j]=39:=UInt8.toNat_inj.1 (by rw[show (39:UInt8).toNat=39 from rfl];omega)
 have h2:s[j+1]≠39:=fun e=>hd (by rw[e];rfl)
 rw[Got,zbB s j (by omega),zbB s (j+1) (by omega),h1,zoI _ _ h2] at g
 rw[g];rfl
theorem zsM{s:ByteArray}{j:Nat}{l:List UInt8}(h:s.size≤j+1)(g:Got s j l):unq (rest s 1)=some l:=by
 rw[Got,zkp s j h] at g
 rw[g];simp[unq]
def unqT(s:ByteArray):Option (List UInt8) :=
 if h:2≤s.size then (if (s[0].toNat:Int)=39∧(s[s.size-1].toNat:Int)=39 then unq (rest s 1) else none) else none
def cellsOf(l:List UInt8):List Value:=l.map fun c=>Value.int .u8 (c.toNat:Int)
theorem zkl(l:List UInt8)(c:UInt8):cellsOf (l++[c])=cellsOf l++[Value.int .u8 (c.toNat:Int)]:=by simp[cellsOf]
theorem zrU:(Tryz.prog.info? 5).map (fun i=>(i.zero,i.size,i.bytes))=some (some (.int .u8 0),1,1):=by kernel_rfl

theorem zoA{B:Nat}{l:List UInt8}{c:UInt8}{w wr w1:World}{v v':Value}{o:Obj}(hown:wr.ownsRow B 5 1 v l.length (cellsOf l))(hnx:Below B w wr)(hB:B≤wr.heap.size)
  (hown':w1.ownsRow B 5 1 v' (l.length+1) (cellsOf l++[.int .u8 (c.toNat:Int)]))(hgrow:(wr.alloc o).grownBy w1 v.ownBlock) :
  w1.ownsRow B 5 1 v' (l++[c]).length (cellsOf (l++[c]))∧Below B w w1 :=
 ⟨by rw[zkl,List.length_append];exact hown',(hnx.alloc hB o).grown hgrow (by simp;omega) (fun j hj=>(hown.lt j hj).1)⟩
theorem zqH(w:World):(convert 190 9 (.slice none 0 0)).run Tryz.prog w=.ok (.string ⟨#[]⟩) w:=by kernel_rfl
theorem zpr{B:Nat}{l:List UInt8}{wr:World}{v:Value}(hown:wr.ownsRow B 5 1 v l.length (cellsOf l)) :
  (convert 190 9 v).run Tryz.prog wr=.ok (.string ⟨l.toArray⟩) wr:=by
 have h:=hown.2
 rcases h with ⟨rfl,hn⟩|⟨g,cap,cur,rfl,_,_,_,_,_,_⟩
 ·obtain rfl:l=[]:=List.length_eq_zero_iff.1 hn
  exact zqH wr
 ·exact run_convert_bytes_back (P:=Tryz.prog) wr 190 9 5 ⟨g,0,none⟩ cap l Tryz.underlying190 Tryz.underlying5 Tryz.underlying9 (fun j hj=>hown.cells (g:=g) rfl j _ (by simp[cellsOf,hj]))

set_option maxRecDepth 1000000 in
theorem zlb(s:ByteArray)(w:World)(hs:s.size≤140737488355328)(h2:2≤s.size)(ha:(s[0].toNat:Int)=39)(hz:(s[s.size-1].toNat:Int)=39) :
  Calls Tryz.prog 181 #[.string s] w fun e w'=>∃x b,e=.returned (.tuple #[.string x,.bool b])∧((b=true∧∃l,unq (rest s 1)=some l∧x=⟨l.toArray⟩)∨(b=false∧x=⟨#[]⟩∧unq (rest s 1)=none))∧Below w.heap.size w w':=by
 obtain⟨i0,hi,hz0,hz1,hz2⟩:=info_parts zrU
 have hlast:(s.size:Int)-1=((s.size-1:Nat):Int):=by omega
 have hA:Hid ((s[0].toNat:Int)=39):=ha
 have hZ:Hid ((s[s.size-1].toNat:Int)=39):=hz
 go_enter Tryz.func181,Tryz.ntmps181
 go_wp2
 go_loopw [5,6] (fun v i wr=>∃(j:Nat) (l:List UInt8),1≤j∧j+1≤s.size∧i=.int .i64 (j:Nat)∧wr.ownsRow w.heap.size 5 1 v l.length (cellsOf l)∧Below w.heap.size w wr∧Got s j l∧l.length<j)
  (fun _ i _=>s.size-(intOf i).toNat)
 case atStart=>exact⟨1,[],Nat.le_refl _,by omega,rfl,World.ownsRow_nil _ _ _ _,Below.refl _ _,zof s,by simp⟩
 case round =>
  obtain⟨j,l,hj1,hj2,rfl,hown,hnx,hgot,hlen⟩:=hrel
  have HG:Hid (Got s j l):=hgot
  clear hgot
  by_cases hlt:j+1<s.size
  ·have hjs:j<s.size:=by omega
   by_cases hc:(s[j].toNat:Int)=39
   ·have HC:Hid ((s[j].toNat:Int)=39):=hc
    have hcb:((s[j].toNat:Int) == 39)=true:=by simpa using hc
    clear hc
    by_cases hl2:j+2<s.size
    ·have hjs2:j+1<s.size:=by omega
     have hne:((j:Int)+1 == ((s.size-1:Nat):Int))=false:=by simp;omega
     by_cases hd:(s[j+1].toNat:Int)=39
     ·have HD:Hid ((s[j+1].toNat:Int)=39):=hd
      have hdb:((s[j+1].toNat:Int) != 39)=false:=by simpa using hd
      clear hd
      go_wp2_with (at_builtin;refine wpList_append_own _ rfl _ _ 190 rfl w.heap.size 5 i0 (.int .u8 0) 1 1 Tryz.underlying190 hi hz0 hz1 hz2 rfl (by decide) _ _ _ rfl (hown.alloc _) ⟨wr.heap.size,0,none⟩ 1 1 [.int .u8 (s[j+1].toNat:Int)] rfl rfl ?c1 ?c2 ?c3 ?c4 ?c5 ?_)
      case c1 =>
       intro i u hu
       match i,hu with
       | 0,hu=>simp at hu;subst hu;simp[Addr.add]
      case c2=>intro u hu;simp at hu;subst hu;rfl
      case c3=>unfold maxLen;omega
      case c4=>omega
      case c5=>have:=hnx.size;simp;omega
      ·intro v' w1 hown' hgrow _
       have R:=zoA hown hnx (by have:=hnx.size;omega) hown' hgrow
       clear hown' hgrow hown hnx
       go_wp2
       go_roundw
       case rel=>exact⟨j+2,l++[s[j+1]],by omega,by omega,by go_num,R.1,R.2,zrV hl2 HC.out HD.out HG.out,by simp;omega⟩
       case measure=>simp[intOf];omega
     ·have HD:Hid ((s[j+1].toNat:Int)≠39):=hd
      have hdb:((s[j+1].toNat:Int) != 39)=true:=by simpa using hd
      clear hd
      go_wp2
      go_ret2
      exact⟨_,_,rfl,Or.inr ⟨rfl,rfl,zts hl2 HC.out HD.out HG.out⟩,hnx⟩
    ·have hne:((j:Int)+1 == ((s.size-1:Nat):Int))=true:=by simp;omega
     go_wp2
     go_ret2
     exact⟨_,_,rfl,Or.inr ⟨rfl,rfl,zum (by omega) HC.out HG.out⟩,hnx⟩
   ·have HC:Hid ((s[j].toNat:Int)≠39):=hc
    have hcb:((s[j].toNat:Int) == 39)=false:=by simpa using hc
    clear hc
    go_wp2_with (at_builtin;refine wpList_append_own _ rfl _ _ 190 rfl w.heap.size 5 i0 (.int .u8 0) 1 1 Tryz.underlying190 hi hz0 hz1 hz2 rfl (by decide) _ _ _ rfl (hown.alloc _) ⟨wr.heap.size,0,none⟩ 1 1 [.int .u8 (s[j].toNat:Int)] rfl rfl ?c1 ?c2 ?c3 ?c4 ?c5 ?_)
    case c1 =>
     intro i u hu
     match i,hu with
     | 0,hu=>simp at hu;subst hu;simp[Addr.add]
    case c2=>intro u hu;simp at hu;subst hu;rfl
    case c3=>unfold maxLen;omega
    case c4=>omega
    case c5=>have:=hnx.size;simp;omega
    ·intro v' w1 hown' hgrow _
     have R:=zoA hown hnx (by have:=hnx.size;omega) hown' hgrow
     clear hown' hgrow hown hnx
     go_wp2
     go_roundw
     case rel=>exact⟨j+1,l++[s[j]],by omega,by omega,by go_num,R.1,R.2,zog hlt HC.out HG.out,by simp;omega⟩
     case measure=>simp[intOf];omega
  ·have hcv:=zpr hown
   go_wp2
   go_ret2
   exact⟨_,_,rfl,Or.inl ⟨rfl,l,zsM (by omega) HG.out,rfl⟩,hnx⟩
theorem ziS(s:ByteArray)(w:World)(hs:s.size≤140737488355328)(h:¬∃h2:2≤s.size,(s[0].toNat:Int)=39∧(s[s.size-1].toNat:Int)=39) :
  Calls Tryz.prog 181 #[.string s] w fun e w'=>e=.returned (.tuple #[.string ⟨#[]⟩,.bool false])∧w'=w:=by
 by_cases h2:2≤s.size
 ·have hlast:(s.size:Int)-1=((s.size-1:Nat):Int):=by omega
  have hj0:0<s.size:=by omega
  have hj1:s.size-1<s.size:=by omega
  by_cases ha:(s[0].toNat:Int)=39
  ·have hz:((s[s.size-1].toNat:Int) != 39)=true:=by
    rw[bne_iff_ne];exact fun e=>h ⟨h2,ha,e⟩
   have ha':((s[0].toNat:Int) != 39)=false:=by simpa using ha
   clear ha h
   go_enter Tryz.func181,Tryz.ntmps181
   go_wp2
   go_ret2
   exact⟨rfl,rfl⟩
  ·have ha':((s[0].toNat:Int) != 39)=true:=by simpa using ha
   clear ha h
   go_enter Tryz.func181,Tryz.ntmps181
   go_wp2
   go_ret2
   exact⟨rfl,rfl⟩
 ·clear h
  go_enter Tryz.func181,Tryz.ntmps181
  go_wp2
  go_ret2
  exact⟨rfl,rfl⟩
theorem zei(s:ByteArray)(w:World)(hs:s.size≤140737488355328) :
  Calls Tryz.prog 181 #[.string s] w fun e w'=>∃x b,e=.returned (.tuple #[.string x,.bool b])∧((b=true∧∃l,unqT s=some l∧x=⟨l.toArray⟩)∨(b=false∧x=⟨#[]⟩∧unqT s=none))∧Below w.heap.size w w':=by
 by_cases h:∃h2:2≤s.size,(s[0].toNat:Int)=39∧(s[s.size-1].toNat:Int)=39
 ·obtain⟨h2,ha,hz⟩:=h
  have hu:unqT s=unq (rest s 1):=by rw[unqT,dif_pos h2,if_pos ⟨ha,hz⟩]
  rw[hu]
  exact zlb s w hs h2 ha hz
 ·have hu:unqT s=none:=by
   rw[unqT]
   split
   ·rename_i h2
    rw[if_neg (fun e=>h ⟨h2,e⟩)]
   ·rfl
  exact (ziS s w hs h).mono fun e w' hh=>⟨_,_,hh.1,Or.inr ⟨rfl,rfl,hu⟩,by rw[hh.2];exact Below.refl _ _⟩
theorem zbM(s:ByteArray)(l:List UInt8)(w:World)(hs:s.size≤140737488355328)(h:unqT s=some l) :
  Calls Tryz.prog 181 #[.string s] w fun e w'=>e=.returned (.tuple #[.string ⟨l.toArray⟩,.bool true])∧Below w.heap.size w w' :=
 (zei s w hs).mono fun e w' ⟨x,b,he,hc,hb⟩=>⟨(by
  rcases hc with ⟨rfl,l',hl,rfl⟩|⟨_,_,hn⟩
  ·rw[h] at hl;cases hl;exact he
  ·rw[h] at hn;cases hn),hb⟩
theorem zhi(s:ByteArray)(w:World)(hs:s.size≤140737488355328)(h:unqT s=none) :
  Calls Tryz.prog 181 #[.string s] w fun e w'=>e=.returned (.tuple #[.string ⟨#[]⟩,.bool false])∧Below w.heap.size w w' :=
 (zei s w hs).mono fun e w' ⟨x,b,he,hc,hb⟩=>⟨(by
  rcases hc with ⟨_,l',hl,_⟩|⟨rfl,rfl,_⟩
  ·rw[h] at hl;cases hl
  ·exact he),hb⟩
theorem zdy(s:ByteArray)(n:Int)(w:World)(hs:s.size≤140737488355328)(h:Lib.atoiAll s.data.toList=.ok n) :
  Calls Tryz.prog 97 #[.string s] w fun e w'=>e=.returned (.tuple #[.int .i64 n,.nilIface])∧Below w.heap.size w w' :=
 (Tryz.strconv_Atoi_ok s (by omega) n h w).mono fun e w' hh=>⟨hh.1,(by
  rcases hh.2 with rfl|⟨t,rfl⟩
  ·exact Below.refl _ _
  ·exact Lib.bytesWorld_below _ _ _)⟩
theorem zcH(s:ByteArray)(w:World)(hs:s.size≤140737488355328)(h:∀n,Lib.atoiAll s.data.toList≠.ok n)(henv:Env w) :
  Calls Tryz.prog 97 #[.string s] w fun e w'=>∃n t v,e=.returned (.tuple #[.int .i64 n,.iface t v])∧Below w.heap.size w w':=by
 cases hh:Lib.atoiAll s.data.toList
 ·exact absurd hh (h _)
 ·obtain⟨tp,p,hv⟩:=henv.syn
  exact (Any.strconv_Atoi_syntax_var Tryz.laysC172 s (by omega) hh tp p w hv).mono fun e w' ⟨N,he,_,_,hb⟩=>⟨_,_,_,he,hb⟩
 ·obtain⟨tp,p,hv⟩:=henv.ran
  exact (Any.strconv_Atoi_range_var Tryz.laysC172 s (by omega) hh tp p w hv).mono fun e w' ⟨N,he,_,_,hb⟩=>⟨_,_,_,he,hb⟩

theorem ziD{w w1 w2:World}{o:Obj}(b1:Below (w.alloc o).heap.size (w.alloc o) w1)(b2:Below w1.heap.size w1 w2):Below w.heap.size w w2:=by
 have:=b1.size
 simp at this
 exact ((Below.refl _ _).alloc (Nat.le_refl _) _).trans ((b1.mono (by simp)).trans (b2.mono (by omega)))
theorem zbg{w w1:World}{o:Obj}(b1:Below (w.alloc o).heap.size (w.alloc o) w1):Below w.heap.size w w1 :=
 ((Below.refl _ _).alloc (Nat.le_refl _) _).trans (b1.mono (by simp))

theorem zjk(s:ByteArray)(n:Int)(w:World)(hs:s.size≤140737488355328)(hn:-9223372036854775808≤n∧n≤9223372036854775807)(h:Lib.atoiAll s.data.toList=.ok n)(hi:Lib.itoa n=s.data.toList)(henv:Env w) :
  Calls Tryz.prog 152 #[.string s] w fun e w'=>e=.returned (.tuple #[.agg #[.int .i64 1,.int .i64 n,.string ⟨#[]⟩],.nilIface])∧Below w.heap.size w w':=by
 have H:Hid (Lib.atoiAll s.data.toList=.ok n):=h
 have he:(⟨(Lib.itoa n).toArray⟩:ByteArray)=s:=by rw[hi]
 have HE:Hid ((⟨(Lib.itoa n).toArray⟩:ByteArray)=s):=he
 clear h he hi
 go_enter Tryz.func152,Tryz.ntmps152
 go_wp2_with fail
 refine (zdy s n _ hs H.out).mono ?_
 rintro e w1 ⟨rfl,b1⟩
 obtain⟨hc,hf⟩:=bcell b1
 have hy:w.heap.size<w1.heap.size:=by have:=b1.size;simp at this;omega
 go_wp2_with fail
 refine (Tryz.strconv_Itoa n hn.1 hn.2 _ ((henv.alloc _).on b1).tab).mono ?_
 rintro e w2 ⟨rfl,h2⟩
 have b2:=zgr h2
 clear h2
 rw[HE.out]
 obtain⟨hc2,hf2⟩:=bcell b2
 go_wp2
 refine bodyPost_ret (v:=.tuple #[.agg #[.int .i64 1,.int .i64 n,.string ⟨#[]⟩],.nilIface]) (by simp[results,Tryz.results152,go_sem,hc,hc2,hy]) rfl ⟨rfl,?_⟩
 exact ((((ziD b1 b2).setCell (Nat.le_refl _) _).setCell (Nat.le_refl _) _).setCell (Nat.le_refl _) _)

theorem zeN(s:ByteArray)(n:Int)(w:World)(hs:s.size≤140737488355328)(hn:-9223372036854775808≤n∧n≤9223372036854775807)(h:Lib.atoiAll s.data.toList=.ok n)(hi:Lib.itoa n≠s.data.toList)(henv:Env w) :
  Calls Tryz.prog 152 #[.string s] w fun e w'=>e=.returned (.tuple #[.agg #[.int .i64 0,.int .i64 0,.string ⟨#[]⟩],.iface 35 (.int .i64 2)])∧Below w.heap.size w w':=by
 have H:Hid (Lib.atoiAll s.data.toList=.ok n):=h
 obtain⟨I,hI⟩:∃I:ByteArray,I=⟨(Lib.itoa n).toArray⟩:=⟨_,rfl⟩
 have hq:(I.toList == s.toList)=false:=by
  rw[hI,Lib.toList_data,Lib.toList_data]
  simpa using hi
 have HI:Hid (I=⟨(Lib.itoa n).toArray⟩):=hI
 clear h hI hi
 go_enter Tryz.func152,Tryz.ntmps152
 go_wp2_with fail
 refine (zdy s n _ hs H.out).mono ?_
 rintro e w1 ⟨rfl,b1⟩
 obtain⟨hc,hf⟩:=bcell b1
 have hy:w.heap.size<w1.heap.size:=by have:=b1.size;simp at this;omega
 go_wp2_with fail
 refine (Tryz.strconv_Itoa n hn.1 hn.2 _ ((henv.alloc _).on b1).tab).mono ?_
 rintro e w2 ⟨rfl,h2⟩
 have b2:=zgr h2
 clear h2
 rw[←HI.out]
 obtain⟨hc2,hf2⟩:=bcell b2
 go_wp2
 refine bodyPost_ret (v:=.tuple #[.agg #[.int .i64 0,.int .i64 0,.string ⟨#[]⟩],.iface 35 (.int .i64 2)]) (by simp[results,Tryz.results152,go_sem,hc,hc2,hy]) rfl ⟨rfl,?_⟩
 exact ((((ziD b1 b2).setCell (Nat.le_refl _) _).setCell (Nat.le_refl _) _).setCell (Nat.le_refl _) _)
theorem zcN(s:ByteArray)(w:World)(hs:s.size≤140737488355328)(h:∀n,Lib.atoiAll s.data.toList≠.ok n)(henv:Env w) :
  Calls Tryz.prog 152 #[.string s] w fun e w'=>e=.returned (.tuple #[.agg #[.int .i64 0,.int .i64 0,.string ⟨#[]⟩],.iface 35 (.int .i64 2)])∧Below w.heap.size w w':=by
 have H:Hid (∀n,Lib.atoiAll s.data.toList≠.ok n):=h
 clear h
 go_enter Tryz.func152,Tryz.ntmps152
 go_wp2_with fail
 refine (zcH s _ hs H.out (henv.alloc _)).mono ?_
 rintro e w1 ⟨n,t,v,rfl,b1⟩
 obtain⟨hc,hf⟩:=bcell b1
 have hy:w.heap.size<w1.heap.size:=by have:=b1.size;simp at this;omega
 go_wp2
 refine bodyPost_ret (v:=.tuple #[.agg #[.int .i64 0,.int .i64 0,.string ⟨#[]⟩],.iface 35 (.int .i64 2)]) (by simp[results,Tryz.results152,go_sem,hc]) rfl ⟨rfl,?_⟩
 exact ((((zbg b1).setCell (Nat.le_refl _) _).setCell (Nat.le_refl _) _).setCell (Nat.le_refl _) _)

theorem zeM(s:ByteArray)(w:World)(hs:s.size≤140737488355328)(h:unqT s=none) :
  Calls Tryz.prog 151 #[.string s] w fun e w'=>e=.returned (.tuple #[.agg #[.int .i64 0,.int .i64 0,.string ⟨#[]⟩],.iface 35 (.int .i64 2)])∧Below w.heap.size w w':=by
 have H:Hid (unqT s=none):=h
 clear h
 go_enter Tryz.func151,Tryz.ntmps151
 go_wp2_with fail
 refine (zhi s _ hs H.out).mono ?_
 rintro e w1 ⟨rfl,b1⟩
 obtain⟨hc,hf⟩:=bcell b1
 have hy:w.heap.size<w1.heap.size:=by have:=b1.size;simp at this;omega
 go_wp2
 refine bodyPost_ret (v:=.tuple #[.agg #[.int .i64 0,.int .i64 0,.string ⟨#[]⟩],.iface 35 (.int .i64 2)]) (by simp[results,Tryz.results151,go_sem,hc]) rfl ⟨rfl,?_⟩
 exact ((((zbg b1).setCell (Nat.le_refl _) _).setCell (Nat.le_refl _) _).setCell (Nat.le_refl _) _)

theorem zff(s:ByteArray)(l:List UInt8)(w:World)(hs:s.size≤140737488355328)(h:unqT s=some l)(hl:l.length≤140737488355328) :
  Calls Tryz.prog 151 #[.string s] w fun e w'=>e=.returned (.tuple (if zaH l=false then #[.agg #[.int .i64 0,.int .i64 0,.string ⟨#[]⟩],.iface 35 (.int .i64 2)]
   else if 40<l.length then #[.agg #[.int .i64 0,.int .i64 0,.string ⟨#[]⟩],.iface 35 (.int .i64 4)] else #[.agg #[.int .i64 3,.int .i64 0,.string ⟨l.toArray⟩],.nilIface]))∧Below w.heap.size w w':=by
 have H:Hid (unqT s=some l):=h
 clear h
 have hll:(⟨l.toArray⟩:ByteArray).size=l.length:=rfl
 by_cases hp:zaH l=false
 ·rw[if_pos hp]
  have HP:Hid (zaH (⟨l.toArray⟩:ByteArray).data.toList=false):=hp
  clear hp
  go_enter Tryz.func151,Tryz.ntmps151
  go_wp2_with fail
  refine (zbM s l _ hs H.out).mono ?_
  rintro e w1 ⟨rfl,b1⟩
  obtain⟨hc,hf⟩:=bcell b1
  have hy:w.heap.size<w1.heap.size:=by have:=b1.size;simp at this;omega
  go_wp2_with fail
  refine (zaD _ _ (by rw[hll];unfold maxLen;omega)).mono ?_
  rintro e w2 ⟨rfl,rfl⟩
  rw[HP.out]
  go_wp2
  refine bodyPost_ret (v:=.tuple #[.agg #[.int .i64 0,.int .i64 0,.string ⟨#[]⟩],.iface 35 (.int .i64 2)]) (by simp[results,Tryz.results151,go_sem,hc]) rfl ⟨rfl,?_⟩
  exact ((((zbg b1).setCell (Nat.le_refl _) _).setCell (Nat.le_refl _) _).setCell (Nat.le_refl _) _)
 ·rw[if_neg hp]
  have hp2:zaH l=true:=by simpa using hp
  have HP:Hid (zaH (⟨l.toArray⟩:ByteArray).data.toList=true):=hp2
  clear hp2
  clear hp
  by_cases h4:40<l.length
  ·rw[if_pos h4]
   go_enter Tryz.func151,Tryz.ntmps151
   go_wp2_with fail
   refine (zbM s l _ hs H.out).mono ?_
   rintro e w1 ⟨rfl,b1⟩
   obtain⟨hc,hf⟩:=bcell b1
   have hy:w.heap.size<w1.heap.size:=by have:=b1.size;simp at this;omega
   go_wp2_with fail
   refine (zaD _ _ (by rw[hll];unfold maxLen;omega)).mono ?_
   rintro e w2 ⟨rfl,rfl⟩
   rw[HP.out]
   go_wp2
   refine bodyPost_ret (v:=.tuple #[.agg #[.int .i64 0,.int .i64 0,.string ⟨#[]⟩],.iface 35 (.int .i64 4)]) (by simp[results,Tryz.results151,go_sem,hc]) rfl ⟨rfl,?_⟩
   exact ((((zbg b1).setCell (Nat.le_refl _) _).setCell (Nat.le_refl _) _).setCell (Nat.le_refl _) _)
  ·rw[if_neg h4]
   go_enter Tryz.func151,Tryz.ntmps151
   go_wp2_with fail
   refine (zbM s l _ hs H.out).mono ?_
   rintro e w1 ⟨rfl,b1⟩
   obtain⟨hc,hf⟩:=bcell b1
   have hy:w.heap.size<w1.heap.size:=by have:=b1.size;simp at this;omega
   go_wp2_with fail
   refine (zaD _ _ (by rw[hll];unfold maxLen;omega)).mono ?_
   rintro e w2 ⟨rfl,rfl⟩
   rw[HP.out]
   go_wp2
   refine bodyPost_ret (v:=.tuple #[.agg #[.int .i64 3,.int .i64 0,.string ⟨l.toArray⟩],.nilIface]) (by simp[results,Tryz.results151,go_sem,hc]) rfl ⟨rfl,?_⟩
   exact ((((zbg b1).setCell (Nat.le_refl _) _).setCell (Nat.le_refl _) _).setCell (Nat.le_refl _) _)

def readV(s:ByteArray):Int×Int×List UInt8×Int :=
 if s.data.toList=[116,114,117,101] then (2,1,[],0)
 else if s.data.toList=[102,97,108,115,101] then (2,0,[],0)
 else if Lib.hasPrefix s.data.toList [39]=true then
  (match unqT s with
  | none=>(0,0,[],2)
  | some l=>if zaH l=false then (0,0,[],2) else if 40<l.length then (0,0,[],4) else (3,0,l,0))
 else (match Lib.atoiAll s.data.toList with
  | .ok n=>if Lib.itoa n=s.data.toList then (1,n,[],0) else (0,0,[],2)
  | _=>(0,0,[],2))
def readR(r:Int×Int×List UInt8×Int):Value:=.tuple #[.agg #[.int .i64 r.1,.int .i64 r.2.1,.string ⟨r.2.2.1.toArray⟩],errV r.2.2.2]

theorem zqh{s:ByteArray}{l:List UInt8}(h:unqT s=some l):l.length≤s.size:=by
 rw[unqT] at h
 split at h
 ·split at h
  ·have h1:=zst _ _ h
   rw[rest] at h1
   simp at h1
   omega
  ·cases h
 ·cases h
theorem zcE{s:ByteArray}{n:Int}(h:Lib.atoiAll s.data.toList=.ok n):-9223372036854775808≤n∧n≤9223372036854775807:=by
 have:=Lib.atoiAll_bounds h
 omega

theorem zcr{s:ByteArray}{l:List UInt8}(h:s.data.toList=l):s=⟨l.toArray⟩:=by subst h;simp
theorem zlx(s:ByteArray)(w:World)(h:s.data.toList=[116,114,117,101]) :
  Calls Tryz.prog 118 #[.string s] w fun e w'=>e=.returned (.tuple #[.agg #[.int .i64 2,.int .i64 1,.string ⟨#[]⟩],.nilIface])∧Below w.heap.size w w':=by
 obtain rfl:s=⟨#[116,114,117,101]⟩:=zcr h
 clear h
 go_enter Tryz.func118,Tryz.ntmps118
 go_wp2
 exact bodyPost_ret (v:=.tuple #[.agg #[.int .i64 2,.int .i64 1,.string ⟨#[]⟩],.nilIface]) (by simp[results,Tryz.results118,go_sem]) rfl ⟨rfl,(Below.refl _ _).alloc (Nat.le_refl _) _⟩
theorem zju(s:ByteArray)(w:World)(h:s.data.toList=[102,97,108,115,101]) :
  Calls Tryz.prog 118 #[.string s] w fun e w'=>e=.returned (.tuple #[.agg #[.int .i64 2,.int .i64 0,.string ⟨#[]⟩],.nilIface])∧Below w.heap.size w w':=by
 obtain rfl:s=⟨#[102,97,108,115,101]⟩:=zcr h
 clear h
 go_enter Tryz.func118,Tryz.ntmps118
 go_wp2
 exact bodyPost_ret (v:=.tuple #[.agg #[.int .i64 2,.int .i64 0,.string ⟨#[]⟩],.nilIface]) (by simp[results,Tryz.results118,go_sem]) rfl ⟨rfl,(Below.refl _ _).alloc (Nat.le_refl _) _⟩
theorem zci(s x:ByteArray)(t n:Int)(er:Value)(w:World)(h1:s.data.toList≠[116,114,117,101])(h2:s.data.toList≠[102,97,108,115,101])(h3:Lib.hasPrefix s.data.toList [39]=true) 
  (hc0:∀W:World,Calls Tryz.prog 151 #[.string s] W fun e w'=>e=.returned (.tuple #[.agg #[.int .i64 t,.int .i64 n,.string x],er])∧Below W.heap.size W w') :
  Calls Tryz.prog 118 #[.string s] w fun e w'=>e=.returned (.tuple #[.agg #[.int .i64 t,.int .i64 n,.string x],er])∧Below w.heap.size w w':=by
 have q1:(s.toList == [116,114,117,101])=false:=by rw[Lib.toList_data];simpa using h1
 have q2:(s.toList == [102,97,108,115,101])=false:=by rw[Lib.toList_data];simpa using h2
 have H3:Hid (Lib.hasPrefix s.data.toList [39]=true):=h3
 have HC:=hc0
 clear hc0 h1 h2 h3
 go_enter Tryz.func118,Tryz.ntmps118
 go_wp2_with fail
 refine (Tryz.strings_HasPrefix s ⟨#[39]⟩ _).mono ?_
 rintro e w0 ⟨rfl,rfl⟩
 rw[show Lib.hasPrefix s.data.toList (⟨#[39]⟩:ByteArray).data.toList=true from H3.out]
 go_wp2_with fail
 refine (HC _).mono ?_
 rintro e w1 ⟨rfl,b1⟩
 obtain⟨hc,hf⟩:=bcell b1
 have hy:w.heap.size<w1.heap.size:=by have:=b1.size;simp at this;omega
 go_wp2
 refine bodyPost_ret (v:=.tuple #[.agg #[.int .i64 t,.int .i64 n,.string x],er]) (by simp[results,Tryz.results118,go_sem,hc]) rfl ⟨rfl,?_⟩
 exact ((((zbg b1).setCell (Nat.le_refl _) _).setCell (Nat.le_refl _) _).setCell (Nat.le_refl _) _)
theorem zdg(s x:ByteArray)(t n:Int)(er:Value)(w:World)(h1:s.data.toList≠[116,114,117,101])(h2:s.data.toList≠[102,97,108,115,101])(h3:Lib.hasPrefix s.data.toList [39]=false)(henv:Env w)
  (hc0:∀W:World,Env W→Calls Tryz.prog 152 #[.string s] W fun e w'=>e=.returned (.tuple #[.agg #[.int .i64 t,.int .i64 n,.string x],er])∧Below W.heap.size W w') :
  Calls Tryz.prog 118 #[.string s] w fun e w'=>e=.returned (.tuple #[.agg #[.int .i64 t,.int .i64 n,.string x],er])∧Below w.heap.size w w':=by
 have q1:(s.toList == [116,114,117,101])=false:=by rw[Lib.toList_data];simpa using h1
 have q2:(s.toList == [102,97,108,115,101])=false:=by rw[Lib.toList_data];simpa using h2
 have H3:Hid (Lib.hasPrefix s.data.toList [39]=false):=h3
 have HC:=hc0
 clear hc0 h1 h2 h3
 go_enter Tryz.func118,Tryz.ntmps118
 go_wp2_with fail
 refine (Tryz.strings_HasPrefix s ⟨#[39]⟩ _).mono ?_
 rintro e w0 ⟨rfl,rfl⟩
 rw[show Lib.hasPrefix s.data.toList (⟨#[39]⟩:ByteArray).data.toList=false from H3.out]
 go_wp2_with fail
 refine (HC _ (henv.alloc _)).mono ?_
 rintro e w1 ⟨rfl,b1⟩
 obtain⟨hc,hf⟩:=bcell b1
 have hy:w.heap.size<w1.heap.size:=by have:=b1.size;simp at this;omega
 go_wp2
 refine bodyPost_ret (v:=.tuple #[.agg #[.int .i64 t,.int .i64 n,.string x],er]) (by simp[results,Tryz.results118,go_sem,hc]) rfl ⟨rfl,?_⟩
 exact ((((zbg b1).setCell (Nat.le_refl _) _).setCell (Nat.le_refl _) _).setCell (Nat.le_refl _) _)

theorem zfo(s:ByteArray)(w:World)(hs:s.size≤140737488355328)(henv:Env w) :
  Calls Tryz.prog 118 #[.string s] w fun e w'=>e=.returned (readR (readV s))∧Below w.heap.size w w':=by
 by_cases h1:s.data.toList=[116,114,117,101]
 ·rw[readV,if_pos h1];exact zlx s w h1
 ·by_cases h2:s.data.toList=[102,97,108,115,101]
  ·rw[readV,if_neg h1,if_pos h2];exact zju s w h2
  ·by_cases h3:Lib.hasPrefix s.data.toList [39]=true
   ·rw[readV,if_neg h1,if_neg h2,if_pos h3]
    cases hu:unqT s with
    | none=>exact zci s ⟨#[]⟩ 0 0 _ w h1 h2 h3 fun W=>zeM s W hs hu
    | some l =>
     have hl:=zqh hu
     have hp:=fun W=>zff s l W hs hu (by omega)
     by_cases p1:zaH l=false
     ·simp only[if_pos p1] at hp ⊢
      exact zci s ⟨#[]⟩ 0 0 _ w h1 h2 h3 hp
     ·simp only[if_neg p1] at hp ⊢
      by_cases p2:40<l.length
      ·simp only[if_pos p2] at hp ⊢
       exact zci s ⟨#[]⟩ 0 0 _ w h1 h2 h3 hp
      ·simp only[if_neg p2] at hp ⊢
       exact zci s ⟨l.toArray⟩ 3 0 _ w h1 h2 h3 hp
   ·have h3':Lib.hasPrefix s.data.toList [39]=false:=by simpa using h3
    rw[readV,if_neg h1,if_neg h2,if_neg h3]
    cases ha:Lib.atoiAll s.data.toList
    ·rename_i n
     have hn:=zcE ha
     by_cases hi:Lib.itoa n=s.data.toList
     ·simp only[if_pos hi]
      exact zdg s ⟨#[]⟩ 1 n _ w h1 h2 h3' henv fun W he=>zjk s n W hs hn ha hi he
     ·simp only[if_neg hi]
      exact zdg s ⟨#[]⟩ 0 0 _ w h1 h2 h3' henv fun W he=>zeN s n W hs hn ha hi he
    ·exact zdg s ⟨#[]⟩ 0 0 _ w h1 h2 h3' henv fun W he=>zcN s W hs (fun n e=>by rw[ha] at e;cases e) he
    ·exact zdg s ⟨#[]⟩ 0 0 _ w h1 h2 h3' henv fun W he=>zcN s W hs (fun n e=>by rw[ha] at e;cases e) he
theorem zjl(l:List UInt8)(s:ByteArray)(h:unqT s=some l):s.data.toList=39::(esc l++[39]):=by
 rw[unqT] at h
 split at h
 ·rename_i h2
  split at h
  ·rename_i h3
   have he:=zcv _ _ l (Nat.le_refl _) h
   have a0:s[0]=39:=UInt8.toNat_inj.1 (by rw[show (39:UInt8).toNat=39 from rfl];omega)
   have az:s[s.size-1]=39:=UInt8.toNat_inj.1 (by rw[show (39:UInt8).toNat=39 from rfl];omega)
   rw[←he,rest]
   have hl:s.data.toList.length=s.size:=by simp
   apply List.ext_getElem
   ·simp;omega
   ·intro i h1 h4
    rcases Nat.eq_zero_or_pos i with rfl|hi
    ·exact a0
    ·obtain⟨k,rfl⟩:∃k,i=k+1:=⟨i-1,by omega⟩
     by_cases hk:k+2<s.size
     ·rw[List.getElem_cons_succ,List.getElem_append_left (by simp;omega)]
      simp
     ·have hk2:k+1=s.size-1:=by omega
      rw[List.getElem_cons_succ,List.getElem_append_right (by simp;omega)]
      simp only[List.getElem_singleton]
      have:s.data.toList[k+1]=s[s.size-1]:=by
       simp only[hk2]
       rfl
      rw[this,az]
  ·cases h
 ·cases h

theorem zfO(t n:Int)(l:List UInt8)(s:ByteArray)(h:readV s=(t,n,l,0)):chk t n l=0∧shown t n l=s.data.toList∧l.length≤40∧-9223372036854775808≤n∧n≤9223372036854775807:=by
 rw[readV] at h
 split at h
 ·rename_i h1
  injection h with e1 h;injection h with e2 h;injection h with e3 _
  subst e1 e2 e3
  exact⟨by decide,by rw[h1];rfl,by simp,by decide,by decide⟩
 ·split at h
  ·rename_i h1
   injection h with e1 h;injection h with e2 h;injection h with e3 _
   subst e1 e2 e3
   exact⟨by decide,by rw[h1];rfl,by simp,by decide,by decide⟩
  ·split at h
   ·split at h
    ·injection h with e1 h;injection h with e2 h;injection h with e3 e4
     exact absurd e4 (by decide)
    ·rename_i l' hu
     split at h
     ·injection h with e1 h;injection h with e2 h;injection h with e3 e4
      exact absurd e4 (by decide)
     ·rename_i hp
      split at h
      ·injection h with e1 h;injection h with e2 h;injection h with e3 e4
       exact absurd e4 (by decide)
      ·rename_i hl
       injection h with e1 h;injection h with e2 h;injection h with e3 _
       subst e1 e2 e3
       refine⟨?_,?_,by omega,by decide,by decide⟩
       ·rw[chk,if_neg (by omega),if_neg (fun e=>hl e.2),if_neg (fun e=>hp e.2),if_neg (by omega)]
       ·rw[shown,if_neg (by decide),if_neg (by decide),zjl _ s hu]
   ·split at h
    ·rename_i m ha
     split at h
     ·rename_i hi
      injection h with e1 h;injection h with e2 h;injection h with e3 _
      subst e1 e2 e3
      have hb:=zcE ha
      refine⟨?_,?_,by simp,hb.1,hb.2⟩
      ·rw[chk,if_neg (by omega),if_neg (by simp),if_neg (by decide),if_neg (by simp)]
      ·rw[shown,if_pos rfl,hi]
     ·injection h with e1 h;injection h with e2 h;injection h with e3 e4
      exact absurd e4 (by decide)
    ·injection h with e1 h;injection h with e2 h;injection h with e3 e4
     exact absurd e4 (by decide)

def digB(c:UInt8):Bool:=decide (48≤(c.toNat:Int))&&decide ((c.toNat:Int)≤57)
def val10(l:List UInt8):Nat:=l.foldl (fun a c=>a*10+(c.toNat-48)) 0
theorem zmi(l:List UInt8)(c:UInt8):val10 (l++[c])=val10 l*10+(c.toNat-48):=by simp[val10,List.foldl_append]
theorem zhl(c:UInt8):digB c=true↔48≤c.toNat∧c.toNat≤57:=by simp[digB];omega
theorem zoO(k:Nat):∀l:List UInt8,l.length=k+1→l.all digB=true→(∀r,l=48::r→r=[])→Lib.decDigits (val10 l)=l:=by
 induction k with
 | zero =>
  intro l hl ha _
  obtain⟨c,rfl⟩:=List.length_eq_one_iff.1 hl
  have h2:=(zhl c).1 (by simpa using ha)
  rw[show val10 [c]=c.toNat-48 from by simp[val10],Lib.decDigits_one (by omega),show 48+(c.toNat-48)=c.toNat from by omega]
  simp
 | succ k ih =>
  intro l hl ha hz
  have hne:l≠[]:=by intro e;rw[e] at hl;simp at hl
  obtain⟨r,c,rfl⟩:∃r c,l=r++[c]:=⟨l.dropLast,l.getLast hne,(List.dropLast_concat_getLast hne).symm⟩
  rw[List.all_append,Bool.and_eq_true] at ha
  have hrl:r.length=k+1:=by simp at hl;omega
  have hz2:∀q,r≠48::q:=fun q e=>by
   have:=hz (q++[c]) (by rw[e];rfl)
   simp at this
  have h1:=ih r hrl ha.1 (fun q e=>absurd e (hz2 q))
  have h2:=(zhl c).1 (by simpa using ha.2)
  have h3:1≤val10 r:=by
   rcases Nat.eq_zero_or_pos (val10 r) with h|h
   ·rw[h,Lib.decDigits_one (by omega)] at h1
    exact absurd h1.symm (hz2 [])
   ·exact h
  rw[zmi,Lib.decDigits.eq_1,dif_neg (by omega),show (val10 r*10+(c.toNat-48)) / 10=val10 r from by omega,h1,show 48+(val10 r*10+(c.toNat-48)) % 10=c.toNat from by omega]
  simp
def rd:List UInt8→Option (List UInt8)
 | []=>none
 | c::l =>
  if c=39 then
   match l with
   | []=>some []
   | d::r=>if d=39 then (rd r).map (39::·) else none
  else (rd l).map (c::·)
theorem zmH:rd []=none:=by simp[rd]
theorem rd_ne(c:UInt8)(l:List UInt8)(h:c≠39):rd (c::l)=(rd l).map (c::·):=by cases l<;>simp[rd,h]
theorem zmY(r:List UInt8):rd (39::39::r)=(rd r).map (39::·):=by simp[rd]
theorem zqu(d:UInt8)(r:List UInt8)(h:d≠39):rd (39::d::r)=none:=by simp[rd,h]
theorem zrW:rd [39]=some []:=by simp[rd]
theorem zvo(k:Nat):∀m:List UInt8,m.length≤k→rd (m++[39])=unq m∧∀c,c≠39→rd (m++[c])=none:=by
 induction k with
 | zero =>
  intro m hm
  obtain rfl:m=[]:=List.length_eq_zero_iff.1 (by omega)
  exact⟨by simp[zrW,unq],fun c hc=>by rw[List.nil_append,rd_ne c [] hc,zmH];rfl⟩
 | succ k ih =>
  intro m hm
  cases m with
  | nil=>exact⟨by simp[zrW,unq],fun c hc=>by rw[List.nil_append,rd_ne c [] hc,zmH];rfl⟩
  | cons a m =>
   by_cases ha:a=39
   ·subst ha
    cases m with
    | nil=>exact⟨by rw[zoV];exact (zmY []).trans (by rw[zmH];rfl),fun c hc=>zqu c [] hc⟩
    | cons d r =>
     by_cases hd:d=39
     ·subst hd
      obtain⟨i1,i2⟩:=ih r (by simp at hm;omega)
      exact⟨by rw[zoD,←i1];exact zmY _,fun c hc=>(zmY (r++[c])).trans (by rw[i2 c hc];rfl)⟩
     ·exact⟨by rw[zoI d r hd];exact zqu d _ hd,fun c hc=>zqu d _ hd⟩
   ·obtain⟨i1,i2⟩:=ih m (by simp at hm;omega)
    exact⟨by rw[zqZ a m ha,←i1];exact rd_ne a _ ha,fun c hc=>(rd_ne a (m++[c]) ha).trans (by rw[i2 c hc];rfl)⟩
theorem znZ(s:ByteArray)(h:2≤s.size):s.data.toList.drop 1=rest s 1++[s[s.size-1]]:=by
 have hl:s.data.toList.length=s.size:=by simp
 rw[rest]
 apply List.ext_getElem
 ·simp;omega
 ·intro i h1 h2
  by_cases hk:i+2<s.size
  ·rw[List.getElem_append_left (by simp;omega)]
   simp
  ·rw[List.getElem_append_right (by simp;omega)]
   simp only[List.getElem_singleton,List.getElem_drop]
   have hi:1+i=s.size-1:=by simp at h1;omega
   simp only[hi]
   rfl
theorem zoJ(s:ByteArray)(h1:0<s.size)(h0:(s[0].toNat:Int)=39):unqT s=rd (s.data.toList.drop 1):=by
 have hl:s.data.toList.length=s.size:=by simp
 by_cases h2:2≤s.size
 ·rw[znZ s h2,unqT,dif_pos h2]
  obtain⟨i1,i2⟩:=zvo _ (rest s 1) (Nat.le_refl _)
  by_cases hz:(s[s.size-1].toNat:Int)=39
  ·rw[if_pos ⟨h0,hz⟩]
   have:s[s.size-1]=39:=UInt8.toNat_inj.1 (by rw[show (39:UInt8).toNat=39 from rfl];omega)
   rw[this,i1]
  ·rw[if_neg (fun e=>hz e.2),i2 _ (fun e=>hz (by rw[e];rfl))]
 ·rw[unqT,dif_neg h2]
  have:s.data.toList.drop 1=[]:=List.drop_eq_nil_of_le (by omega)
  rw[this,zmH]
theorem zaE(s:ByteArray)(j:Nat)(h:j<s.size):s.data.toList.drop j=s[j]::s.data.toList.drop (j+1):=by
 rw[List.drop_eq_getElem_cons (by simpa using h)];rfl
theorem zoh(s:ByteArray)(h:0<s.size):Lib.hasPrefix s.data.toList [39]=true↔(s[0].toNat:Int)=39:=by
 have e:s.data.toList=s[0]::s.data.toList.drop 1:=by have:=zaE s 0 h;simpa using this
 rw[e]
 constructor
 ·intro hh
  have:(39:UInt8)=s[0]:=by simpa [Lib.hasPrefix,List.isPrefixOf] using hh
  rw[←this];rfl
 ·intro hh
  have:s[0]=39:=UInt8.toNat_inj.1 (by rw[show (39:UInt8).toNat=39 from rfl];omega)
  rw[this];simp[Lib.hasPrefix,List.isPrefixOf]
theorem zhp{s:ByteArray}(h1:s.data.toList≠[116,114,117,101])(h2:s.data.toList≠[102,97,108,115,101])(hp:0<s.size)(h0:(s[0].toNat:Int)=39)(h:rd (s.data.toList.drop 1)=none):readV s=(0,0,[],2):=by
 rw[readV,if_neg h1,if_neg h2,if_pos ((zoh s hp).2 h0),zoJ s hp h0,h]
theorem zhe{s:ByteArray}{l:List UInt8}(h1:s.data.toList≠[116,114,117,101])(h2:s.data.toList≠[102,97,108,115,101])(hp:0<s.size)(h0:(s[0].toNat:Int)=39)(h:rd (s.data.toList.drop 1)=some l):readV s=if zaH l=false then (0,0,[],2) else if 40<l.length then (0,0,[],4) else (3,0,l,0):=by
 rw[readV,if_neg h1,if_neg h2,if_pos ((zoh s hp).2 h0),zoJ s hp h0,h]
--BEGIN
def blB(c:UInt8):Bool:=decide ((c.toNat:Int)=32)||decide ((c.toNat:Int)=10)
def letB(c:UInt8):Bool:=decide (97≤(c.toNat:Int))&&decide ((c.toNat:Int)≤122)
def ldB(c:UInt8):Bool:=letB c||digB c
def goN(p:UInt8→Bool):List UInt8→Nat
 | []=>0
 | c::l=>if p c=true then goN p l+1 else 0
theorem zej{p:UInt8→Bool}{c:UInt8}(l:List UInt8)(h:p c=true):goN p (c::l)=goN p l+1:=by rw[goN,if_pos h]
theorem zpU{p:UInt8→Bool}{c:UInt8}(l:List UInt8)(h:p c=false):goN p (c::l)=0:=by rw[goN,if_neg (by rw[h];decide)]
theorem zdC(p:UInt8→Bool):∀l:List UInt8,goN p l≤l.length
 | []=>Nat.le_refl _
 | c::l=>by
  rw[goN]
  split
  ·have:=zdC p l;simp;omega
  ·simp
theorem zcP(p:UInt8→Bool):∀l:List UInt8,(l.take (goN p l)).all p=true
 | []=>rfl
 | c::l=>by
  by_cases h:p c=true
  ·rw[zej l h,List.take_succ_cons,List.all_cons,h,zcP p l];rfl
  ·rw[zpU l (by simpa using h)];rfl
def hdB(p:UInt8→Bool):List UInt8→Bool
 | []=>false
 | c::_=>p c
theorem zmv(p:UInt8→Bool):∀(t r:List UInt8),t.all p=true→hdB p r=false→goN p (t++r)=t.length
 | [],[],_,_=>rfl
 | [],c::r,_,h=>zpU r h
 | c::t,r,ht,h=>by
  rw[List.all_cons,Bool.and_eq_true] at ht
  rw[List.cons_append,zej _ ht.1,zmv p t r ht.2 h];rfl
def zaG:List (List UInt8):=[[60,62],[60,61],[62,61],[60],[62],[61],[40],[41],[44],[43],[45],[42],[47],[37]]
def sgN:List (List UInt8)→List UInt8→Nat
 | [],_=>0
 | g::gs,l=>if Lib.hasPrefix l g=true then g.length else sgN gs l
def qscan:List UInt8→Option Nat
 | []=>none
 | c::l =>
  if c=39 then
   match l with
   | []=>some 1
   | d::r=>if d=39 then (qscan r).map (·+2) else some 1
  else (qscan l).map (·+1)
theorem zdU(c:UInt8)(l:List UInt8)(h:c≠39):qscan (c::l)=(qscan l).map (·+1):=by cases l<;>simp[qscan,h]
theorem zcu(r:List UInt8):qscan (39::39::r)=(qscan r).map (·+2):=by simp[qscan]
theorem zch(l:List UInt8)(h:l.head?≠some 39):qscan (39::l)=some 1:=by
 cases l with
 | nil=>simp[qscan]
 | cons d r=>simp at h;simp[qscan,h]
def qE(l:List UInt8):Int:=match rd l with
 | none=>2
 | some x=>if zaH x=false then 2 else if 40<x.length then 4 else 0
def zaU(l:List UInt8):Nat×Int :=
 if hdB letB (l.drop (goN digB l))=true∨(1<goN digB l∧l.head?=some 48) then (0,2)
 else if 9223372036854775807<val10 (l.take (goN digB l)) then (0,1) else (goN digB l,0)
def zct(l:List UInt8):Nat×Int:=match qscan l with
 | none=>(0,2)
 | some k=>if qE (l.take k)=0 then (k+1,0) else (0,qE (l.take k))
def tokAt:List UInt8→Int×Nat×Int
 | []=>(4,0,2)
 | c::l =>
  if letB c=true then (1,goN ldB (c::l),0)
  else if digB c=true then (2,zaU (c::l))
  else if c=39 then (3,zct l)
  else (4,sgN zaG (c::l),if sgN zaG (c::l)=0 then 2 else 0)
abbrev Tok:=Int×ByteArray×Nat
def lexN:Nat→Nat→List UInt8→List Tok×Int×Nat
 | 0,_,_=>([],0,0)
 | f+1,a,l =>
  if l=[] then ([],0,0)
  else if (tokAt l).2.2≠0 then ([],(tokAt l).2.2,a)
  else
   if (lexN f (a+(tokAt l).2.1+goN blB (l.drop (tokAt l).2.1)) ((l.drop (tokAt l).2.1).drop (goN blB (l.drop (tokAt l).2.1)))).2.1=0 then
    (((tokAt l).1,⟨(l.take (tokAt l).2.1).toArray⟩,a)::(lexN f (a+(tokAt l).2.1+goN blB (l.drop (tokAt l).2.1)) ((l.drop (tokAt l).2.1).drop (goN blB (l.drop (tokAt l).2.1)))).1,0,0)
   else ([],(lexN f (a+(tokAt l).2.1+goN blB (l.drop (tokAt l).2.1)) ((l.drop (tokAt l).2.1).drop (goN blB (l.drop (tokAt l).2.1)))).2)
def lexA(f a:Nat)(l:List UInt8)(acc:List Tok):List Tok×Int×Nat:=if (lexN f a l).2.1=0 then (acc++(lexN f a l).1,0,0) else ([],(lexN f a l).2)
def lexS(f a:Nat)(l:List UInt8)(acc:List Tok):List Tok×Int×Nat:=lexA f (a+goN blB l) (l.drop (goN blB l)) acc
def zaC(l:List UInt8):List Tok×Int×Nat:=if 400<l.length then ([],4,0) else lexS (l.length+1) 0 l []
theorem zpp(f a:Nat)(acc:List Tok):lexA (f+1) a [] acc=(acc,0,0):=by simp[lexA,lexN]
theorem zpj(f a:Nat)(l:List UInt8)(acc:List Tok)(hl:l≠[]){k:Int}{n:Nat}{e:Int}(h:tokAt l=(k,n,e))(he:e≠0):lexA (f+1) a l acc=([],e,a):=by
 have:lexN (f+1) a l=([],e,a):=by
  rw[lexN,if_neg hl,h,if_pos he]
 rw[lexA,this,if_neg he]
theorem zpJ(f a:Nat)(l:List UInt8)(acc:List Tok)(hl:l≠[]){k:Int}{n:Nat}(h:tokAt l=(k,n,0)):lexA (f+1) a l acc=lexS f (a+n) (l.drop n) (acc++[(k,⟨(l.take n).toArray⟩,a)]):=by
 have hN:lexN (f+1) a l=if (lexN f (a+n+goN blB (l.drop n)) ((l.drop n).drop (goN blB (l.drop n)))).2.1=0 then ((k,⟨(l.take n).toArray⟩,a)::(lexN f (a+n+goN blB (l.drop n)) ((l.drop n).drop (goN blB (l.drop n)))).1,0,0) else ([],(lexN f (a+n+goN blB (l.drop n)) ((l.drop n).drop (goN blB (l.drop n)))).2):=by
  rw[lexN,if_neg hl,h,if_neg (by simp)]
 rw[lexS,lexA,lexA,hN]
 generalize lexN f (a+n+goN blB (l.drop n)) ((l.drop n).drop (goN blB (l.drop n)))=R
 by_cases h0:R.2.1=0
 ·simp only[if_pos h0,if_true,List.append_assoc,List.singleton_append]
 ·simp only[if_neg h0]
theorem zly:∀(gs:List (List UInt8)) (l:List UInt8),sgN gs l≠0→∃g∈gs,Lib.hasPrefix l g=true∧sgN gs l=g.length
 | [],_,h=>absurd rfl h
 | g::gs,l,h=>by
  rw[sgN] at h ⊢
  by_cases hp:Lib.hasPrefix l g=true
  ·rw[if_pos hp];exact⟨g,List.mem_cons_self,hp,rfl⟩
  ·rw[if_neg hp] at h ⊢
   obtain⟨g',hm,h1,h2⟩:=zly gs l h
   exact⟨g',List.mem_cons_of_mem _ hm,h1,h2⟩
theorem zeH:∀(n:Nat) (l:List UInt8) (k:Nat),l.length≤n→qscan l=some k→1≤k∧k≤l.length
 | _,[],k,_,h=>by simp[qscan] at h
 | 0,_::_,_,hn,_=>by simp at hn
 | n+1,c::l,k,hn,h=>by
  by_cases hc:c=39
  ·subst hc
   cases l with
   | nil=>simp[qscan] at h;subst h;simp
   | cons d r =>
    by_cases hd:d=39
    ·subst hd
     rw[zcu,Option.map_eq_some_iff] at h
     obtain⟨j,hj,rfl⟩:=h
     have:=zeH n r j (by simp at hn;omega) hj
     simp;omega
    ·rw[zch _ (by simpa using hd)] at h
     cases h;simp
  ·rw[zdU c l hc,Option.map_eq_some_iff] at h
   obtain⟨j,hj,rfl⟩:=h
   have:=zeH n l j (by simp at hn;omega) hj
   simp;omega
theorem zgx{l g:List UInt8}(h:Lib.hasPrefix l g=true):g.length≤l.length∧l.take g.length=g:=by
 have:g <+: l:=List.isPrefixOf_iff_prefix.1 h
 exact⟨this.length_le,(List.prefix_iff_eq_take.1 this).symm⟩
theorem zcm{l:List UInt8}{k:Int}{n:Nat}(h:tokAt l=(k,n,0)):1≤n∧n≤l.length:=by
 cases l with
 | nil=>simp[tokAt] at h
 | cons c l =>
  rw[tokAt] at h
  split at h
  ·rename_i hc
   cases h
   have:ldB c=true:=by simp[ldB,hc]
   rw[zej l this]
   have:=zdC ldB l
   simp;omega
  ·split at h
   ·rename_i hd
    injection h with _ h
    rw[zaU] at h
    split at h
    ·cases h
    ·split at h
     ·cases h
     ·cases h
      rw[zej l hd]
      have:=zdC digB l
      simp;omega
   ·split at h
    ·injection h with _ h
     rw[zct] at h
     split at h
     ·cases h
     ·rename_i j hj
      split at h
      ·cases h
       have:=zeH _ l j (Nat.le_refl _) hj
       simp;omega
      ·rename_i h0
       exact absurd (Prod.mk.inj h).2 h0
    ·injection h with _ h
     injection h with h1 h2
     subst h1
     have hne:sgN zaG (c::l)≠0:=fun e=>by rw[if_pos e] at h2;cases h2
     obtain⟨g,hm,hp,hl⟩:=zly _ _ hne
     rw[hl]
     have:=(zgx hp).1
     exact⟨by omega,this⟩
theorem zjw{l:List UInt8}:(tokAt l).2.2=0∨(tokAt l).2.2=1∨(tokAt l).2.2=2∨(tokAt l).2.2=4:=by
 have hq:∀x,qE x=0∨qE x=2∨qE x=4:=fun x=>by
  rw[qE]
  split
  ·simp
  ·split
   ·simp
   ·split<;>simp
 cases l with
 | nil=>simp[tokAt]
 | cons c l =>
  rw[tokAt]
  split
  ·simp
  ·split
   ·rw[zaU]
    split
    ·simp
    ·split<;>simp
   ·split
    ·rw[zct]
     split
     ·simp
     ·rename_i j _
      have:=hq (l.take j)
      split
      ·simp
      ·simp only;omega
    ·simp only
     split<;>simp
--END
theorem zjv(c:UInt8)(w:World):Calls Tryz.prog 47 #[.int .u8 (c.toNat:Int)] w fun e w'=>e=.returned (.bool (blB c))∧w'=w:=by
 obtain⟨B,hB⟩:∃B,blB c=B:=⟨_,rfl⟩
 rw[hB]
 rw[blB] at hB
 obtain⟨n,hn⟩:∃n:Int,(c.toNat:Int)=n:=⟨_,rfl⟩
 rw[hn] at hB ⊢
 clear hn
 by_cases h1:n=32
 ·subst h1
  obtain rfl:true=B:=hB
  go_enter Tryz.func47,Tryz.ntmps47
  go_wp2
  go_ret
  exact⟨rfl,rfl⟩
 ·have q1:(n == 32)=false:=by simpa using h1
  by_cases h2:n=10
  ·subst h2
   obtain rfl:true=B:=hB
   go_enter Tryz.func47,Tryz.ntmps47
   go_wp2
   go_ret
   exact⟨rfl,rfl⟩
  ·have q2:(n == 10)=false:=by simpa using h2
   have hB2:false=B:=by rw[←hB];simp[h1,h2]
   subst hB2
   clear hB h1 h2
   go_enter Tryz.func47,Tryz.ntmps47
   go_wp2
   go_ret
   exact⟨rfl,rfl⟩
theorem zay(c:UInt8)(w:World):Calls Tryz.prog 81 #[.int .u8 (c.toNat:Int)] w fun e w'=>e=.returned (.bool (letB c))∧w'=w:=by
 obtain⟨B,hB⟩:∃B,letB c=B:=⟨_,rfl⟩
 have HB:Hid (letB c=B):=hB
 rw[hB]
 clear hB
 go_enter Tryz.func81,Tryz.ntmps81
 go_wp2
 all_goals
  go_ret
  refine⟨zaJ ?_,rfl⟩
  rw[←HB.out,letB]
  simp
  try omega
theorem zcB(c:UInt8)(w:World):Calls Tryz.prog 83 #[.int .u8 (c.toNat:Int)] w fun e w'=>e=.returned (.bool (digB c))∧w'=w:=by
 obtain⟨B,hB⟩:∃B,digB c=B:=⟨_,rfl⟩
 have HB:Hid (digB c=B):=hB
 rw[hB]
 clear hB
 go_enter Tryz.func83,Tryz.ntmps83
 go_wp2
 all_goals
  go_ret
  refine⟨zaJ ?_,rfl⟩
  rw[←HB.out,digB]
  simp
  try omega
theorem znQ(c:UInt8)(w:World):Calls Tryz.prog 82 #[.int .u8 (c.toNat:Int)] w fun e w'=>e=.returned (.bool (ldB c))∧w'=w:=by
 have cL:=zay c
 have cD:=zcB c
 have HB:Hid (ldB c=(letB c||digB c)):=rfl
 cases h1:letB c
 ·rw[h1] at cL
  cases h2:digB c
  ·rw[h2] at cD
   have HC:ldB c=false:=by rw[ldB,h1,h2];rfl
   rw[HC]
   clear HC HB h1 h2
   go_enter Tryz.func82,Tryz.ntmps82
   go_wp2_with (first|(go_at_call 81;refine (cL _).mono ?_;rintro e w' ⟨rfl,rfl⟩)|(go_at_call 83;refine (cD _).mono ?_;rintro e w' ⟨rfl,rfl⟩))
   go_ret
   exact⟨rfl,rfl⟩
  ·rw[h2] at cD
   have HC:ldB c=true:=by rw[ldB,h1,h2];rfl
   rw[HC]
   clear HC HB h1 h2
   go_enter Tryz.func82,Tryz.ntmps82
   go_wp2_with (first|(go_at_call 81;refine (cL _).mono ?_;rintro e w' ⟨rfl,rfl⟩)|(go_at_call 83;refine (cD _).mono ?_;rintro e w' ⟨rfl,rfl⟩))
   go_ret
   exact⟨rfl,rfl⟩
 ·rw[h1] at cL
  have HC:ldB c=true:=by rw[ldB,h1];rfl
  rw[HC]
  clear HC HB h1
  go_enter Tryz.func82,Tryz.ntmps82
  go_wp2_with (first|(go_at_call 81;refine (cL _).mono ?_;rintro e w' ⟨rfl,rfl⟩))
  go_ret
  exact⟨rfl,rfl⟩
theorem zpR{p:UInt8→Bool}{s:ByteArray}{k:Nat}(h:k<s.size)(hp:p s[k]=true){E:Nat}(hE:E=k+goN p (s.data.toList.drop k)):E=k+1+goN p (s.data.toList.drop (k+1)):=by
 rw[hE,zaE s k h,zej _ hp];omega
theorem zpv{p:UInt8→Bool}{s:ByteArray}{k:Nat}(h:k<s.size)(hp:p s[k]=false){E:Nat}(hE:E=k+goN p (s.data.toList.drop k)):E=k:=by
 rw[hE,zaE s k h,zpU _ hp];rfl
theorem ztQ{p:UInt8→Bool}{s:ByteArray}{k:Nat}(h:s.size≤k)(hk:k≤s.size){E:Nat}(hE:E=k+goN p (s.data.toList.drop k)):E=s.size:=by
 rw[hE,List.drop_eq_nil_of_le (by simp;omega)];show k+0=_;omega
theorem zdE(f:FuncId)(p:UInt8→Bool)(hent:∀(args:Array Value) (W:World),Sem.run Tryz.prog (callFunc f args) W=.ok (.enter f args) W)(hf:∀(c:UInt8) (W:World),Calls Tryz.prog f #[.int .u8 (c.toNat:Int)] W fun e w'=>e=.returned (.bool (p c))∧w'=W)(s:ByteArray)(w:World)(hs:s.size≤maxLen) :
  Calls Tryz.prog 46 #[.string s,.func (.func f) #[] #[]] w fun e w'=>e=.returned (.int .i64 (goN p s.data.toList:Nat))∧w'=w:=by
 unfold maxLen at hs
 obtain⟨E,hE⟩:∃E,goN p s.data.toList=E:=⟨_,rfl⟩
 rw[hE]
 go_enter Tryz.func46,Tryz.ntmps46
 go_wp2
 go_loopg [5,8] s.size (fun gg _ s8 wr=>∃kk:Nat,kk≤s.size∧s.size-kk≤gg∧s8=.int .i64 kk∧wr=w∧Hid (E=kk+goN p (s.data.toList.drop kk)))
 case atStart=>exact⟨0,Nat.zero_le _,by omega,rfl,rfl,(show Hid _ by simp[Hid,hE])⟩
 case round =>
  obtain⟨kk,hkk,hg,rfl,rfl,HE⟩:=hrel
  by_cases hlt:kk<s.size
  ·have hltz:(kk:Int)<(s.size:Int):=by omega
   have hcall:=hf s[kk]
   cases hp:p s[kk]
   ·rw[hp] at hcall
    obtain rfl:kk=E:=(zpv hlt hp HE.out).symm
    clear hp HE
    go_wp2_with fail
    refine (hcall _).mono ?_
    rintro e w' ⟨rfl,rfl⟩
    go_wp2
    go_ret
    exact⟨rfl,rfl⟩
   ·rw[hp] at hcall
    have HE2:Hid (E=kk+1+goN p (s.data.toList.drop (kk+1))):=zpR hlt hp HE.out
    clear hp HE
    go_wp2_with fail
    refine (hcall _).mono ?_
    rintro e w' ⟨rfl,rfl⟩
    go_wp2
    go_roundg (s.size-(kk+1))
    case measure=>omega
    case rel=>exact⟨kk+1,by omega,by omega,by go_num,rfl,HE2⟩
  ·have hltz:¬(kk:Int)<(s.size:Int):=by omega
   obtain rfl:s.size=E:=(ztQ (by omega) hkk HE.out).symm
   go_wp2
   go_ret
   exact⟨rfl,rfl⟩
theorem zdB(s:ByteArray)(w:World)(hs:s.size≤maxLen) :
  Calls Tryz.prog 46 #[.string s,.func (.func 47) #[] #[]] w fun e w'=>e=.returned (.int .i64 (goN blB s.data.toList:Nat))∧w'=w :=
 zdE _ blB (fun args W=>by kernel_rfl) zjv s w hs
theorem zam(s:ByteArray)(w:World)(hs:s.size≤maxLen) :
  Calls Tryz.prog 46 #[.string s,.func (.func 83) #[] #[]] w fun e w'=>e=.returned (.int .i64 (goN digB s.data.toList:Nat))∧w'=w :=
 zdE _ digB (fun args W=>by kernel_rfl) zcB s w hs
theorem zjO(s:ByteArray)(w:World)(hs:s.size≤maxLen) :
  Calls Tryz.prog 46 #[.string s,.func (.func 82) #[] #[]] w fun e w'=>e=.returned (.int .i64 (goN ldB s.data.toList:Nat))∧w'=w :=
 zdE _ ldB (fun args W=>by kernel_rfl) znQ s w hs
end Go.Proofs.YtopghagjmdbglaaGreatDoor
