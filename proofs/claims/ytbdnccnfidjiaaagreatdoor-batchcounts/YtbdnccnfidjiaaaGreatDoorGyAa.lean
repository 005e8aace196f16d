/-
  Text, UnqSteps, Unquote, NumFacts.
-/
import Derived.Lib.Replace
import Derived.Lib.AtoiAll
import Derived.Lib.ItoaNum
import Derived.WalkKit
import Derived.Test.YtbdnccnfidjiaaaGreatDoorProg
import Derived.Lib.ItoaLen
namespace Go.Proofs.YtbdnccnfidjiaaaGreatDoor
open Go.RowKit
set_option linter.unusedVariables false
set_option linter.unusedSimpArgs false
set_option maxHeartbeats 8000000
def esc(l:List UInt8):List UInt8:=l.flatMap fun c=>if c=39 then [39,39] else [c]
theorem zgr(c:UInt8)(l:List UInt8):esc (c::l)=(if c=39 then [39,39] else [c])++esc l:=by simp[esc]
def unq:List UInt8→Option (List UInt8)
 | []=>some []
 | c::l =>
  if c=39 then
   match l with
   | []=>none
   | d::r=>if d=39 then (unq r).map (39::·) else none
  else (unq l).map (c::·)
theorem zpJ(c:UInt8)(l:List UInt8)(h:c≠39):unq (c::l)=(unq l).map (c::·):=by cases l<;>simp[unq,h]
theorem znD(r:List UInt8):unq (39::39::r)=(unq r).map (39::·):=by simp[unq]
theorem znB(d:UInt8)(r:List UInt8)(h:d≠39):unq (39::d::r)=none:=by simp[unq,h]
theorem znC:unq [39]=none:=by simp[unq]
theorem zbJ:∀(n:Nat) (m l:List UInt8),m.length≤n→unq m=some l→m=esc l
 | _,[],l,_,h=>by simp[unq] at h;subst h;rfl
 | 0,_::_,_,hn,_=>by simp at hn
 | n+1,c::m,l,hn,h=>by
  by_cases hc:c=39
  ·subst hc
   cases m with
   | nil=>simp[unq] at h
   | cons d r =>
    by_cases hd:d=39
    ·subst hd
     simp only[unq,if_true,Option.map_eq_some_iff] at h
     obtain⟨l',hl,rfl⟩:=h
     rw[zgr,if_pos rfl,←zbJ n r l' (by simp at hn;omega) hl]
     rfl
    ·simp[unq,hd] at h
  ·rw[zpJ c m hc,Option.map_eq_some_iff] at h
   obtain⟨l',hl,rfl⟩:=h
   rw[zgr,if_neg hc,←zbJ n m l' (by simp at hn;omega) hl]
   rfl
theorem zsx(m l:List UInt8)(h:unq m=some l):l.length≤m.length:=by
 rw[zbJ m.length m l (Nat.le_refl _) h]
 clear h
 induction l with
 | nil=>simp
 | cons c l ih =>
  rw[zgr]
  split<;>simp<;>omega

theorem zdj:∀(l:List UInt8) (a u:Nat) (d:Nat),Lib.parseUint10 a l=.ok u→d<10→u*10+d<18446744073709551616→Lib.parseUint10 a (l++[UInt8.ofNat (48+d)])=.ok (u*10+d)
 | [],a,u,d,h,hd,hu=>by
  simp only[Lib.parseUint10] at h
  injection h with h
  subst h
  have e:(UInt8.ofNat (48+d)).toNat=48+d:=by simp;omega
  simp only[List.nil_append,Lib.parseUint10,e]
  rw[if_pos (by omega),if_neg (by omega),if_neg (by omega),show 48+d-48=d from by omega]
 | c::r,a,u,d,h,hd,hu=>by
  simp only[List.cons_append,Lib.parseUint10] at h ⊢
  split at h
  ·rename_i h1
   rw[if_pos h1]
   split at h
   ·cases h
   ·rename_i h2
    rw[if_neg h2]
    split at h
    ·cases h
    ·rename_i h3
     rw[if_neg h3]
     exact zdj r _ u d h hd hu
  ·cases h
theorem zbA:∀(k u:Nat),u≤k→u<18446744073709551616→Lib.parseUint10 0 (Lib.decDigits u)=.ok u
 | k,u,hk,hu=>by
  rw[Lib.decDigits]
  by_cases h:u<10
  ·rw[dif_pos h]
   have:=zdj [] 0 0 u rfl h (by omega)
   simpa using this
  ·rw[dif_neg h]
   cases k with
   | zero=>omega
   | succ k =>
    have:=zdj (Lib.decDigits (u / 10)) 0 (u / 10) (u % 10) (zbA k (u / 10) (by omega) (by omega)) (by omega) (by omega)
    rw[this]
    congr 1
    omega
theorem zci:∀(k u:Nat),u≤k→∃c r,Lib.decDigits u=c::r∧48≤c.toNat∧c.toNat≤57
 | k,u,hk=>by
  rw[Lib.decDigits]
  by_cases h:u<10
  ·rw[dif_pos h]
   exact⟨_,_,rfl,by simp;omega,by simp;omega⟩
  ·rw[dif_neg h]
   cases k with
   | zero=>omega
   | succ k =>
    obtain⟨c,r,hr,h1,h2⟩:=zci k (u / 10) (by omega)
    rw[hr]
    exact⟨c,_,rfl,h1,h2⟩
theorem zlz(n:Int)(h:-9223372036854775808≤n∧n≤9223372036854775807):Lib.atoiAll (Lib.itoa n)=.ok n:=by
 by_cases hn:n<0
 ·rw[Lib.itoa,if_pos hn]
  obtain⟨c,r,hr,h1,h2⟩:=zci n.natAbs n.natAbs (Nat.le_refl _)
  have hp:=zbA n.natAbs n.natAbs (Nat.le_refl _) (by omega)
  have hm:Lib.parseMag (Lib.decDigits n.natAbs)=.ok n.natAbs:=by rw[Lib.parseMag,if_neg (by rw[hr];simp),hp]
  simp only[Lib.atoiAll]
  rw[if_pos (Or.inr (by decide)),hm]
  simp only[]
  rw[if_neg (by simp),if_neg (by omega),if_pos (by decide)]
  congr 1
  omega
 ·rw[Lib.itoa,if_neg hn]
  obtain⟨c,r,hr,h1,h2⟩:=zci n.toNat n.toNat (Nat.le_refl _)
  have hp:=zbA n.toNat n.toNat (Nat.le_refl _) (by omega)
  have hm:Lib.parseMag (Lib.decDigits n.toNat)=.ok n.toNat:=by rw[Lib.parseMag,if_neg (by rw[hr];simp),hp]
  rw[hr] at hm ⊢
  simp only[Lib.atoiAll]
  rw[if_neg (by omega),hm]
  simp only[]
  rw[if_neg (by omega),if_neg (by omega),if_neg (by omega)]
  congr 1
  omega
def rest(s:ByteArray)(j:Nat):List UInt8:=(s.data.toList.drop j).take (s.size-1-j)
theorem zbl(s:ByteArray)(j:Nat)(h:j+1<s.size):rest s j=s[j]::rest s (j+1):=by
 have hl:j<s.data.toList.length:=by simp;omega
 rw[rest,rest,List.drop_eq_getElem_cons hl,show s.size-1-j=(s.size-1-(j+1))+1 from by omega,List.take_succ_cons]
 rfl
theorem zkD(s:ByteArray)(j:Nat)(h:s.size≤j+1):rest s j=[]:=by
 rw[rest,show s.size-1-j=0 from by omega,List.take_zero]
def Got(s:ByteArray)(j:Nat)(l:List UInt8):Prop:=unq (rest s 1)=(unq (rest s j)).map (l++·)
theorem zlR(s:ByteArray):Got s 1 []:=by simp[Got]
theorem zlQ{s:ByteArray}{j:Nat}{l:List UInt8}(h:j+1<s.size)(hc:(s[j].toNat:Int)≠39)(g:Got s j l):Got s (j+1) (l++[s[j]]):=by
 have hne:s[j]≠39:=fun e=>hc (by rw[e];rfl)
 rw[Got,zbl s j h,zpJ _ _ hne,Option.map_map] at g
 rw[Got,g]
 congr 1
 funext x
 simp
theorem zqT{s:ByteArray}{j:Nat}{l:List UInt8}(h:j+2<s.size)(hc:(s[j].toNat:Int)=39)(hd:(s[j+1].toNat:Int)=39)(g:Got s j l):Got s (j+2) (l++[s[j+1]]):=by
 have h1:s[j]=39:=UInt8.toNat_inj.1 (by rw[show (39:UInt8).toNat=39 from rfl];omega)
 have h2:s[j+1]=39:=UInt8.toNat_inj.1 (by rw[show (39:UInt8).toNat=39 from rfl];omega)
 rw[Got,zbl s j (by omega),zbl s (j+1) (by omega),h1,h2,znD,Option.map_map] at g
 rw[Got,g,h2]
 congr 1
 funext x
 simp
theorem zqS{s:ByteArray}{j:Nat}{l:List UInt8}(h:j+2=s.size)(hc:(s[j].toNat:Int)=39)(g:Got s j l):unq (rest s 1)=none:=by
 have h1:s[j]=39:=UInt8.toNat_inj.1 (by rw[show (39:UInt8).toNat=39 from rfl];omega)
 rw[Got,zbl s j (by omega),zkD s (j+1) (by omega),h1,znC] at g
 rw[g];rfl
theorem zqQ{s:ByteArray}{j:Nat}{l:List UInt8}(h:j+2<s.size)(hc:(s[j].toNat:Int)=39)(hd:(s[j+1].toNat:Int)≠39)(g:Got s j l):unq (rest s 1)=none:=by
 have h1:s[j]=39:=UInt8.toNat_inj.1 (by rw[show (39:UInt8).toNat=39 from rfl];omega)
 have h2:s[j+1]≠39:=fun e=>hd (by rw[e];rfl)
 rw[Got,zbl s j (by omega),zbl s (j+1) (by omega),h1,znB _ _ h2] at g
 rw[g];rfl
theorem zqR{s:ByteArray}{j:Nat}{l:List UInt8}(h:s.size≤j+1)(g:Got s j l):unq (rest s 1)=some l:=by
 rw[Got,zkD s j h] at g
 rw[g];simp[unq]
def unqT(s:ByteArray):Option (List UInt8) :=
 if h:2≤s.size then (if (s[0].toNat:Int)=39∧(s[s.size-1].toNat:Int)=39 then unq (rest s 1) else none) else none
def cellsOf(l:List UInt8):List Value:=l.map fun c=>Value.int .u8 (c.toNat:Int)
theorem zjg(l:List UInt8)(c:UInt8):cellsOf (l++[c])=cellsOf l++[Value.int .u8 (c.toNat:Int)]:=by simp[cellsOf]
theorem zqZ:(Tryz.prog.info? 5).map (fun i=>(i.zero,i.size,i.bytes))=some (some (.int .u8 0),1,1):=by kernel_rfl

theorem znt{B:Nat}{l:List UInt8}{c:UInt8}{w wr w1:World}{v v':Value}{o:Obj}(hown:wr.ownsRow B 5 1 v l.length (cellsOf l))(hnx:Below B w wr)(hB:B≤wr.heap.size)
  (hown':w1.ownsRow B 5 1 v' (l.length+1) (cellsOf l++[.int .u8 (c.toNat:Int)]))(hgrow:(wr.alloc o).grownBy w1 v.ownBlock) :
  w1.ownsRow B 5 1 v' (l++[c]).length (cellsOf (l++[c]))∧Below B w w1 :=
 ⟨by rw[zjg,List.length_append];exact hown',(hnx.alloc hB o).grown hgrow (by simp;omega) (fun j hj=>(hown.lt j hj).1)⟩
theorem zog(w:World):(convert 185 9 (.slice none 0 0)).run Tryz.prog w=.ok (.string ⟨#[]⟩) w:=by kernel_rfl
theorem zoh{B:Nat}{l:List UInt8}{wr:World}{v:Value}(hown:wr.ownsRow B 5 1 v l.length (cellsOf l)) :
  (convert 185 9 v).run Tryz.prog wr=.ok (.string ⟨l.toArray⟩) wr:=by
 have h:=hown.2
 rcases h with ⟨rfl,hn⟩|⟨g,cap,cur,rfl,_,_,_,_,_,_⟩
 ·obtain rfl:l=[]:=List.length_eq_zero_iff.1 hn
  exact zog wr
 ·exact run_convert_bytes_back (P:=Tryz.prog) wr 185 9 5 ⟨g,0,none⟩ cap l Tryz.underlying185 Tryz.underlying5 Tryz.underlying9 (fun j hj=>hown.cells (g:=g) rfl j _ (by simp[cellsOf,hj]))

set_option maxRecDepth 1000000 in
theorem zlh(s:ByteArray)(w:World)(hs:s.size≤140737488355328)(h2:2≤s.size)(ha:(s[0].toNat:Int)=39)(hz:(s[s.size-1].toNat:Int)=39) :
  Calls Tryz.prog 176 #[.string s] w fun e w'=>∃x b,e=.returned (.tuple #[.string x,.bool b])∧((b=true∧∃l,unq (rest s 1)=some l∧x=⟨l.toArray⟩)∨(b=false∧x=⟨#[]⟩∧unq (rest s 1)=none))∧Below w.heap.size w w':=by
 obtain⟨i0,hi,hz0,hz1,hz2⟩:=info_parts zqZ
 have hlast:(s.size:Int)-1=((s.size-1:Nat):Int):=by omega
 have hA:Hid ((s[0].toNat:Int)=39):=ha
 have hZ:Hid ((s[s.size-1].toNat:Int)=39):=hz
 go_enter Tryz.func176,Tryz.ntmps176
 go_wp2
 go_loopw [5,6] (fun v i wr=>∃(j:Nat) (l:List UInt8),1≤j∧j+1≤s.size∧i=.int .i64 (j:Nat)∧wr.ownsRow w.heap.size 5 1 v l.length (cellsOf l)∧Below w.heap.size w wr∧Got s j l∧l.length<j)
  (fun _ i _=>s.size-(intOf i).toNat)
 case atStart=>exact⟨1,[],Nat.le_refl _,by omega,rfl,World.ownsRow_nil _ _ _ _,Below.refl _ _,zlR s,by simp⟩
 case round =>
  obtain⟨j,l,hj1,hj2,rfl,hown,hnx,hgot,hlen⟩:=hrel
  have HG:Hid (Got s j l):=hgot
  clear hgot
  by_cases hlt:j+1<s.size
  ·have hjs:j<s.size:=by omega
   by_cases hc:(s[j].toNat:Int)=39
   ·have HC:Hid ((s[j].toNat:Int)=39):=hc
    have hcb:((s[j].toNat:Int) == 39)=true:=by simpa using hc
    clear hc
    by_cases hl2:j+2<s.size
    ·have hjs2:j+1<s.size:=by omega
     have hne:((j:Int)+1 == ((s.size-1:Nat):Int))=false:=by simp;omega
     by_cases hd:(s[j+1].toNat:Int)=39
     ·have HD:Hid ((s[j+1].toNat:Int)=39):=hd
      have hdb:((s[j+1].toNat:Int) != 39)=false:=by simpa using hd
      clear hd
      go_wp2_with (at_builtin;refine wpList_append_own _ rfl _ _ 185 rfl w.heap.size 5 i0 (.int .u8 0) 1 1 Tryz.underlying185 hi hz0 hz1 hz2 rfl (by decide) _ _ _ rfl (hown.alloc _) ⟨wr.heap.size,0,none⟩ 1 1 [.int .u8 (s[j+1].toNat:Int)] rfl rfl ?c1 ?c2 ?c3 ?c4 ?c5 ?_)
      case c1 =>
       intro i u hu
       match i,hu with
       | 0,hu=>simp at hu;subst hu;simp[Addr.add]
      case c2=>intro u hu;simp at hu;subst hu;rfl
      case c3=>unfold maxLen;omega
      case c4=>omega
      case c5=>have:=hnx.size;simp;omega
      ·intro v' w1 hown' hgrow _
       have R:=znt hown hnx (by have:=hnx.size;omega) hown' hgrow
       clear hown' hgrow hown hnx
       go_wp2
       go_roundw
       case rel=>exact⟨j+2,l++[s[j+1]],by omega,by omega,by go_num,R.1,R.2,zqT hl2 HC.out HD.out HG.out,by simp;omega⟩
       case measure=>simp[intOf];omega
     ·have HD:Hid ((s[j+1].toNat:Int)≠39):=hd
      have hdb:((s[j+1].toNat:Int) != 39)=true:=by simpa using hd
      clear hd
      go_wp2
      go_ret2
      exact⟨_,_,rfl,Or.inr ⟨rfl,rfl,zqQ hl2 HC.out HD.out HG.out⟩,hnx⟩
    ·have hne:((j:Int)+1 == ((s.size-1:Nat):Int))=true:=by simp;omega
     go_wp2
     go_ret2
     exact⟨_,_,rfl,Or.inr ⟨rfl,rfl,zqS (by omega) HC.out HG.out⟩,hnx⟩
   ·have HC:Hid ((s[j].toNat:Int)≠39):=hc
    have hcb:((s[j].toNat:Int) == 39)=false:=by simpa using hc
    clear hc
    go_wp2_with (at_builtin;refine wpList_append_own _ rfl _ _ 185 rfl w.heap.size 5 i0 (.int .u8 0) 1 1 Tryz.underlying185 hi hz0 hz1 hz2 rfl (by decide) _ _ _ rfl (hown.alloc _) ⟨wr.heap.size,0,none⟩ 1 1 [.int .u8 (s[j].toNat:Int)] rfl rfl ?c1 ?c2 ?c3 ?c4 ?c5 ?_)
    case c1 =>
     intro i u hu
     match i,hu with
     | 0,hu=>simp at hu;subst hu;simp[Addr.add]
    case c2=>intro u hu;simp at hu;subst hu;rfl
    case c3=>unfold maxLen;omega
    case c4=>omega
    case c5=>have:=hnx.size;simp;omega
    ·intro v' w1 hown' hgrow _
     have R:=znt hown hnx (by have:=hnx.size;omega) hown' hgrow
     clear hown' hgrow hown hnx
     go_wp2
     go_roundw
     case rel=>exact⟨j+1,l++[s[j]],by omega,by omega,by go_num,R.1,R.2,zlQ hlt HC.out HG.out,by simp;omega⟩
     case measure=>simp[intOf];omega
  ·have hcv:=zoh hown
   go_wp2
   go_ret2
   exact⟨_,_,rfl,Or.inl ⟨rfl,l,zqR (by omega) HG.out,rfl⟩,hnx⟩
theorem ziG(s:ByteArray)(w:World)(hs:s.size≤140737488355328)(h:¬∃h2:2≤s.size,(s[0].toNat:Int)=39∧(s[s.size-1].toNat:Int)=39) :
  Calls Tryz.prog 176 #[.string s] w fun e w'=>e=.returned (.tuple #[.string ⟨#[]⟩,.bool false])∧w'=w:=by
 by_cases h2:2≤s.size
 ·have hlast:(s.size:Int)-1=((s.size-1:Nat):Int):=by omega
  have hj0:0<s.size:=by omega
  have hj1:s.size-1<s.size:=by omega
  by_cases ha:(s[0].toNat:Int)=39
  ·have hz:((s[s.size-1].toNat:Int) != 39)=true:=by
    rw[bne_iff_ne];exact fun e=>h ⟨h2,ha,e⟩
   have ha':((s[0].toNat:Int) != 39)=false:=by simpa using ha
   clear ha h
   go_enter Tryz.func176,Tryz.ntmps176
   go_wp2
   go_ret2
   exact⟨rfl,rfl⟩
  ·have ha':((s[0].toNat:Int) != 39)=true:=by simpa using ha
   clear ha h
   go_enter Tryz.func176,Tryz.ntmps176
   go_wp2
   go_ret2
   exact⟨rfl,rfl⟩
 ·clear h
  go_enter Tryz.func176,Tryz.ntmps176
  go_wp2
  go_ret2
  exact⟨rfl,rfl⟩
theorem zdU(s:ByteArray)(w:World)(hs:s.size≤140737488355328) :
  Calls Tryz.prog 176 #[.string s] w fun e w'=>∃x b,e=.returned (.tuple #[.string x,.bool b])∧((b=true∧∃l,unqT s=some l∧x=⟨l.toArray⟩)∨(b=false∧x=⟨#[]⟩∧unqT s=none))∧Below w.heap.size w w':=by
 by_cases h:∃h2:2≤s.size,(s[0].toNat:Int)=39∧(s[s.size-1].toNat:Int)=39
 ·obtain⟨h2,ha,hz⟩:=h
  have hu:unqT s=unq (rest s 1):=by rw[unqT,dif_pos h2,if_pos ⟨ha,hz⟩]
  rw[hu]
  exact zlh s w hs h2 ha hz
 ·have hu:unqT s=none:=by
   rw[unqT]
   split
   ·rename_i h2
    rw[if_neg (fun e=>h ⟨h2,e⟩)]
   ·rfl
  exact (ziG s w hs h).mono fun e w' hh=>⟨_,_,hh.1,Or.inr ⟨rfl,rfl,hu⟩,by rw[hh.2];exact Below.refl _ _⟩
theorem zbB(s:ByteArray)(l:List UInt8)(w:World)(hs:s.size≤140737488355328)(h:unqT s=some l) :
  Calls Tryz.prog 176 #[.string s] w fun e w'=>e=.returned (.tuple #[.string ⟨l.toArray⟩,.bool true])∧Below w.heap.size w w' :=
 (zdU s w hs).mono fun e w' ⟨x,b,he,hc,hb⟩=>⟨(by
  rcases hc with ⟨rfl,l',hl,rfl⟩|⟨_,_,hn⟩
  ·rw[h] at hl;cases hl;exact he
  ·rw[h] at hn;cases hn),hb⟩
theorem zhd(s:ByteArray)(w:World)(hs:s.size≤140737488355328)(h:unqT s=none) :
  Calls Tryz.prog 176 #[.string s] w fun e w'=>e=.returned (.tuple #[.string ⟨#[]⟩,.bool false])∧Below w.heap.size w w' :=
 (zdU s w hs).mono fun e w' ⟨x,b,he,hc,hb⟩=>⟨(by
  rcases hc with ⟨_,l',hl,_⟩|⟨rfl,rfl,_⟩
  ·rw[h] at hl;cases hl
  ·exact he),hb⟩
def digB(c:UInt8):Bool:=decide (48≤(c.toNat:Int))&&decide ((c.toNat:Int)≤57)
def val10(l:List UInt8):Nat:=l.foldl (fun a c=>a*10+(c.toNat-48)) 0
theorem zli(l:List UInt8)(c:UInt8):val10 (l++[c])=val10 l*10+(c.toNat-48):=by simp[val10,List.foldl_append]
theorem zgq(c:UInt8):digB c=true↔48≤c.toNat∧c.toNat≤57:=by simp[digB];omega
theorem zqr(k:Nat):∀l:List UInt8,l.length=k+1→l.all digB=true→(∀r,l=48::r→r=[])→Lib.decDigits (val10 l)=l:=by
 induction k with
 | zero =>
  intro l hl ha _
  obtain⟨c,rfl⟩:=List.length_eq_one_iff.1 hl
  have h2:=(zgq c).1 (by simpa using ha)
  rw[show val10 [c]=c.toNat-48 from by simp[val10],Lib.decDigits_one (by omega),show 48+(c.toNat-48)=c.toNat from by omega]
  simp
 | succ k ih =>
  intro l hl ha hz
  have hne:l≠[]:=by intro e;rw[e] at hl;simp at hl
  obtain⟨r,c,rfl⟩:∃r c,l=r++[c]:=⟨l.dropLast,l.getLast hne,(List.dropLast_concat_getLast hne).symm⟩
  rw[List.all_append,Bool.and_eq_true] at ha
  have hrl:r.length=k+1:=by simp at hl;omega
  have hz2:∀q,r≠48::q:=fun q e=>by
   have:=hz (q++[c]) (by rw[e];rfl)
   simp at this
  have h1:=ih r hrl ha.1 (fun q e=>absurd e (hz2 q))
  have h2:=(zgq c).1 (by simpa using ha.2)
  have h3:1≤val10 r:=by
   rcases Nat.eq_zero_or_pos (val10 r) with h|h
   ·rw[h,Lib.decDigits_one (by omega)] at h1
    exact absurd h1.symm (hz2 [])
   ·exact h
  rw[zli,Lib.decDigits.eq_1,dif_neg (by omega),show (val10 r*10+(c.toNat-48)) / 10=val10 r from by omega,h1,show 48+(val10 r*10+(c.toNat-48)) % 10=c.toNat from by omega]
  simp
end Go.Proofs.YtbdnccnfidjiaaaGreatDoor
