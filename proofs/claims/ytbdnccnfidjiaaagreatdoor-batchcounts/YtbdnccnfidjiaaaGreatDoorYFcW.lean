/-
  FcW.
-/
import Derived.Test.YtbdnccnfidjiaaaGreatDoorGyAl
import Derived.Test.YtbdnccnfidjiaaaGreatDoorGyAh
import Derived.Test.YtbdnccnfidjiaaaGreatDoorGyAu
import Derived.Test.YtbdnccnfidjiaaaGreatDoorGyAi
import Derived.Deep.RegionLaw
import Derived.Deep.RegionWith
import Derived.Deep.LoopGhost
namespace Go.Proofs.YtbdnccnfidjiaaaGreatDoor
open Go.RowKit
set_option linter.unusedVariables false
set_option linter.unusedSimpArgs false
set_option maxHeartbeats 8000000
section
open Go.BigFrame
theorem zlZ:(Tryz.prog.info? 25).map (fun i=>(i.zero,i.size,i.bytes))=some (some (.agg #[.string ⟨#[]⟩,.int .i64 0]),2,24):=by kernel_rfl
set_option maxRecDepth 20000 in
theorem zid(vl:Value)(zs:List (ByteArray×Int))(w:World)(h:ColsV w vl zs)(hn:zs.length≤1000)(hs:∀z∈zs,z.1.size≤281474976710656) :
  Calls Tryz.prog 68 #[vl] w fun e w'=>(∃u,e=.returned u∧Aside (w'.ownsRow w.heap.size 25 2 u zs.length (colC zs)))∧Below w.heap.size w w':=by
 obtain⟨q,c,rfl,hc⟩:=h
 have HC:Aside _:=hc
 have S:Aside _:=hs
 obtain⟨N,hN⟩:∃N,zs.length=N:=⟨_,rfl⟩
 have HN:Hid (zs.length=N):=hN
 rw[hN] at hn ⊢
 clear hc hs hN
 have hnz:(N:Int)≤1000:=by omega
 obtain⟨j0,hj0,hy0,hy1,hy2⟩:=info_parts zlZ
 go_enter Tryz.func68,Tryz.ntmps68
 go_wp2
 go_loopg [3,5,8] N (fun gg s3 _ s8 wr=>∃(kk:Nat) (u:Value),kk≤N∧N-kk≤gg∧s8=.int .i64 (kk:Int)∧s3=u∧Aside (wr.ownsRow w.heap.size 25 2 u kk (colC (zs.take kk)))∧Aside (Below w.heap.size w wr))
 case atStart=>exact⟨0,.slice none 0 0,Nat.zero_le _,by omega,rfl,rfl,(show Aside _ from World.ownsRow_nil _ _ _ _),(show Aside _ from Below.refl _ _)⟩
 case round =>
  obtain⟨kk,u,hkk,hg,rfl,hu,OW,BW⟩:=hrel
  obtain rfl:u=_:=hu.symm
  by_cases hlt:kk<N
  ·have hltz:(kk:Int)<(N:Int):=by omega
   have h0z:(0:Int)≤(kk:Int):=by omega
   have hk1:kk<zs.length:=by rw[HN.out];exact hlt
   rcases HC.out with h0|⟨b,off,rfl,-,hz,hbl,hcell⟩
   ·rw[h0] at hk1;simp at hk1
   obtain⟨e0,e1⟩:=hcell kk hk1
   have z1:=S.out _ (List.getElem_mem hk1)
   have HT:Hid (colC (zs.take (kk+1))=colC (zs.take kk)++[.string zs[kk].1,.int .i64 zs[kk].2]):=by show _=_;rw[List.take_succ_eq_append_getElem hk1,zhj]
   rw[←BW.out.cell (p:=⟨b,_,none⟩) hbl] at e0 e1
   clear hcell hz
   generalize zs[kk]=x at e0 e1 z1 HT
   obtain⟨nm,t⟩:=x
   simp only at e0 e1 z1
   have hbs:=BW.out.size
   obtain⟨uq,uc,rfl⟩:=zaa OW.out
   have cC:=fun W=>zbj nm W z1
   have hCA:∀W,Below (wr.heap.size+1) (wr.alloc (.cells #[.string nm,.int .i64 t] 25)).drew W→W.cell? ⟨wr.heap.size,1,none⟩=some (.int .i64 t)∧wr.heap.size<W.heap.size∧(∀o,(W.alloc o).cell? ⟨wr.heap.size,1,none⟩=some (.int .i64 t)):=fun W hb=>by
    have h1:W.cell? ⟨wr.heap.size,1,none⟩=some (.int .i64 t):=by
     rw[hb.cell (p:=⟨wr.heap.size,1,none⟩) (show wr.heap.size<wr.heap.size+1 by omega)]
     simp
    have h2:wr.heap.size<W.heap.size:=by
     have:=hb.size
     have e:(wr.alloc (.cells #[.string nm,.int .i64 t] 25)).drew.heap.size=wr.heap.size+1:=by (show (wr.alloc _).heap.size=_);simp
     omega
    exact⟨h1,h2,fun o=>by rw[(alB W o).cell (p:=⟨wr.heap.size,1,none⟩) h2];exact h1⟩
   have HCA:Aside _:=hCA
   clear hCA
   go_wp2_with fail
   go_region_law (first
    | (refine zat rfl (.tmp 12) (.tmp 19) 26 rfl w.heap.size 25 j0 _ 2 24 Tryz.underlying26 hj0 hy0 hy1 hy2 (by decide) (by decide) (.slice uq kk uc) kk (colC (zs.take kk)) (by simp[Act.eval]) (zac HO3.out (alB w3 _)) ⟨w3.heap.size,0,none⟩ 1 1 [.string nm,.int .i64 t] (by simp[Act.eval]) rfl (fun j y hy=>by rw[Go.WideShapes.add_plain];have hj:j<2:=(by have:=(List.getElem?_eq_some_iff.1 hy).1;simpa using this);have:j=0∨j=1:=(by omega);rcases this with rfl|rfl<;>(simp at hy;subst hy;simp)) (fun y hy=>by have:y=.string nm∨y=.int .i64 t:=(by simpa using hy);rcases this with rfl|rfl<;>rfl) (by unfold maxLen;omega) (by omega) (by simp;omega) ?_;intro q9 c9 w9 hown' hgrow)
    | (go_simp;go_wp2_with (go_at_call 44;refine (cC _).mono ?_;rintro e w3 ⟨rfl,b3⟩;have BA:Below w.heap.size w w3:=(BW.out.alloc hbs _).drew.trans (b3.mono (by simp;omega));have hb3:Below (wr.heap.size+1) (wr.alloc (.cells #[.string nm,.int .i64 t] 25)).drew w3:=(b3.mono (Nat.le_of_eq (by (show _=(wr.alloc _).heap.size);simp)));have hk1:=(HCA.out w3 hb3).1;have hk2:=(HCA.out w3 hb3).2.1;have hk3:=(HCA.out w3 hb3).2.2;have HB3:Aside _:=BA;have hs3:=BA.size;have HO3:Aside (w3.ownsRow w.heap.size 25 2 (.slice uq kk uc) kk (colC (zs.take kk))):=zac (zac OW.out ((Below.refl _ wr).alloc (Nat.le_refl _) (.cells #[.string nm,.int .i64 t] 25) |>.drew)) b3)))
   all_goals
    have O9:Aside (w9.ownsRow w.heap.size 25 2 (.slice q9 (kk+1) c9) (kk+1) (colC (zs.take (kk+1)))):=by rw[HT.out];exact hown'
    have B9:Aside (Below w.heap.size w w9):=(HB3.out.alloc hs3 _).grown hgrow (by simp;omega) (fun k hk=>(World.ownsRow.lt HO3.out k hk).1)
    clear hown' hgrow HO3 HB3 hk1 hk2 hk3 hb3 BA b3 HT HCA e0 e1
    go_wp2
    go_roundg (N-(kk+1))
    case measure=>omega
    case rel=>exact⟨kk+1,_,by omega,by omega,by go_num,rfl,O9,B9⟩
  ·have hltz:¬(kk:Int)<(N:Int):=by omega
   obtain rfl:kk=N:=by omega
   have HO:Aside (wr.ownsRow w.heap.size 25 2 u kk (colC zs)):=by
    have:=OW.out
    rw[List.take_of_length_le (by rw[HN.out];exact Nat.le_refl _)] at this
    exact this
   clear OW
   go_wp2
   go_ret
   exact⟨⟨u,rfl,HO⟩,BW.out⟩
end
end Go.Proofs.YtbdnccnfidjiaaaGreatDoor
