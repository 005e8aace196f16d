/-
  Row3, Row4, Row5, ColsOpen.
-/
import Derived.Test.YtopghagjmdbglaaGreatDoorGyAi
import Derived.WalkSmall
import Derived.Deep.RegionWith
import Derived.Test.YtopghagjmdbglaaGreatDoorRows
import Derived.Deep.SlicePairs
import Derived.OpenShut
import Derived.Carry
import Derived.ProofKit
namespace Go.Proofs.YtopghagjmdbglaaGreatDoor
open Go.RowKit
set_option linter.unusedVariables false
set_option linter.unusedSimpArgs false
set_option maxHeartbeats 8000000
structure TW(w:World):Prop where
 c0:w.cell? ⟨7,0,none⟩=some (.int .i64 1)
 c1:w.cell? ⟨7,1,none⟩=some (.string ⟨#[105,110,116]⟩)
 c2:w.cell? ⟨7,2,none⟩=some (.int .i64 2)
 c3:w.cell? ⟨7,3,none⟩=some (.string ⟨#[98,111,111,108]⟩)
 c4:w.cell? ⟨7,4,none⟩=some (.int .i64 3)
 c5:w.cell? ⟨7,5,none⟩=some (.string ⟨#[116,101,120,116]⟩)
 lt:7<w.heap.size
theorem TW.on{w w':World}(h:TW w)(hb:Below w.heap.size w w'):TW w':=by
 have hl:=h.lt
 have hz:=hb.size
 refine⟨?_,?_,?_,?_,?_,?_,by omega⟩
 ·rw[hb.cell (p:=⟨7,0,none⟩) hl];exact h.c0
 ·rw[hb.cell (p:=⟨7,1,none⟩) hl];exact h.c1
 ·rw[hb.cell (p:=⟨7,2,none⟩) hl];exact h.c2
 ·rw[hb.cell (p:=⟨7,3,none⟩) hl];exact h.c3
 ·rw[hb.cell (p:=⟨7,4,none⟩) hl];exact h.c4
 ·rw[hb.cell (p:=⟨7,5,none⟩) hl];exact h.c5
theorem zcb{w:World}{b o:Nat}{v:Value}(h:w.cell? ⟨b,o,none⟩=some v):b<w.heap.size:=by
 rcases Nat.lt_or_ge b w.heap.size with h'|h'
 ·exact h'
 ·simp[World.cell?,Array.getElem?_eq_none h'] at h
theorem zbD{W w1:World}(hb:Below W.heap.size W w1):(∀b o,b<W.heap.size→w1.cell? ⟨b,o,none⟩=W.cell? ⟨b,o,none⟩)∧(∀b o,b<W.heap.size→w1.frozen? ⟨b,o,none⟩=W.frozen? ⟨b,o,none⟩) :=
 ⟨fun b o h=>hb.cell (p:=⟨b,o,none⟩) h,fun b o h=>hb.frozen (p:=⟨b,o,none⟩) h⟩

theorem zau(wt:Int)(ww:ByteArray)(t:Int)(p:Nat)(r:Bool)(w:World)(hp:w.cell? ⟨p,0,none⟩=some (.int .i64 t))(hr:(wt == t)=r) :
  Calls Tryz.prog 163 #[.agg #[.int .i64 wt,.string ww],.pointer (some ⟨p,0,none⟩)] w fun e w'=>e=.returned (.bool r)∧Below w.heap.size w w':=by
 have hl:=zcb hp
 go_enter Tryz.func163,Tryz.ntmps163
 go_wp2
 go_ret
 exact⟨by rw[←hr];rfl,(Below.refl _ _).alloc (Nat.le_refl _) _⟩
theorem tw_0(W:World):Sem.run Tryz.prog (Instr.index 274 (.agg #[.int .i64 1,.string ⟨#[105,110,116]⟩,.int .i64 2,.string ⟨#[98,111,111,108]⟩,.int .i64 3,.string ⟨#[116,101,120,116]⟩]) (.int .i64 0)) W=.ok (.agg #[.int .i64 1,.string ⟨#[105,110,116]⟩]) W:=by kernel_rfl
theorem tw_1(W:World):Sem.run Tryz.prog (Instr.index 274 (.agg #[.int .i64 1,.string ⟨#[105,110,116]⟩,.int .i64 2,.string ⟨#[98,111,111,108]⟩,.int .i64 3,.string ⟨#[116,101,120,116]⟩]) (.int .i64 1)) W=.ok (.agg #[.int .i64 2,.string ⟨#[98,111,111,108]⟩]) W:=by kernel_rfl
theorem tw_2(W:World):Sem.run Tryz.prog (Instr.index 274 (.agg #[.int .i64 1,.string ⟨#[105,110,116]⟩,.int .i64 2,.string ⟨#[98,111,111,108]⟩,.int .i64 3,.string ⟨#[116,101,120,116]⟩]) (.int .i64 2)) W=.ok (.agg #[.int .i64 3,.string ⟨#[116,101,120,116]⟩]) W:=by kernel_rfl
structure FT(w wi:World)(p:Nat)(pv:Value):Prop where
 below:Below w.heap.size w wi
 lt:w.heap.size<wi.heap.size
 c0:wi.cell? ⟨w.heap.size,0,none⟩=some (.int .i64 0)
 c1:wi.cell? ⟨w.heap.size,1,none⟩=some (.string ⟨#[]⟩)
 f0:wi.frozen? ⟨w.heap.size,0,none⟩=false
 f1:wi.frozen? ⟨w.heap.size,1,none⟩=false
 pc:wi.cell? ⟨p,0,none⟩=some pv
theorem FT.first{w:World}{p:Nat}{pv:Value}(hp:w.cell? ⟨p,0,none⟩=some pv):FT w (w.alloc (.cells #[.int .i64 0,.string ⟨#[]⟩] 200)) p pv :=
 ⟨(Below.refl _ _).alloc (Nat.le_refl _) _,by simp,by rw[World.cell?_alloc_at _ _ _ _ rfl];rfl,by rw[World.cell?_alloc_at _ _ _ _ rfl];rfl,by simp,by simp,by rw[World.cell?_alloc_lt _ _ _ (zcb hp)];exact hp⟩
theorem FT.alloc{w wi:World}{p:Nat}{pv:Value}(h:FT w wi p pv)(o:Obj):FT w (wi.alloc o) p pv :=
 ⟨h.below.alloc h.below.size _,by have:=h.lt;simp;omega,by rw[World.cell?_alloc_lt _ _ _ h.lt];exact h.c0,by rw[World.cell?_alloc_lt _ _ _ h.lt];exact h.c1,
  by rw[World.frozen?_alloc_old _ _ _ (Nat.ne_of_lt h.lt)];exact h.f0,by rw[World.frozen?_alloc_old _ _ _ (Nat.ne_of_lt h.lt)];exact h.f1,by rw[World.cell?_alloc_lt _ _ _ (zcb h.pc)];exact h.pc⟩
theorem FT.next{w wi wj:World}{p:Nat}{pv:Value}(h:FT w wi p pv)(b:Below wi.heap.size wi wj):FT w wj p pv:=by
 obtain⟨hc,hf⟩:=zbD b
 have hz:=b.size
 exact⟨h.below.trans (b.mono h.below.size),by have:=h.lt;omega,by rw[hc _ _ h.lt];exact h.c0,by rw[hc _ _ h.lt];exact h.c1,by rw[hf _ _ h.lt];exact h.f0,by rw[hf _ _ h.lt];exact h.f1,by rw[hc _ _ (zcb h.pc)];exact h.pc⟩

set_option maxRecDepth 20000 in
theorem zpX(t:Int)(p:Nat)(w:World)(hw:TW w)(hp:w.cell? ⟨p,0,none⟩=some (.int .i64 t))(h1:((1:Int) == t)=true) :
  Calls Tryz.prog 162 #[.func (.func 163) #[] #[.pointer (some ⟨p,0,none⟩)]] w fun e w'=>e=.returned (.tuple #[.agg #[.int .i64 1,.string ⟨#[105,110,116]⟩],.bool true])∧Below w.heap.size w w':=by
 obtain⟨g0,g1,g2,g3,g4,g5,gl⟩:=hw
 have x0:=tw_0
 have x1:=tw_1
 have x2:=tw_2
 have F0:FT w _ p (.int .i64 t):=FT.first hp
 go_enter Tryz.func162,Tryz.ntmps162
 go_wp2
 refine wp_loop_rounds 1 ?_
 rw[rounds_succ]
 go_wp2_with fail
 have F0a:=F0.alloc (.cells #[.int .i64 1,.string ⟨#[105,110,116]⟩] 200)
 refine (zau 1 ⟨#[105,110,116]⟩ t p true _ F0a.pc h1).mono ?_
 rintro e w1 ⟨rfl,b1⟩
 have F1:=F0a.next b1
 obtain⟨hc1,hf1⟩:=zbD b1
 have l1:=F1.lt
 have q0:=F1.c0
 have q1:=F1.c1
 have q2:=F1.f0
 have q3:=F1.f1
 go_wp2
 refine bodyPost_ret (v:=(.tuple #[.agg #[.int .i64 1,.string ⟨#[105,110,116]⟩],.bool true])) (by simp[results,Tryz.results162,go_sem,q0,q1]) rfl ⟨rfl,?_⟩
 exact (F1.below.setCell (Nat.le_refl _) _).setCell (Nat.le_refl _) _
set_option maxRecDepth 20000 in
theorem zpY(t:Int)(p:Nat)(w:World)(hw:TW w)(hp:w.cell? ⟨p,0,none⟩=some (.int .i64 t))(h1:((1:Int) == t)=false)(h2:((2:Int) == t)=true) :
  Calls Tryz.prog 162 #[.func (.func 163) #[] #[.pointer (some ⟨p,0,none⟩)]] w fun e w'=>e=.returned (.tuple #[.agg #[.int .i64 2,.string ⟨#[98,111,111,108]⟩],.bool true])∧Below w.heap.size w w':=by
 obtain⟨g0,g1,g2,g3,g4,g5,gl⟩:=hw
 have x0:=tw_0
 have x1:=tw_1
 have x2:=tw_2
 have F0:FT w _ p (.int .i64 t):=FT.first hp
 go_enter Tryz.func162,Tryz.ntmps162
 go_wp2
 refine wp_loop_rounds 2 ?_
 rw[rounds_succ]
 go_wp2_with fail
 have F0a:=F0.alloc (.cells #[.int .i64 1,.string ⟨#[105,110,116]⟩] 200)
 refine (zau 1 ⟨#[105,110,116]⟩ t p false _ F0a.pc h1).mono ?_
 rintro e w1 ⟨rfl,b1⟩
 have F1:=F0a.next b1
 obtain⟨hc1,hf1⟩:=zbD b1
 have l1:=F1.lt
 go_wp2
 rw[rounds_succ]
 go_wp2_with fail
 have F1a:=F1.alloc (.cells #[.int .i64 2,.string ⟨#[98,111,111,108]⟩] 200)
 refine (zau 2 ⟨#[98,111,111,108]⟩ t p true _ F1a.pc h2).mono ?_
 rintro e w2 ⟨rfl,b2⟩
 have F2:=F1a.next b2
 obtain⟨hc2,hf2⟩:=zbD b2
 have l2:=F2.lt
 have q0:=F2.c0
 have q1:=F2.c1
 have q2:=F2.f0
 have q3:=F2.f1
 go_wp2
 refine bodyPost_ret (v:=(.tuple #[.agg #[.int .i64 2,.string ⟨#[98,111,111,108]⟩],.bool true])) (by simp[results,Tryz.results162,go_sem,q0,q1]) rfl ⟨rfl,?_⟩
 exact (F2.below.setCell (Nat.le_refl _) _).setCell (Nat.le_refl _) _
set_option maxRecDepth 20000 in
theorem zpZ(t:Int)(p:Nat)(w:World)(hw:TW w)(hp:w.cell? ⟨p,0,none⟩=some (.int .i64 t))(h1:((1:Int) == t)=false)(h2:((2:Int) == t)=false)(h3:((3:Int) == t)=true) :
  Calls Tryz.prog 162 #[.func (.func 163) #[] #[.pointer (some ⟨p,0,none⟩)]] w fun e w'=>e=.returned (.tuple #[.agg #[.int .i64 3,.string ⟨#[116,101,120,116]⟩],.bool true])∧Below w.heap.size w w':=by
 obtain⟨g0,g1,g2,g3,g4,g5,gl⟩:=hw
 have x0:=tw_0
 have x1:=tw_1
 have x2:=tw_2
 have F0:FT w _ p (.int .i64 t):=FT.first hp
 go_enter Tryz.func162,Tryz.ntmps162
 go_wp2
 refine wp_loop_rounds 3 ?_
 rw[rounds_succ]
 go_wp2_with fail
 have F0a:=F0.alloc (.cells #[.int .i64 1,.string ⟨#[105,110,116]⟩] 200)
 refine (zau 1 ⟨#[105,110,116]⟩ t p false _ F0a.pc h1).mono ?_
 rintro e w1 ⟨rfl,b1⟩
 have F1:=F0a.next b1
 obtain⟨hc1,hf1⟩:=zbD b1
 have l1:=F1.lt
 go_wp2
 rw[rounds_succ]
 go_wp2_with fail
 have F1a:=F1.alloc (.cells #[.int .i64 2,.string ⟨#[98,111,111,108]⟩] 200)
 refine (zau 2 ⟨#[98,111,111,108]⟩ t p false _ F1a.pc h2).mono ?_
 rintro e w2 ⟨rfl,b2⟩
 have F2:=F1a.next b2
 obtain⟨hc2,hf2⟩:=zbD b2
 have l2:=F2.lt
 go_wp2
 rw[rounds_succ]
 go_wp2_with fail
 have F2a:=F2.alloc (.cells #[.int .i64 3,.string ⟨#[116,101,120,116]⟩] 200)
 refine (zau 3 ⟨#[116,101,120,116]⟩ t p true _ F2a.pc h3).mono ?_
 rintro e w3 ⟨rfl,b3⟩
 have F3:=F2a.next b3
 obtain⟨hc3,hf3⟩:=zbD b3
 have l3:=F3.lt
 have q0:=F3.c0
 have q1:=F3.c1
 have q2:=F3.f0
 have q3:=F3.f1
 go_wp2
 refine bodyPost_ret (v:=(.tuple #[.agg #[.int .i64 3,.string ⟨#[116,101,120,116]⟩],.bool true])) (by simp[results,Tryz.results162,go_sem,q0,q1]) rfl ⟨rfl,?_⟩
 exact (F3.below.setCell (Nat.le_refl _) _).setCell (Nat.le_refl _) _
set_option maxRecDepth 20000 in
theorem zpW(t:Int)(p:Nat)(w:World)(hw:TW w)(hp:w.cell? ⟨p,0,none⟩=some (.int .i64 t))(h1:((1:Int) == t)=false)(h2:((2:Int) == t)=false)(h3:((3:Int) == t)=false) :
  Calls Tryz.prog 162 #[.func (.func 163) #[] #[.pointer (some ⟨p,0,none⟩)]] w fun e w'=>e=.returned (.tuple #[.agg #[.int .i64 0,.string ⟨#[]⟩],.bool false])∧Below w.heap.size w w':=by
 obtain⟨g0,g1,g2,g3,g4,g5,gl⟩:=hw
 have x0:=tw_0
 have x1:=tw_1
 have x2:=tw_2
 have F0:FT w _ p (.int .i64 t):=FT.first hp
 go_enter Tryz.func162,Tryz.ntmps162
 go_wp2
 refine wp_loop_rounds 4 ?_
 rw[rounds_succ]
 go_wp2_with fail
 have F0a:=F0.alloc (.cells #[.int .i64 1,.string ⟨#[105,110,116]⟩] 200)
 refine (zau 1 ⟨#[105,110,116]⟩ t p false _ F0a.pc h1).mono ?_
 rintro e w1 ⟨rfl,b1⟩
 have F1:=F0a.next b1
 obtain⟨hc1,hf1⟩:=zbD b1
 have l1:=F1.lt
 go_wp2
 rw[rounds_succ]
 go_wp2_with fail
 have F1a:=F1.alloc (.cells #[.int .i64 2,.string ⟨#[98,111,111,108]⟩] 200)
 refine (zau 2 ⟨#[98,111,111,108]⟩ t p false _ F1a.pc h2).mono ?_
 rintro e w2 ⟨rfl,b2⟩
 have F2:=F1a.next b2
 obtain⟨hc2,hf2⟩:=zbD b2
 have l2:=F2.lt
 go_wp2
 rw[rounds_succ]
 go_wp2_with fail
 have F2a:=F2.alloc (.cells #[.int .i64 3,.string ⟨#[116,101,120,116]⟩] 200)
 refine (zau 3 ⟨#[116,101,120,116]⟩ t p false _ F2a.pc h3).mono ?_
 rintro e w3 ⟨rfl,b3⟩
 have F3:=F2a.next b3
 obtain⟨hc3,hf3⟩:=zbD b3
 have l3:=F3.lt
 go_wp2
 rw[rounds_succ]
 have q0:=F3.c0
 have q1:=F3.c1
 have q2:=F3.f0
 have q3:=F3.f1
 go_wp2
 refine bodyPost_ret (v:=(.tuple #[.agg #[.int .i64 0,.string ⟨#[]⟩],.bool false])) (by simp[results,Tryz.results162,go_sem,q0,q1]) rfl ⟨rfl,?_⟩
 exact (F3.below.setCell (Nat.le_refl _) _).setCell (Nat.le_refl _) _
def zsc(t:Int):ByteArray:=if t=1 then ⟨#[105,110,116]⟩ else if t=2 then ⟨#[98,111,111,108]⟩ else ⟨#[116,101,120,116]⟩
theorem Pair.new(w:World)(x y:Value)(t:TypeId):(w.alloc (.cells #[x,y] t)).cell? ⟨w.heap.size,0,none⟩=some x∧(w.alloc (.cells #[x,y] t)).cell? ⟨w.heap.size,1,none⟩=some y∧(w.alloc (.cells #[x,y] t)).frozen? ⟨w.heap.size,0,none⟩=false∧(w.alloc (.cells #[x,y] t)).frozen? ⟨w.heap.size,1,none⟩=false :=
 ⟨by rw[World.cell?_alloc_at _ _ _ _ rfl];rfl,by rw[World.cell?_alloc_at _ _ _ _ rfl];rfl,by simp,by simp⟩
theorem zcw(t a:Int)(s:ByteArray)(r:Bool)(w:World)(hw:TW w)
  (h:∀(p:Nat) (W:World),TW W→W.cell? ⟨p,0,none⟩=some (.int .i64 t)→Calls Tryz.prog 162 #[.func (.func 163) #[] #[.pointer (some ⟨p,0,none⟩)]] W fun e w'=>e=.returned (.tuple #[.agg #[.int .i64 a,.string s],.bool r])∧Below W.heap.size W w') :
  Calls Tryz.prog 127 #[.int .i64 t] w fun e w'=>e=.returned (.tuple #[.agg #[.int .i64 a,.string s],.bool r])∧Below w.heap.size w w':=by
 have B0:Below w.heap.size w ((w.alloc (.cells #[.int .i64 t] 3)).alloc (.cells #[.int .i64 0,.string ⟨#[]⟩] 200)):=((Below.refl _ _).alloc (Nat.le_refl _) _).alloc (by simp) _
 have hcall:=h w.heap.size _ (hw.on B0) (by rw[World.cell?_alloc_lt _ _ _ (by simp),World.cell?_alloc_at _ _ _ _ rfl];rfl)
 obtain⟨r0,r1,r2,r3⟩:=Pair.new (w.alloc (.cells #[.int .i64 t] 3)) (.int .i64 0) (.string ⟨#[]⟩) 200
 rw[show (w.alloc (.cells #[.int .i64 t] 3)).heap.size=w.heap.size+1 by simp] at r0 r1 r2 r3
 go_enter Tryz.func127,Tryz.ntmps127
 go_wp2_with fail
 refine hcall.mono ?_
 rintro e w1 ⟨rfl,b1⟩
 obtain⟨hc1,hf1⟩:=zbD b1
 have hz:=b1.size
 have q0:=(hc1 (w.heap.size+1) 0 (by simp)).trans r0
 have q1:=(hc1 (w.heap.size+1) 1 (by simp)).trans r1
 have q2:=(hf1 (w.heap.size+1) 0 (by simp)).trans r2
 have q3:=(hf1 (w.heap.size+1) 1 (by simp)).trans r3
 have ql:w.heap.size+1<w1.heap.size:=by simp at hz;omega
 clear hc1 hf1 r0 r1 r2 r3
 go_wp2
 refine bodyPost_ret (v:=.tuple #[.agg #[.int .i64 a,.string s],.bool r]) (by simp[results,Tryz.results127,go_sem,q0,q1]) rfl ⟨rfl,?_⟩
 exact ((B0.trans (b1.mono B0.size)).setCell (by simp) _).setCell (by simp) _
theorem ziH(t:Int)(w:World)(hw:TW w)(ht:1≤t∧t≤3) :
  Calls Tryz.prog 127 #[.int .i64 t] w fun e w'=>e=.returned (.tuple #[.agg #[.int .i64 t,.string (zsc t)],.bool true])∧Below w.heap.size w w':=by
 have h3:t=1∨t=2∨t=3:=by omega
 rcases h3 with rfl|rfl|rfl
 ·exact zcw 1 1 _ true w hw fun p W hW hp=>zpX 1 p W hW hp rfl
 ·exact zcw 2 2 _ true w hw fun p W hW hp=>zpY 2 p W hW hp rfl rfl
 ·exact zcw 3 3 _ true w hw fun p W hW hp=>zpZ 3 p W hW hp rfl rfl rfl
theorem zle(t:Int)(w:World)(hw:TW w)(ht:¬(1≤t∧t≤3)) :
  Calls Tryz.prog 127 #[.int .i64 t] w fun e w'=>e=.returned (.tuple #[.agg #[.int .i64 0,.string ⟨#[]⟩],.bool false])∧Below w.heap.size w w' :=
 zcw t 0 _ false w hw fun p W hW hp=>zpW t p W hW hp (by simp;omega) (by simp;omega) (by simp;omega)

def errR(k:Int):Value:=if k=0 then .nilIface else .iface 35 (.int .i64 k)
theorem zpQ{k:Int}(h:k≠0):errR k=.iface 35 (.int .i64 k):=by rw[errR,if_neg h]
def colE(ahead:List (ByteArray×Int))(nm:List UInt8)(t:Int):Int :=
 if nameB nm=false then 2 else if ¬(1≤t∧t≤3) then 1 else if 0≤findN nm ahead then 7 else 0
def schGo:List (ByteArray×Int)→List (ByteArray×Int)→Int
 | _,[]=>0
 | a,c::r=>if colE a c.1.data.toList c.2≠0 then colE a c.1.data.toList c.2 else schGo (a++[c]) r
def schE(zs:List (ByteArray×Int)):Int:=if zs.length=0 then 5 else if 6<zs.length then 4 else schGo [] zs

theorem zfQ(nm:ByteArray)(t:Int)(b off c:Nat)(zs:List (ByteArray×Int))(w:World)(hs:nm.size≤maxLen)(hw:TW w)(hn:zs.length≤9223372036854775807)(hc:zbm w b off zs) :
  Calls Tryz.prog 98 #[.agg #[.string nm,.int .i64 t],.slice (some ⟨b,off,none⟩) zs.length c] w fun e w'=>e=.returned (errR (colE zs nm.data.toList t))∧Below w.heap.size w w':=by
 have B0:Below w.heap.size w (w.alloc (.cells #[.string nm,.int .i64 t] 24)):=(Below.refl _ _).alloc (Nat.le_refl _) _
 obtain⟨r0,r1,_,_⟩:=Pair.new w (.string nm) (.int .i64 t) 24
 have hcE:colE zs nm.data.toList t=if nameB nm.data.toList=false then 2 else if ¬(1≤t∧t≤3) then 1 else if 0≤findN nm.data.toList zs then 7 else 0:=rfl
 by_cases h1:nameB nm.data.toList=false
 ·rw[if_pos h1] at hcE
  rw[hcE]
  clear hcE
  have cN:=zcS nm (w.alloc (.cells #[.string nm,.int .i64 t] 24)) hs
  rw[h1] at cN
  go_enter Tryz.func98,Tryz.ntmps98
  go_wp2_with fail
  refine cN.mono ?_
  rintro e w1 ⟨rfl,b1⟩
  go_wp2
  go_ret
  exact⟨rfl,B0.trans (b1.mono B0.size)⟩
 ·rw[if_neg h1] at hcE
  have cN:=zcS nm (w.alloc (.cells #[.string nm,.int .i64 t] 24)) hs
  rw[show nameB nm.data.toList=true by simpa using h1] at cN
  clear h1
  by_cases h2:1≤t∧t≤3
  ·rw[if_neg (by simpa using h2)] at hcE
   generalize hf:findN nm.data.toList zs=fi at hcE
   have HF:Hid (findN nm.data.toList zs=fi):=hf
   clear hf
   have cT:∀W,TW W→_:=fun W hW=>ziH t W hW h2
   generalize zsc t=wd at cT
   go_enter Tryz.func98,Tryz.ntmps98
   go_wp2_with fail
   refine cN.mono ?_
   rintro e w1 ⟨rfl,b1⟩
   obtain⟨hc1,hf1⟩:=zbD b1
   have l1:w.heap.size<w1.heap.size:=by have:=b1.size;simp at this;omega
   have q0:=(hc1 w.heap.size 0 (by simp)).trans r0
   have q1:=(hc1 w.heap.size 1 (by simp)).trans r1
   have B1:=B0.trans (b1.mono B0.size)
   clear hc1 hf1 b1
   go_wp2_with fail
   refine (cT w1 (hw.on B1)).mono ?_
   rintro e w2 ⟨rfl,b2⟩
   obtain⟨hc2,hf2⟩:=zbD b2
   have l2:w.heap.size<w2.heap.size:=by have:=b2.size;omega
   have p0:=(hc2 w.heap.size 0 l1).trans q0
   have p1:=(hc2 w.heap.size 1 l1).trans q1
   have B2:=B1.trans (b2.mono B1.size)
   clear hc2 hf2 b2 q0 q1 l1
   go_wp2_with fail
   have B3:=B2.alloc B2.size (.cells #[.int .i64 t,.string wd] 200)
   refine (zen nm b off c zs _ hn (hc.on B3)).mono ?_
   rintro e w3 ⟨rfl,b3⟩
   have B4:=B3.trans (b3.mono B3.size)
   rw[HF.out]
   by_cases h3:0≤fi
   ·rw[if_pos h3] at hcE
    go_wp2
    go_ret
    exact⟨by rw[hcE];rfl,B4⟩
   ·rw[if_neg h3] at hcE
    go_wp2
    go_ret
    exact⟨by rw[hcE];rfl,B4⟩
  ·rw[if_pos h2] at hcE
   rw[hcE]
   clear hcE
   have cT:∀W,TW W→_:=fun W hW=>zle t W hW h2
   clear h2
   go_enter Tryz.func98,Tryz.ntmps98
   go_wp2_with fail
   refine cN.mono ?_
   rintro e w1 ⟨rfl,b1⟩
   obtain⟨hc1,hf1⟩:=zbD b1
   have l1:w.heap.size<w1.heap.size:=by have:=b1.size;simp at this;omega
   have q0:=(hc1 w.heap.size 0 (by simp)).trans r0
   have q1:=(hc1 w.heap.size 1 (by simp)).trans r1
   have B1:=B0.trans (b1.mono B0.size)
   clear hc1 hf1 b1
   go_wp2_with fail
   refine (cT w1 (hw.on B1)).mono ?_
   rintro e w2 ⟨rfl,b2⟩
   have B2:=B1.trans (b2.mono B1.size)
   go_wp2
   go_ret
   exact⟨rfl,B2.alloc B2.size _⟩
theorem zdG(p:Option Addr)(c:Nat)(w:World) :
  Calls Tryz.prog 66 #[.slice p 0 c] w fun e w'=>e=.returned (errR 5)∧w'=w:=by
 go_enter Tryz.func66,Tryz.ntmps66
 go_wp2
 go_ret
 exact⟨rfl,rfl⟩
theorem zig(p:Option Addr)(n c:Nat)(w:World)(hn:6<n) :
  Calls Tryz.prog 66 #[.slice p n c] w fun e w'=>e=.returned (errR 4)∧w'=w:=by
 have h0:((n:Int) == 0)=false:=by simp;omega
 have h6:(6:Int)<(n:Int):=by omega
 go_enter Tryz.func66,Tryz.ntmps66
 go_wp2
 go_ret
 exact⟨rfl,rfl⟩
theorem zoH{zs:List (ByteArray×Int)}{k:Nat}(h:k<zs.length):schGo (zs.take k) (zs.drop k)=if colE (zs.take k) zs[k].1.data.toList zs[k].2≠0 then colE (zs.take k) zs[k].1.data.toList zs[k].2 else schGo (zs.take (k+1)) (zs.drop (k+1)):=by
 rw[List.drop_eq_getElem_cons h,schGo,List.take_succ_eq_append_getElem h]
theorem zpR(k:Int)(W:World):Sem.run Tryz.prog (binOp .neq 42 (errR k) .nilIface) W=.ok (.bool (k != 0)) W:=by
 by_cases h:k=0
 ·subst h;kernel_rfl
 ·rw[zpQ h,show (k != 0)=true by simpa using h];kernel_rfl
theorem znJ(k:Int)(W:World)(j:Nat):Sem.run Tryz.prog (eqGuard .neq 42 (.tmp j) (.const .nilIface) (errR k) .nilIface) W=.ok () W:=by
 by_cases h:k=0
 ·subst h;kernel_rfl
 ·rw[zpQ h];kernel_rfl
theorem zih(b off c:Nat)(zs:List (ByteArray×Int))(w:World)(hw:TW w)(h1:zs.length≠0)(h6:¬6<zs.length)(hcap:zs.length≤c)(hl:∀z∈zs,z.1.size≤maxLen)(hc:zbm w b off zs) :
  Calls Tryz.prog 66 #[.slice (some ⟨b,off,none⟩) zs.length c] w fun e w'=>e=.returned (errR (schGo [] zs))∧Below w.heap.size w w':=by
 have z0:((zs.length:Int) == 0)=false:=by rw[beq_eq_false_iff_ne];omega
 have z6:¬(6:Int)<(zs.length:Int):=by omega
 obtain⟨E,hE⟩:∃E,schGo [] zs=E:=⟨_,rfl⟩
 rw[hE]
 go_enter Tryz.func66,Tryz.ntmps66
 go_wp2
 go_loopg [3,4,5,16] zs.length (fun gg _ _ _ s8 wr=>∃kk:Nat,kk≤zs.length∧zs.length-kk≤gg∧s8=.int .i64 kk∧Aside (Below w.heap.size w wr)∧Hid (E=schGo (zs.take kk) (zs.drop kk)))
 case atStart=>exact⟨0,Nat.zero_le _,by omega,rfl,Below.refl _ w,(show Hid _ by simp[Hid,hE])⟩
 case round =>
  obtain⟨kk,hkk,hg,rfl,BW,HS⟩:=hrel
  by_cases hlt:kk<zs.length
  ·have hltz:(kk:Int)<(zs.length:Int):=by omega
   have hin:=hc.on BW.out
   obtain⟨c0,c1⟩:=hin.2 kk hlt
   have HS2:Hid (E=if colE (zs.take kk) zs[kk].1.data.toList zs[kk].2≠0 then colE (zs.take kk) zs[kk].1.data.toList zs[kk].2 else schGo (zs.take (kk+1)) (zs.drop (kk+1))):=HS.out.trans (zoH hlt)
   have hsz:=hl _ (List.getElem_mem hlt)
   generalize hy:zs[kk]=y at c0 c1 HS2 hsz
   obtain⟨yn,yt⟩:=y
   have B1:=BW.out.alloc BW.out.size (.cells #[.string yn,.int .i64 yt] 24)
   have hlen:(zs.take kk).length=kk:=by rw[List.length_take];omega
   have cC:=fun q=>zfQ yn yt b off c (zs.take kk) ((wr.alloc (.cells #[.string yn,.int .i64 yt] 24)).drewN q) hsz (hw.on (below_drewN B1 q)) (by omega) ((hc.on (below_drewN B1 q)).take kk)
   rw[hlen] at cC
   simp only at HS2
   generalize hce:colE (zs.take kk) yn.data.toList yt=ce at cC HS2
   have e1:=zpR ce
   have e2:=znJ ce
   have k1:(0:Int)≤(kk:Int):=by omega
   have k2:(kk:Int)≤(c:Int):=by omega
   clear HS hy hin hc hl hce
   go_wp2
   go_region_with (go_at_call 98;refine (cC _).mono ?_;rintro e w' ⟨rfl,b2⟩)
   have B2:=(below_drewN B1 _).trans (b2.mono (below_drewN B1 _).size)
   by_cases hz:ce=0
   ·have hb:(ce != 0)=false:=by simpa using hz
    rw[hb] at e1
    have HS3:Hid (E=schGo (zs.take (kk+1)) (zs.drop (kk+1))):=by
     have:=HS2.out
     rwa [if_neg (by simpa using hz)] at this
    clear HS2 hz hb
    go_wp2
    go_roundg (zs.length-(kk+1))
    case measure=>omega
    case rel=>exact⟨kk+1,by omega,by omega,by go_num,B2,HS3⟩
   ·have hb:(ce != 0)=true:=by simpa using hz
    rw[hb] at e1
    have HS3:E=ce:=by
     have:=HS2.out
     rwa [if_pos hz] at this
    subst HS3
    clear HS2 hz hb
    go_wp2
    go_ret
    exact⟨rfl,B2⟩
  ·have hltz:¬(kk:Int)<(zs.length:Int):=by omega
   have:kk=zs.length:=by omega
   have hz:E=0:=by
    rw[HS.out,this,List.drop_length];cases zs.take zs.length<;>rfl
   subst hz
   clear HS
   go_wp2
   go_ret
   exact⟨rfl,BW.out⟩
theorem zkl(b off c:Nat)(zs:List (ByteArray×Int))(w:World)(hw:TW w)(hcap:zs.length≤c)(hl:∀z∈zs,z.1.size≤maxLen)(hc:zbm w b off zs) :
  Calls Tryz.prog 66 #[.slice (some ⟨b,off,none⟩) zs.length c] w fun e w'=>e=.returned (errR (schE zs))∧Below w.heap.size w w':=by
 rw[schE]
 by_cases h1:zs.length=0
 ·rw[if_pos h1,h1]
  exact (zdG _ c w).mono fun e w' hh=>⟨hh.1,by rw[hh.2];exact Below.refl _ _⟩
 ·rw[if_neg h1]
  by_cases h6:6<zs.length
  ·rw[if_pos h6]
   exact (zig _ _ c w h6).mono fun e w' hh=>⟨hh.1,by rw[hh.2];exact Below.refl _ _⟩
  ·rw[if_neg h6]
   exact zih b off c zs w hw h1 h6 hcap hl hc
theorem zfy:∀(a r:List (ByteArray×Int)),schGo a r=0→∀k (h:k<r.length),colE (a++r.take k) r[k].1.data.toList r[k].2=0
 | a,[],_,k,h=>absurd h (by simp)
 | a,c::r,h0,k,h=>by
  rw[schGo] at h0
  by_cases hc:colE a c.1.data.toList c.2=0
  ·rw[if_neg (by simpa using hc)] at h0
   cases k with
   | zero=>simpa using hc
   | succ k =>
    have:=zfy (a++[c]) r h0 k (by simpa using h)
    simpa [List.append_assoc] using this
  ·rw[if_pos hc] at h0
   exact absurd h0 hc
theorem zlf{a:List (ByteArray×Int)}{nm:List UInt8}{t:Int}(h:colE a nm t=0):nameB nm=true∧(1≤t∧t≤3)∧findN nm a=-1:=by
 rw[colE] at h
 split at h
 ·exact absurd h (by decide)
 ·rename_i h1
  split at h
  ·exact absurd h (by decide)
  ·rename_i h2
   split at h
   ·exact absurd h (by decide)
   ·rename_i h3
    refine⟨by simpa using h1,Classical.not_not.1 h2,?_⟩
    rcases zci nm a with ⟨e,_⟩|⟨k,e,_⟩
    ·exact e
    ·rw[e] at h3;exact absurd (by omega) h3
theorem zes{zs:List (ByteArray×Int)}(h:schE zs=0):zs.length≠0∧zs.length≤6∧∀k (h:k<zs.length),nameB zs[k].1.data.toList=true∧(1≤zs[k].2∧zs[k].2≤3)∧findN zs[k].1.data.toList zs=k:=by
 rw[schE] at h
 split at h
 ·exact absurd h (by decide)
 ·rename_i h1
  split at h
  ·exact absurd h (by decide)
  ·rename_i h6
   refine⟨h1,by omega,fun k hk=>?_⟩
   obtain⟨e1,e2,e3⟩:=zlf (zfy [] zs h k hk)
   refine⟨e1,e2,zhc hk rfl fun j hj he=>?_⟩
   rcases zci zs[k].1.data.toList ([]++zs.take k) with ⟨_,hn⟩|⟨i,ei,_⟩
   ·have hj2:j<([]++zs.take k).length:=by simp;omega
    have:=hn j hj2
    simp only[List.nil_append,List.getElem_take] at this
    exact this he
   ·rw[e3] at ei;omega
section
open Go.ChangeShapes Go.WideShapes Go.ChangeAt Go.Deep
theorem zmI:laidOutB Tryz.prog=true:=by kernel_rfl
theorem znu:Tryz.prog.cellsOf 9=1:=by kernel_rfl
theorem ziJ:Tryz.prog.cellsOf 3=1:=by kernel_rfl
theorem g_tw : Tryz.prog.globalNamed "sluicebook/row.typeWords" = some 7 := by kernel_rfl
theorem t_tw:(Tryz.prog.globals[7]?).map (·.type)=some 274:=by kernel_rfl
theorem zpA:Tryz.prog.cellsOf 200=2:=by kernel_rfl
theorem zpz:Tryz.prog.cellsOf 274=6:=by kernel_rfl
set_option maxRecDepth 100000 in
theorem zkG{W:World}{m:Nat}{x y:Value}{a:Int}{l:List UInt8}{ps:List MemPlace}(h:DataW.trod (fun _=>()) Tryz.prog W 0 (fun _=>true) false m 200 [x,y]=some (DataW.agg [.lit (.int .i64 a),.lit (.string l)],ps)):x=.int .i64 a∧y=.string ⟨l.toArray⟩:=by
 obtain⟨y0,y1,n,e,_,h0,h1⟩:=trod_struct2 Tryz.underlying200 h
 simp[ziJ,znu] at h0 h1
 obtain⟨k,e0,r0,_⟩:=DataW.trod_int Tryz.underlying3 h0
 obtain⟨s,e1,r1,_⟩:=DataW.trod_string Tryz.underlying9 h1
 simp at e0 e1
 subst e0 e1 r0 r1
 simp at e
 obtain⟨⟨rfl,rfl⟩,_⟩:=e
 exact⟨rfl,by simp⟩
set_option maxRecDepth 100000 in
theorem tw_of {W : World} {rest : List (String × DataW Unit)} (h : laidMet Tryz.prog (("sluicebook/row.typeWords", Rows.laid_sluicebook_row_typeWords) :: rest) W) : TW W := by
 obtain⟨ps,⟨g',t',cs,fuel,p,q,hg',ht',hvar,hd,_,_⟩,_⟩:=h
 obtain rfl:=Option.some.inj (g_tw.symm.trans hg')
 obtain rfl:=Option.some.inj (t_tw.symm.trans ht')
 obtain⟨xs,m,_,hx,hl,hlen,hel⟩:=DataW.trod_array Tryz.underlying274 hd
 rw[zpz] at hl
 rw[zpA] at hel
 have hcs:∃c0 c1 c2 c3 c4 c5,cs=#[c0,c1,c2,c3,c4,c5]:=by
  obtain⟨l⟩:=cs
  match l,hl with
  | [c0,c1,c2,c3,c4,c5],_=>exact⟨_,_,_,_,_,_,rfl⟩
 obtain⟨c0,c1,c2,c3,c4,c5,rfl⟩:=hcs
 match xs,hlen with
 | [x0,x1,x2],_ =>
  obtain⟨d0,q0⟩:=x0
  obtain⟨d1,q1⟩:=x1
  obtain⟨d2,q2⟩:=x2
  have hx2:=congrArg Prod.fst hx
  simp[Rows.laid_sluicebook_row_typeWords] at hx2
  obtain⟨r0,r1,r2⟩:=hx2
  subst r0 r1 r2
  obtain⟨e0,e1⟩:=zkG (by simpa using hel 0 (by decide))
  obtain⟨e2,e3⟩:=zkG (by simpa using hel 1 (by decide))
  obtain⟨e4,e5⟩:=zkG (by simpa using hel 2 (by decide))
  subst e0 e1 e2 e3 e4 e5
  have hc:=fun i=>World.var?_cell g_tw hvar i
  exact⟨by simpa using hc 0,by simpa using hc 1,by simpa using hc 2,by simpa using hc 3,by simpa using hc 4,by simpa using hc 5,zcb (o:=0) (by simpa using hc 0)⟩
end
end Go.Proofs.YtopghagjmdbglaaGreatDoor
