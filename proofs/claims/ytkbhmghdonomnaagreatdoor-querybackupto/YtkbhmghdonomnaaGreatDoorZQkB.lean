/-
  The law QueryBack at any text, query and columns.
-/
import Derived.Test.YtkbhmghdonomnaaGreatDoorZQbM
import Derived.Test.YtkbhmghdonomnaaGreatDoorZQkWyy
import Derived.Test.YtkbhmghdonomnaaGreatDoorZQkWyn
import Derived.Test.YtkbhmghdonomnaaGreatDoorZQkWny
import Derived.Test.YtkbhmghdonomnaaGreatDoorZQkWnn
namespace Go.Proofs.YtkbhmghdonomnaaGreatDoor
open Go.RowKit Go.BigFrame
set_option linter.unusedVariables false
set_option linter.unusedSimpArgs false
theorem qyIn_Q {w : World} {QC : Array Value} {q : Qy} (h : QyIn w (fun _ => True) (.agg QC) q) : QyQ w QC q := by
 obtain ⟨wp, wc, cp, cc, np, nc, gp, gc, ap, ac, e, hB⟩ := h
 injection e with e
 subst e
 exact ⟨wp, wc, cp, cc, np, nc, gp, gc, ap, ac, qyL_of hB⟩
theorem wr_size {T : ByteArray} {q : Qy} (h : T.data.toList = wrQ q) : T.size ≤ maxLen := by
 have := wrQ_len q
 rw [← h] at this
 have e : T.data.toList.length = T.size := by rw [Lib.size_eq]
 unfold maxLen
 omega
theorem qkC {w : World} (henv : KEnv w) (haenv : AEnv w) (hsg : SG w) {q : Qy} {QC : Array Value} {vl : Value} {zs : List Cl} (hin : QyIn w (fun _ => True) (.agg QC) q) (hok : QyOk q) (hcv : ColsV w vl zs) (s : ByteArray) (hs : s.size ≤ 1048576) (RL : List Cl) (RE : Int) (hR : chQ zs q = (RL, RE)) (T1 : ByteArray) (K1 : Int) (hT1 : T1.data.toList = (prQ q).1) (hK1 : (prQ q).2 = K1) (p : Qy) (E : Int) (P : Nat) (hZ : qpC s.data.toList = (p, E, P)) (T2 : ByteArray) (K2 : Int) (hT2 : T2.data.toList = (prQ p).1) (hK2 : (prQ p).2 = K2) : QkC w s QC vl RL RE T1 K1 E P T2 K2 := by
 have hbig := henv.tenv.big
 have hQ := qyIn_Q hin
 have hsl : s.data.toList.length = s.size := by rw [Lib.size_eq]
 have hsm : s.size ≤ maxLen := by unfold maxLen; omega
 refine ⟨fun W hb => ?_, fun W hb => print_q q QC W (henv.tenv.on hb) (haenv.onB hb hbig hb.size) (hsg.on hb) (hQ.on hb) (qyW_ok hok) T1 K1 hT1 hK1, fun h0 W hb => ?_, fun W hb => check_q q _ (.agg QC) vl zs W (henv.on hb) (haenv.onB hb hbig hb.size) (hin.on hb) (hcv.on hb) ⟨hok.wn, fun x hx => (hok.cn x hx).1, fun a ha => (hok.an a ha).1, fun s hs => by
   rw [namesQ] at hs
   rcases List.mem_append.1 hs with hs | hs
   ·exact hok.ns s hs
   ·rcases List.mem_append.1 hs with hs | hs
    ·exact hok.gs s hs
    ·obtain ⟨a, ha, rfl⟩ := List.mem_map.1 hs
     exact (hok.an a ha).2.2.2, hok.z1, hok.z2⟩ RL RE hR, fun h0 W u hb hu => ?_, fun W hb => ?_, by have := qpC_at hZ; omega, fun h0 hne => ?_, hs⟩
 ·refine (parse_q kS W (henv.tenv.on hb) (haenv.onB hb hbig hb.size) (hsg.on hb) (by decide) kQ 0 0 k_parse).mono fun e w' hh => ⟨?_, hh.2⟩
  obtain ⟨v, he, wp, wc, cp, cc, np, nc, gp, gc, ap, ac, rfl, hB⟩ := hh.1
  have hn : StsA w' (.slice np 1 nc) [⟨#[98]⟩] := hB.names
  obtain ⟨g, off, rfl, hg, hc⟩ := sts_some hn (m := 0) (by simp)
  exact ⟨_, cp, cc, g, off, nc, he, pcO_of _ _ _ _ _ _ _ _ _ _ _, ⟨rfl, rfl, rfl, rfl⟩, hg, by have := hc 0 (by simp); simpa using this⟩
 ·obtain ⟨h1, p1, h2, h3⟩ := prQ_ok (hK1.trans h0)
  refine (parse_p T1 W (henv.tenv.on hb) (haenv.onB hb hbig hb.size) (hsg.on hb) (wr_size (hT1.trans h1)) p1 0 0 (by rw [hT1, h1]; exact h2)).mono fun e w' hh => ⟨?_, hh.2⟩
  obtain ⟨PC, he, ho, hq⟩ := hh.1
  exact ⟨PC, he, ho, fun V hV => like_p p1 q PC QC V (hq.out.on hV) (hQ.on (hb.trans ((hh.2.trans (hV.mono hh.2.size)).mono hb.size))) h3⟩
 ·have hsc : schE RL = 0 := by
   rcases chQ_says zs q with ⟨h1, _⟩ | ⟨_, _, h3, _⟩
   ·rw [hR] at h1; exact absurd h0 h1
   ·rw [hR] at h3; exact h3
  refine (schemaV u RL W (henv.tw.on hb) hu).mono fun e w' hh => ⟨?_, hh.2⟩
  rw [hh.1, hsc]
  rfl
 ·refine (parse_p s W (henv.tenv.on hb) (haenv.onB hb hbig hb.size) (hsg.on hb) hsm p E P hZ).mono fun e w' hh => ⟨?_, hh.2⟩
  obtain ⟨PC, he, ho, hq⟩ := hh.1
  have hbW : ∀ V, Below w'.heap.size w' V → Below w.heap.size w V := fun V hV => hb.trans ((hh.2.trans (hV.mono hh.2.size)).mono hb.size)
  refine ⟨PC, he, ho, fun h0 V hV => ?_, fun h0 h1 V hV => ?_⟩
  ·subst h0
   exact print_q p PC V (henv.tenv.on (hbW V hV)) (haenv.onB (hbW V hV) hbig (hbW V hV).size) (hsg.on (hbW V hV)) (hq.out.on hV) (qyW_read hZ) T2 K2 hT2 hK2
  ·obtain ⟨e1, p1, e2, e3⟩ := prQ_ok (hK2.trans h1)
   refine (parse_p T2 V (henv.tenv.on (hbW V hV)) (haenv.onB (hbW V hV) hbig (hbW V hV).size) (hsg.on (hbW V hV)) (wr_size (hT2.trans e1)) p1 0 0 (by rw [hT2, e1]; exact e2)).mono fun e v' hh2 => ⟨?_, hh2.2⟩
   obtain ⟨PC3, he3, ho3, hq3⟩ := hh2.1
   exact ⟨PC3, he3, ho3, fun U hU => like_p p1 p PC3 PC U (hq3.out.on hU) ((hq.out.on hV).on (hh2.2.trans (hU.mono hh2.2.size))) e3⟩
 ·subst h0
  rcases Nat.lt_or_ge 100 s.size with h | h
  ·exact h
  ·exact absurd (hK2.symm.trans (prQ_back hZ (by omega))) hne
theorem back_law (s : ByteArray) (q : Qy) (v vl : Value) (zs : List Cl) (w : World) (henv : KEnv w) (haenv : AEnv w) (hsg : SG w) (hq : QyIn w (fun _ => True) v q) (hok : QyOk q) (hcv : ColsV w vl zs) (hs : s.size ≤ 1048576) :
  Calls Tryz.prog 3 #[.string s, v, vl] w fun e w' => e = .returned (.bool true) ∧ Below w.heap.size w w' := by
 obtain ⟨wp, wc, cp, cc, np, nc, gp, gc, ap, ac, rfl, hB⟩ := id hq
 obtain ⟨p, E, P, hZ⟩ : ∃ p E P, qpC s.data.toList = (p, E, P) := ⟨_, _, _, rfl⟩
 have C := qkC henv haenv hsg hq hok hcv s hs (chQ zs q).1 (chQ zs q).2 (Prod.ext rfl rfl) ⟨(prQ q).1.toArray⟩ (prQ q).2 rfl rfl p E P hZ ⟨(prQ p).1.toArray⟩ (prQ p).2 rfl rfl
 by_cases h1 : (prQ q).2 = 0
 ·rcases chQ_says zs q with ⟨h2, _⟩ | ⟨h2, h3, _, h4⟩
  ·exact back_yn s vl w _ rfl np nc q.names.length gp gc q.group.length ap ac q.aggs.length rfl rfl rfl _ _ _ _ E P _ _ C h1 h2
  ·exact back_yy s vl w _ rfl np nc q.names.length gp gc q.group.length ap ac q.aggs.length rfl rfl rfl _ _ _ _ E P _ _ C h1 h2 (by have := congrArg List.length h3; rw [List.length_map, names_len] at this; omega) (by rcases form_ok h4 with h | h <;> omega)
 ·rcases chQ_says zs q with ⟨h2, _⟩ | ⟨h2, h3, _, h4⟩
  ·exact back_nn s vl w _ rfl np nc q.names.length gp gc q.group.length ap ac q.aggs.length rfl rfl rfl _ _ _ _ E P _ _ C h1 h2
  ·exact back_ny s vl w _ rfl np nc q.names.length gp gc q.group.length ap ac q.aggs.length rfl rfl rfl _ _ _ _ E P _ _ C h1 h2 (by have := congrArg List.length h3; rw [List.length_map, names_len] at this; omega) (by rcases form_ok h4 with h | h <;> omega)
end Go.Proofs.YtkbhmghdonomnaaGreatDoor
