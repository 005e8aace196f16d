/-
  EvSe2, EvSe3, in one text.
-/
import Derived.Test.YtkoejkpjkcejcabDoorGyAt
namespace Go.Proofs.YtkoejkpjkcejcabDoor
open Go.RowKit Go.BigFrame
set_option linter.unusedVariables false

set_option maxHeartbeats 16000000 in
set_option maxRecDepth 20000 in
theorem sides_e2 (a b : Ex) (va vb vl vr : Value) (zs : List (ByteArray × Int)) (rs : List V3) (w : World) (henv : KEnv w) (ha : ExIn w anyB va a) (hb : ExIn w anyB vb b) (hla : (a.pre 1).length ≤ 1048576) (hlb : (b.pre 1).length ≤ 1048576) (hda : ExB a) (hdb : ExB b) (hcv : ColsV w vl zs) (hrv : ValsV w vr rs) (hrs : SizedV rs) (hgood : (rowChk zs rs = 0 ∧ (a.pre 1).length ≤ 90 ∧ (b.pre 1).length ≤ 90 ∧ (ofP zs a).2.1 = 0 ∧ (ofP zs b).2.1 = 0 ∧ ckP (mkN ⟨#[105, 102]⟩ [yesX, a, b]) = 0 ∧ (ofP zs a).1 = (ofP zs b).1)) (hcase : (cmP zs rs a).2 = 0 ∧ (cmP zs rs b).2 = 0 ∧ (cmP zs rs (mkN ⟨#[60]⟩ [a, b])).1.2.1 = 1) :
    Calls Tryd.prog 3 #[va, vb, vl, vr] w fun e' w' => e' = .returned (.bool true) ∧ Below w.heap.size w w' := by
  have HGD : Hid _ := hgood
  clear hgood
  have HCS : Hid _ := hcase
  clear hcase
  obtain ⟨o1, n1, t1, k1, s1, p1, m1, c1, a1, rfl⟩ := ha.agg
  obtain ⟨o2, n2, t2, k2, s2, p2, m2, c2, a2, rfl⟩ := hb.agg
  obtain ⟨b0, box⟩ := sides_box w #[.string o1, .string n1, .int .i64 t1, .int .i64 k1, .string s1, .slice p1 m1 c1, .int .i64 a1] #[.string o2, .string n2, .int .i64 t2, .int .i64 k2, .string s2, .slice p2 m2 c2, .int .i64 a2] #[.string ⟨#[118, 97, 108]⟩, .string ⟨#[]⟩, .int .i64 2, .int .i64 1, .string ⟨#[]⟩, .slice none 0 0, .int .i64 0] #[.string ⟨#[118, 97, 108]⟩, .string ⟨#[]⟩, .int .i64 2, .int .i64 0, .string ⟨#[]⟩, .slice none 0 0, .int .i64 0] #[.string ⟨#[120]⟩, .int .i64 1]
  have key : ∃ BL : World → Prop, BL (((((((w.alloc (.cells #[.string o1, .string n1, .int .i64 t1, .int .i64 k1, .string s1, .slice p1 m1 c1, .int .i64 a1] 26)).alloc (.cells #[.string o2, .string n2, .int .i64 t2, .int .i64 k2, .string s2, .slice p2 m2 c2, .int .i64 a2] 26)).alloc (.cells #[.string ⟨#[118, 97, 108]⟩, .string ⟨#[]⟩, .int .i64 2, .int .i64 1, .string ⟨#[]⟩, .slice none 0 0, .int .i64 0] 26)).alloc (.cells #[.string ⟨#[118, 97, 108]⟩, .string ⟨#[]⟩, .int .i64 2, .int .i64 0, .string ⟨#[]⟩, .slice none 0 0, .int .i64 0] 26)).alloc (.cells #[.string ⟨#[120]⟩, .int .i64 1] 30)).alloc (.cells #[.string ⟨#[118, 97, 108]⟩, .string ⟨#[]⟩, .int .i64 2, .int .i64 0, .string ⟨#[]⟩, .slice none 0 0, .int .i64 0] 26)).alloc (.cells #[.int .i64 1, .int .i64 3, .string ⟨#[]⟩] 23)) ∧ (∀ W, BL W → Cells7 W w.heap.size (.string o1) (.string n1) (.int .i64 t1) (.int .i64 k1) (.string s1) (.slice p1 m1 c1) (.int .i64 a1) ∧ Cells7 W (w.heap.size + 1) (.string o2) (.string n2) (.int .i64 t2) (.int .i64 k2) (.string s2) (.slice p2 m2 c2) (.int .i64 a2) ∧ Cells7 W (w.heap.size + 2) (.string ⟨#[118, 97, 108]⟩) (.string ⟨#[]⟩) (.int .i64 2) (.int .i64 1) (.string ⟨#[]⟩) (.slice none 0 0) (.int .i64 0) ∧ Cells7 W (w.heap.size + 3) (.string ⟨#[118, 97, 108]⟩) (.string ⟨#[]⟩) (.int .i64 2) (.int .i64 0) (.string ⟨#[]⟩) (.slice none 0 0) (.int .i64 0) ∧ w.heap.size + 5 ≤ W.heap.size ∧ Below w.heap.size w W) ∧ (∀ W W', BL W → Below W.heap.size W W' → BL W') ∧ (∀ W o, BL W → BL (W.alloc o)) := by
    refine ⟨Below (w.heap.size + 5) (((((w.alloc (.cells #[.string o1, .string n1, .int .i64 t1, .int .i64 k1, .string s1, .slice p1 m1 c1, .int .i64 a1] 26)).alloc (.cells #[.string o2, .string n2, .int .i64 t2, .int .i64 k2, .string s2, .slice p2 m2 c2, .int .i64 a2] 26)).alloc (.cells #[.string ⟨#[118, 97, 108]⟩, .string ⟨#[]⟩, .int .i64 2, .int .i64 1, .string ⟨#[]⟩, .slice none 0 0, .int .i64 0] 26)).alloc (.cells #[.string ⟨#[118, 97, 108]⟩, .string ⟨#[]⟩, .int .i64 2, .int .i64 0, .string ⟨#[]⟩, .slice none 0 0, .int .i64 0] 26)).alloc (.cells #[.string ⟨#[120]⟩, .int .i64 1] 30)), ((Below.refl _ _).alloc (by simp) _).alloc (by simp) _, fun W hb => ?_, fun W W' h1 h2 => h1.trans (h2.mono (box W h1).2.2.2.2.1), fun W o h1 => h1.alloc (box W h1).2.2.2.2.1 o⟩
    obtain ⟨h1, h2, h3, h4, h5, h6⟩ := box W hb
    exact ⟨⟨h1 0, h1 1, h1 2, h1 3, h1 4, h1 5, h1 6⟩, ⟨h2 0, h2 1, h2 2, h2 3, h2 4, h2 5, h2 6⟩, ⟨h3 0, h3 1, h3 2, h3 3, h3 4, h3 5, h3 6⟩, ⟨h4 0, h4 1, h4 2, h4 3, h4 4, h4 5, h4 6⟩, h5, h6⟩
  clear box b0
  obtain ⟨BL, X6, hFR, GR, GA⟩ := key
  have FR : Hid (∀ W, BL W → Cells7 W w.heap.size (.string o1) (.string n1) (.int .i64 t1) (.int .i64 k1) (.string s1) (.slice p1 m1 c1) (.int .i64 a1) ∧ Cells7 W (w.heap.size + 1) (.string o2) (.string n2) (.int .i64 t2) (.int .i64 k2) (.string s2) (.slice p2 m2 c2) (.int .i64 a2) ∧ Cells7 W (w.heap.size + 2) (.string ⟨#[118, 97, 108]⟩) (.string ⟨#[]⟩) (.int .i64 2) (.int .i64 1) (.string ⟨#[]⟩) (.slice none 0 0) (.int .i64 0) ∧ Cells7 W (w.heap.size + 3) (.string ⟨#[118, 97, 108]⟩) (.string ⟨#[]⟩) (.int .i64 2) (.int .i64 0) (.string ⟨#[]⟩) (.slice none 0 0) (.int .i64 0) ∧ w.heap.size + 5 ≤ W.heap.size ∧ Below w.heap.size w W) := hFR
  have TO : ∀ W, BL W → Below w.heap.size w W := fun W hb => (hFR W hb).2.2.2.2.2
  clear hFR
  have NX : ∀ e1 w', Below e1 w w' → True := fun _ _ _ => trivial
  clear NX
  have cF := eval_any (mkN ⟨#[110, 111, 116]⟩ [noX]) anyB _ (.slice (some ⟨w.heap.size + 1 + 1 + 1 + 1, 0, none⟩) 1 1) (.slice (some ⟨w.heap.size + 1 + 1 + 1 + 1 + 1 + 1, 0, none⟩) 1 1) [(⟨#[120]⟩, 1)] [(1, 3, ⟨#[]⟩)] (((((((w.alloc (.cells #[.string o1, .string n1, .int .i64 t1, .int .i64 k1, .string s1, .slice p1 m1 c1, .int .i64 a1] 26)).alloc (.cells #[.string o2, .string n2, .int .i64 t2, .int .i64 k2, .string s2, .slice p2 m2 c2, .int .i64 a2] 26)).alloc (.cells #[.string ⟨#[118, 97, 108]⟩, .string ⟨#[]⟩, .int .i64 2, .int .i64 1, .string ⟨#[]⟩, .slice none 0 0, .int .i64 0] 26)).alloc (.cells #[.string ⟨#[118, 97, 108]⟩, .string ⟨#[]⟩, .int .i64 2, .int .i64 0, .string ⟨#[]⟩, .slice none 0 0, .int .i64 0] 26)).alloc (.cells #[.string ⟨#[120]⟩, .int .i64 1] 30)).alloc (.cells #[.string ⟨#[118, 97, 108]⟩, .string ⟨#[]⟩, .int .i64 2, .int .i64 0, .string ⟨#[]⟩, .slice none 0 0, .int .i64 0] 26)).alloc (.cells #[.int .i64 1, .int .i64 3, .string ⟨#[]⟩] 23)) (henv.on (TO _ X6)) ((mk1_in ⟨#[110, 111, 116]⟩ (by decide) (no_in (((((w.alloc (.cells #[.string o1, .string n1, .int .i64 t1, .int .i64 k1, .string s1, .slice p1 m1 c1, .int .i64 a1] 26)).alloc (.cells #[.string o2, .string n2, .int .i64 t2, .int .i64 k2, .string s2, .slice p2 m2 c2, .int .i64 a2] 26)).alloc (.cells #[.string ⟨#[118, 97, 108]⟩, .string ⟨#[]⟩, .int .i64 2, .int .i64 1, .string ⟨#[]⟩, .slice none 0 0, .int .i64 0] 26)).alloc (.cells #[.string ⟨#[118, 97, 108]⟩, .string ⟨#[]⟩, .int .i64 2, .int .i64 0, .string ⟨#[]⟩, .slice none 0 0, .int .i64 0] 26)).alloc (.cells #[.string ⟨#[120]⟩, .int .i64 1] 30))) (w.heap.size + 1 + 1 + 1 + 1 + 1) (by simp)).on ((Below.refl _ _).alloc (Nat.le_refl _) _)) (by decide) (bd_mk (fun y hy => by
      obtain rfl := List.mem_singleton.1 hy
      exact ExB_no))
    ⟨_, _, rfl, .inr ⟨w.heap.size + 1 + 1 + 1 + 1, 0, rfl, by decide, (fun z hz => by
      obtain rfl := List.mem_singleton.1 hz
      decide), by simp, fun j hj => by
      obtain rfl : j = 0 := by simpa using hj
      exact ⟨by rw [World.cell?_alloc_lt _ _ _ (by simp), World.cell?_alloc_lt _ _ _ (by simp), World.cell?_alloc_at _ _ _ _ (by simp)]; rfl, by rw [World.cell?_alloc_lt _ _ _ (by simp), World.cell?_alloc_lt _ _ _ (by simp), World.cell?_alloc_at _ _ _ _ (by simp)]; rfl⟩⟩⟩
    ⟨_, _, rfl, by decide, .inr ⟨w.heap.size + 1 + 1 + 1 + 1 + 1 + 1, 0, rfl, by simp, fun j hj => by
      obtain rfl : j = 0 := by simpa using hj
      exact ⟨by rw [World.cell?_alloc_at _ _ _ _ (by simp)]; rfl, by rw [World.cell?_alloc_at _ _ _ _ (by simp)]; rfl, by rw [World.cell?_alloc_at _ _ _ _ (by simp)]; rfl⟩⟩⟩
    (fun r hr => by
      obtain rfl := List.mem_singleton.1 hr
      exact ⟨by decide, by unfold inB; decide⟩) 2 1 ⟨#[]⟩ 0 ev_fact
  rw [show errV 0 = .nilIface from rfl] at cF
  have cK := fun W (hW : BL W) => rowCheck_v vl vr zs rs W (henv.on (TO W hW)).tw (hcv.on (TO W hW)) (hrv.on (TO W hW)) hrs
  have cSa := fun W (hW : BL W) => size_any a anyB _ W (ha.on (TO W hW)) hla
  have cSb := fun W (hW : BL W) => size_any b anyB _ W (hb.on (TO W hW)) hlb
  obtain ⟨T, H, P, hofa⟩ : ∃ T H P, ofP zs a = (T, H, P) := ⟨_, _, _, rfl⟩
  obtain ⟨U, G, Q, hofb⟩ : ∃ T H P, ofP zs b = (T, H, P) := ⟨_, _, _, rfl⟩
  have cOa := fun W (hW : BL W) => of_any a anyB _ vl zs W (henv.on (TO W hW)) (ha.on (TO W hW)) hla (hcv.on (TO W hW)) T H P hofa
  have cOb := fun W (hW : BL W) => of_any b anyB _ vl zs W (henv.on (TO W hW)) (hb.on (TO W hW)) hlb (hcv.on (TO W hW)) U G Q hofb
  obtain ⟨K, hK⟩ : ∃ K, rowChk zs rs = K := ⟨_, rfl⟩
  obtain ⟨LA, hLA⟩ : ∃ LA, (a.pre 1).length = LA := ⟨_, rfl⟩
  obtain ⟨LB, hLB⟩ : ∃ LB, (b.pre 1).length = LB := ⟨_, rfl⟩
  have HEN : Aside (KEnv w) := henv
  have HA : Aside (ExIn w anyB (.agg #[.string o1, .string n1, .int .i64 t1, .int .i64 k1, .string s1, .slice p1 m1 c1, .int .i64 a1]) a) := ha
  have HB : Aside (ExIn w anyB (.agg #[.string o2, .string n2, .int .i64 t2, .int .i64 k2, .string s2, .slice p2 m2 c2, .int .i64 a2]) b) := hb
  have HCV : Aside (ColsV w vl zs) := hcv
  have HRV : Aside (ValsV w vr rs) := hrv
  have HRS : Aside (SizedV rs) := hrs
  have HDA : Aside (ExB a) := hda
  have HDB : Aside (ExB b) := hdb
  have cEa := fun (t k : Int) (s : ByteArray) (e : Int) (hR : evP zs rs a = ((t, k, s), e)) W (hW : BL W) => eval_any a anyB _ vl vr zs rs W (henv.on (TO W hW)) (ha.on (TO W hW)) hla hda (hcv.on (TO W hW)) (hrv.on (TO W hW)) hrs t k s e hR
  have cEb := fun (t k : Int) (s : ByteArray) (e : Int) (hR : evP zs rs b = ((t, k, s), e)) W (hW : BL W) => eval_any b anyB _ vl vr zs rs W (henv.on (TO W hW)) (hb.on (TO W hW)) hlb hdb (hcv.on (TO W hW)) (hrv.on (TO W hW)) hrs t k s e hR
  rw [hK] at cK
  rw [hLA] at cSa
  rw [hLB] at cSb
  have HLA : Hid ((a.pre 1).length = LA) := hLA
  have HLB : Hid ((b.pre 1).length = LB) := hLB
  have HK : Hid (rowChk zs rs = K) := hK
  have HOA : Hid (ofP zs a = (T, H, P)) := hofa
  have HOB : Hid (ofP zs b = (U, G, Q)) := hofb
  clear henv ha hb hcv hrv hrs hda hdb hla hlb hofa hofb hK hLA hLB
  go_enter Tryd.func3, Tryd.ntmps3
  go_wp2_with fail
  refine cF.mono ?_
  rintro e' w1 ⟨rfl, b1⟩
  have Bw1 : Aside (BL w1) := GR _ _ X6 b1
  have hz1 : w.heap.size + 5 ≤ w1.heap.size := (FR.out w1 Bw1.out).2.2.2.2.1
  clear cF b1 X6
  by_cases hK0 : K = 0
  · subst hK0
    rw [show errV 0 = .nilIface from rfl] at cK
    go_wp2_with fail
    refine (cK _ (GA _ _ Bw1.out)).mono ?_
    rintro e' w2 ⟨rfl, b2⟩
    have Bw2 : Aside (BL w2) := GR _ _ (GA _ _ Bw1.out) b2
    clear cK b2
    obtain ⟨fA0, fA1, fA2, fA3, fA4, fA5, fA6⟩ := (FR.out w2 Bw2.out).1
    have hzw2 : w.heap.size + 5 ≤ w2.heap.size := (FR.out w2 Bw2.out).2.2.2.2.1
    have hyw20 : w.heap.size < w2.heap.size := by omega
    have hyw21 : w.heap.size + 1 < w2.heap.size := by omega
    have hyw22 : w.heap.size + 2 < w2.heap.size := by omega
    have hyw23 : w.heap.size + 3 < w2.heap.size := by omega
    go_wp2_with fail
    refine (cSa _ Bw2.out).mono ?_
    rintro e' w3 ⟨rfl, b3⟩
    have Bw3 : Aside (BL w3) := GR _ _ Bw2.out b3
    clear fA0 fA1 fA2 fA3 fA4 fA5 fA6
    clear cSa b3
    by_cases hA90 : 90 < LA
    · have hA90z : (90 : Int) < (LA : Int) := by omega
      exact absurd HGD.out.2.1 (by rw [HLA.out]; omega)
    · have hA90z : ¬ (90 : Int) < (LA : Int) := by omega
      obtain ⟨fB0, fB1, fB2, fB3, fB4, fB5, fB6⟩ := (FR.out w3 Bw3.out).2.1
      have hzw3 : w.heap.size + 5 ≤ w3.heap.size := (FR.out w3 Bw3.out).2.2.2.2.1
      have hyw30 : w.heap.size < w3.heap.size := by omega
      have hyw31 : w.heap.size + 1 < w3.heap.size := by omega
      have hyw32 : w.heap.size + 2 < w3.heap.size := by omega
      have hyw33 : w.heap.size + 3 < w3.heap.size := by omega
      go_wp2_with fail
      refine (cSb _ Bw3.out).mono ?_
      rintro e' w4 ⟨rfl, b4⟩
      have Bw4 : Aside (BL w4) := GR _ _ Bw3.out b4
      clear fB0 fB1 fB2 fB3 fB4 fB5 fB6
      clear cSb b4
      by_cases hB90 : 90 < LB
      · have hB90z : (90 : Int) < (LB : Int) := by omega
        exact absurd HGD.out.2.2.1 (by rw [HLB.out]; omega)
      · have hB90z : ¬ (90 : Int) < (LB : Int) := by omega
        obtain ⟨fA0, fA1, fA2, fA3, fA4, fA5, fA6⟩ := (FR.out w4 Bw4.out).1
        have hzw4 : w.heap.size + 5 ≤ w4.heap.size := (FR.out w4 Bw4.out).2.2.2.2.1
        have hyw40 : w.heap.size < w4.heap.size := by omega
        have hyw41 : w.heap.size + 1 < w4.heap.size := by omega
        have hyw42 : w.heap.size + 2 < w4.heap.size := by omega
        have hyw43 : w.heap.size + 3 < w4.heap.size := by omega
        go_wp2_with fail
        refine (cOa _ Bw4.out).mono ?_
        rintro e' w5 ⟨rfl, b5⟩
        have Bw5 : Aside (BL w5) := GR _ _ Bw4.out b5
        clear fA0 fA1 fA2 fA3 fA4 fA5 fA6
        clear cOa b5
        obtain ⟨fB0, fB1, fB2, fB3, fB4, fB5, fB6⟩ := (FR.out w5 Bw5.out).2.1
        have hzw5 : w.heap.size + 5 ≤ w5.heap.size := (FR.out w5 Bw5.out).2.2.2.2.1
        have hyw50 : w.heap.size < w5.heap.size := by omega
        have hyw51 : w.heap.size + 1 < w5.heap.size := by omega
        have hyw52 : w.heap.size + 2 < w5.heap.size := by omega
        have hyw53 : w.heap.size + 3 < w5.heap.size := by omega
        go_wp2_with fail
        refine (cOb _ (GA _ _ Bw5.out)).mono ?_
        rintro e' w6 ⟨rfl, b6⟩
        have Bw6 : Aside (BL w6) := GR _ _ (GA _ _ Bw5.out) b6
        clear fB0 fB1 fB2 fB3 fB4 fB5 fB6
        clear cOb
        obtain ⟨kf, _, hlf⟩ := box_at w5 _ _ b6 (by simp)
        have v5 : w6.cell? ⟨w5.heap.size, 0, none⟩ = some (.int .i64 H) := kf 0
        clear kf b6
        by_cases hH : H = 0
        · subst hH
          by_cases hG : G = 0
          · subst hG
            obtain ⟨E, hE⟩ : ∃ E, ckP (mkN ⟨#[105, 102]⟩ [yesX, a, b]) = E := ⟨_, rfl⟩
            have HE : Hid (ckP (mkN ⟨#[105, 102]⟩ [yesX, a, b]) = E) := hE
            have cC : ∀ X g, g = X.heap.size → BL X → Calls Tryd.prog 11 #[.agg #[.string ⟨#[105, 102]⟩, .string ⟨#[]⟩, .int .i64 0, .int .i64 0, .string ⟨#[]⟩, .slice (some ⟨g, 0, none⟩) 3 3, .int .i64 0]] (X.alloc (.cells #[.string ⟨#[118, 97, 108]⟩, .string ⟨#[]⟩, .int .i64 2, .int .i64 1, .string ⟨#[]⟩, .slice none 0 0, .int .i64 0, .string o1, .string n1, .int .i64 t1, .int .i64 k1, .string s1, .slice p1 m1 c1, .int .i64 a1, .string o2, .string n2, .int .i64 t2, .int .i64 k2, .string s2, .slice p2 m2 c2, .int .i64 a2] 26)) fun e' w' => e' = .returned (errV E) ∧ Below X.heap.size X w' := fun X g hg hX => ck3_any ⟨#[105, 102]⟩ (by decide) (yes_in X) (HA.out.on (TO X hX)) (HB.out.on (TO X hX)) (by decide) (by rw [HLA.out]; omega) (by rw [HLB.out]; omega) (HEN.out.on (TO X hX)).tenv E hE g hg
            clear hE
            obtain ⟨fY0, fY1, fY2, fY3, fY4, fY5, fY6⟩ := (FR.out w6 Bw6.out).2.2.1
            obtain ⟨fA0, fA1, fA2, fA3, fA4, fA5, fA6⟩ := (FR.out w6 Bw6.out).1
            obtain ⟨fB0, fB1, fB2, fB3, fB4, fB5, fB6⟩ := (FR.out w6 Bw6.out).2.1
            have hzw6 : w.heap.size + 5 ≤ w6.heap.size := (FR.out w6 Bw6.out).2.2.2.2.1
            have hyw60 : w.heap.size < w6.heap.size := by omega
            have hyw61 : w.heap.size + 1 < w6.heap.size := by omega
            have hyw62 : w.heap.size + 2 < w6.heap.size := by omega
            have hyw63 : w.heap.size + 3 < w6.heap.size := by omega
            by_cases hE0 : E = 0
            · subst hE0
              rw [show errV 0 = .nilIface from rfl] at cC
              go_wp2_with fail
              refine (cC _ _ (by simp) (GA _ _ Bw6.out)).mono ?_
              rintro e' w7 ⟨rfl, b7⟩
              have Bw7 : Aside (BL w7) := GR _ _ (GA _ _ Bw6.out) b7
              clear fY0 fY1 fY2 fY3 fY4 fY5 fY6 fA0 fA1 fA2 fA3 fA4 fA5 fA6 fB0 fB1 fB2 fB3 fB4 fB5 fB6
              clear cC b7 v5
              obtain ⟨ta, ka, sa, ea, hca⟩ : ∃ t k s e, cmP zs rs a = ((t, k, s), e) := ⟨_, _, _, _, rfl⟩
              obtain ⟨tb, kb, sb, eb, hcb⟩ : ∃ t k s e, cmP zs rs b = ((t, k, s), e) := ⟨_, _, _, _, rfl⟩
              have hcA := (cm_in (zs := zs) (rs := rs) (x := a) HDA.out HRS.out (by rw [HOA.out]) HK.out).1
              rw [HOA.out, hca] at hcA
              have hcB := (cm_in (zs := zs) (rs := rs) (x := b) HDB.out HRS.out (by rw [HOB.out]) HK.out).1
              rw [HOB.out, hcb] at hcB
              have cEA := cEa ta ka sa ea ((evP_ok HOA.out HK.out).trans hca)
              have cEB := cEb tb kb sb eb ((evP_ok HOB.out HK.out).trans hcb)
              have HCA : Hid (cmP zs rs a = ((ta, ka, sa), ea)) := hca
              have HCB : Hid (cmP zs rs b = ((tb, kb, sb), eb)) := hcb
              have HcA : Hid (comes T ((ta, ka, sa), ea)) := hcA
              have HcB : Hid (comes U ((tb, kb, sb), eb)) := hcB
              have eA1 := errK_eql ea
              have eA2 := errK_geql ea
              have eB1 := errK_eql eb
              have eB2 := errK_geql eb
              have hbn := boolK_neq
              have hbe := boolK_eql
              have hva := valK_self ta ka sa
              have hvb := valK_self tb kb sb
              have hve := valK_eql ta ka sa
              clear hca hcb hcA hcB cEa cEb
              obtain ⟨fA0, fA1, fA2, fA3, fA4, fA5, fA6⟩ := (FR.out w7 Bw7.out).1
              have hzw7 : w.heap.size + 5 ≤ w7.heap.size := (FR.out w7 Bw7.out).2.2.2.2.1
              have hyw70 : w.heap.size < w7.heap.size := by omega
              have hyw71 : w.heap.size + 1 < w7.heap.size := by omega
              have hyw72 : w.heap.size + 2 < w7.heap.size := by omega
              have hyw73 : w.heap.size + 3 < w7.heap.size := by omega
              go_wp2_with fail
              refine (cEA _ Bw7.out).mono ?_
              rintro e' w8 ⟨rfl, b8⟩
              have Bw8 : Aside (BL w8) := GR _ _ Bw7.out b8
              clear fA0 fA1 fA2 fA3 fA4 fA5 fA6
              clear cEA b8
              obtain ⟨fB0, fB1, fB2, fB3, fB4, fB5, fB6⟩ := (FR.out w8 Bw8.out).2.1
              have hzw8 : w.heap.size + 5 ≤ w8.heap.size := (FR.out w8 Bw8.out).2.2.2.2.1
              have hyw80 : w.heap.size < w8.heap.size := by omega
              have hyw81 : w.heap.size + 1 < w8.heap.size := by omega
              have hyw82 : w.heap.size + 2 < w8.heap.size := by omega
              have hyw83 : w.heap.size + 3 < w8.heap.size := by omega
              go_wp2_with fail
              refine (cEB _ (GA _ _ Bw8.out)).mono ?_
              rintro e' w9 ⟨rfl, b9⟩
              have Bw9 : Aside (BL w9) := GR _ _ (GA _ _ Bw8.out) b9
              clear fB0 fB1 fB2 fB3 fB4 fB5 fB6
              clear cEB
              have K8 : Aside (Below (w8.alloc (.cells #[.int .i64 ta, .int .i64 ka, .string sa] 23)).heap.size (w8.alloc (.cells #[.int .i64 ta, .int .i64 ka, .string sa] 23)) w9) := b9
              clear b9
              by_cases hTU : T = U
              · subst hTU
                have hof := (of_sides HOA.out HE.out).1 HOB.out
                have hisT := of_ty HOA.out
                obtain ⟨pp, qq, hpp, hqq, hpq⟩ := cm_less hisT (by rw [HCA.out]; exact HcA.out) (by rw [HCB.out]; exact HcB.out)
                obtain ⟨⟨pt, pk, ps⟩, pe⟩ := pp
                obtain ⟨⟨qt, qk, qs⟩, qe⟩ := qq
                rw [HCA.out, HCB.out] at hpq
                simp only at hpq
                have cIy : ∀ X g, g = X.heap.size → BL X → Calls Tryd.prog 7 #[.agg #[.string ⟨#[105, 102]⟩, .string ⟨#[]⟩, .int .i64 0, .int .i64 0, .string ⟨#[]⟩, .slice (some ⟨g, 0, none⟩) 3 3, .int .i64 0], vl, vr] (X.alloc (.cells #[.string ⟨#[118, 97, 108]⟩, .string ⟨#[]⟩, .int .i64 2, .int .i64 1, .string ⟨#[]⟩, .slice none 0 0, .int .i64 0, .string o1, .string n1, .int .i64 t1, .int .i64 k1, .string s1, .slice p1 m1 c1, .int .i64 a1, .string o2, .string n2, .int .i64 t2, .int .i64 k2, .string s2, .slice p2 m2 c2, .int .i64 a2] 26)) fun e' w' => e' = .returned (.tuple #[.agg #[.int .i64 ta, .int .i64 ka, .string sa], errV ea]) ∧ Below X.heap.size X w' := fun X g hg hX => ev3_any ⟨#[105, 102]⟩ (by decide) (yes_in X) (HA.out.on (TO X hX)) (HB.out.on (TO X hX)) (by decide) (by rw [HLA.out]; omega) (by rw [HLB.out]; omega) ExB_yes HDA.out HDB.out vl vr zs rs (HEN.out.on (TO X hX)) (HCV.out.on (TO X hX)) (HRV.out.on (TO X hX)) HRS.out ta ka sa ea ((evP_ok hof.1 HK.out).trans ((cm_if zs rs a b).1.trans HCA.out)) g hg
                have cIn : ∀ X g, g = X.heap.size → BL X → Calls Tryd.prog 7 #[.agg #[.string ⟨#[105, 102]⟩, .string ⟨#[]⟩, .int .i64 0, .int .i64 0, .string ⟨#[]⟩, .slice (some ⟨g, 0, none⟩) 3 3, .int .i64 0], vl, vr] (X.alloc (.cells #[.string ⟨#[118, 97, 108]⟩, .string ⟨#[]⟩, .int .i64 2, .int .i64 0, .string ⟨#[]⟩, .slice none 0 0, .int .i64 0, .string o1, .string n1, .int .i64 t1, .int .i64 k1, .string s1, .slice p1 m1 c1, .int .i64 a1, .string o2, .string n2, .int .i64 t2, .int .i64 k2, .string s2, .slice p2 m2 c2, .int .i64 a2] 26)) fun e' w' => e' = .returned (.tuple #[.agg #[.int .i64 tb, .int .i64 kb, .string sb], errV eb]) ∧ Below X.heap.size X w' := fun X g hg hX => ev3_any ⟨#[105, 102]⟩ (by decide) (no_in X) (HA.out.on (TO X hX)) (HB.out.on (TO X hX)) (by decide) (by rw [HLA.out]; omega) (by rw [HLB.out]; omega) ExB_no HDA.out HDB.out vl vr zs rs (HEN.out.on (TO X hX)) (HCV.out.on (TO X hX)) (HRV.out.on (TO X hX)) HRS.out tb kb sb eb ((evP_ok hof.2.1 HK.out).trans ((cm_if zs rs a b).2.trans HCB.out)) g hg
                have cLt : ∀ X g, g = X.heap.size → BL X → Calls Tryd.prog 7 #[.agg #[.string ⟨#[60]⟩, .string ⟨#[]⟩, .int .i64 0, .int .i64 0, .string ⟨#[]⟩, .slice (some ⟨g, 0, none⟩) 2 2, .int .i64 0], vl, vr] (X.alloc (.cells #[.string o1, .string n1, .int .i64 t1, .int .i64 k1, .string s1, .slice p1 m1 c1, .int .i64 a1, .string o2, .string n2, .int .i64 t2, .int .i64 k2, .string s2, .slice p2 m2 c2, .int .i64 a2] 26)) fun e' w' => e' = .returned (.tuple #[.agg #[.int .i64 pt, .int .i64 pk, .string ps], errV pe]) ∧ Below X.heap.size X w' := fun X g hg hX => ev2_any ⟨#[60]⟩ (by decide) (HA.out.on (TO X hX)) (HB.out.on (TO X hX)) (by rw [HLA.out]; omega) (by rw [HLB.out]; omega) HDA.out HDB.out vl vr zs rs (HEN.out.on (TO X hX)) (HCV.out.on (TO X hX)) (HRV.out.on (TO X hX)) HRS.out pt pk ps pe ((evP_ok hof.2.2.1 HK.out).trans hpp) g hg
                have cGe : ∀ X g, g = X.heap.size → BL X → Calls Tryd.prog 7 #[.agg #[.string ⟨#[62, 61]⟩, .string ⟨#[]⟩, .int .i64 0, .int .i64 0, .string ⟨#[]⟩, .slice (some ⟨g, 0, none⟩) 2 2, .int .i64 0], vl, vr] (X.alloc (.cells #[.string o1, .string n1, .int .i64 t1, .int .i64 k1, .string s1, .slice p1 m1 c1, .int .i64 a1, .string o2, .string n2, .int .i64 t2, .int .i64 k2, .string s2, .slice p2 m2 c2, .int .i64 a2] 26)) fun e' w' => e' = .returned (.tuple #[.agg #[.int .i64 qt, .int .i64 qk, .string qs], errV qe]) ∧ Below X.heap.size X w' := fun X g hg hX => ev2_any ⟨#[62, 61]⟩ (by decide) (HA.out.on (TO X hX)) (HB.out.on (TO X hX)) (by rw [HLA.out]; omega) (by rw [HLB.out]; omega) HDA.out HDB.out vl vr zs rs (HEN.out.on (TO X hX)) (HCV.out.on (TO X hX)) (HRV.out.on (TO X hX)) HRS.out qt qk qs qe ((evP_ok hof.2.2.2 HK.out).trans hqq) g hg
                have HPQ : Hid _ := hpq
                have HPP : Hid (cmP zs rs (mkN ⟨#[60]⟩ [a, b]) = ((pt, pk, ps), pe)) := hpp
                clear hof hisT hpp hqq hpq
                obtain ⟨fY0, fY1, fY2, fY3, fY4, fY5, fY6⟩ := (FR.out w9 Bw9.out).2.2.1
                obtain ⟨fA0, fA1, fA2, fA3, fA4, fA5, fA6⟩ := (FR.out w9 Bw9.out).1
                obtain ⟨fB0, fB1, fB2, fB3, fB4, fB5, fB6⟩ := (FR.out w9 Bw9.out).2.1
                have hzw9 : w.heap.size + 5 ≤ w9.heap.size := (FR.out w9 Bw9.out).2.2.2.2.1
                have hyw90 : w.heap.size < w9.heap.size := by omega
                have hyw91 : w.heap.size + 1 < w9.heap.size := by omega
                have hyw92 : w.heap.size + 2 < w9.heap.size := by omega
                have hyw93 : w.heap.size + 3 < w9.heap.size := by omega
                go_wp2_with fail
                refine (cIy _ _ (by simp) (GA _ _ Bw9.out)).mono ?_
                rintro e' w10 ⟨rfl, b10⟩
                have Bw10 : Aside (BL w10) := GR _ _ (GA _ _ Bw9.out) b10
                clear fY0 fY1 fY2 fY3 fY4 fY5 fY6 fA0 fA1 fA2 fA3 fA4 fA5 fA6 fB0 fB1 fB2 fB3 fB4 fB5 fB6
                clear cIy
                have K8b : Aside (Below (w8.alloc (.cells #[.int .i64 ta, .int .i64 ka, .string sa] 23)).heap.size (w8.alloc (.cells #[.int .i64 ta, .int .i64 ka, .string sa] 23)) w10) := chain K8.out _ b10
                have K9 : Aside (Below (w9.alloc (.cells #[.int .i64 tb, .int .i64 kb, .string sb] 23)).heap.size (w9.alloc (.cells #[.int .i64 tb, .int .i64 kb, .string sb] 23)) w10) := b10
                clear b10 K8
                obtain ⟨fN0, fN1, fN2, fN3, fN4, fN5, fN6⟩ := (FR.out w10 Bw10.out).2.2.2.1
                obtain ⟨fA0, fA1, fA2, fA3, fA4, fA5, fA6⟩ := (FR.out w10 Bw10.out).1
                obtain ⟨fB0, fB1, fB2, fB3, fB4, fB5, fB6⟩ := (FR.out w10 Bw10.out).2.1
                have hzw10 : w.heap.size + 5 ≤ w10.heap.size := (FR.out w10 Bw10.out).2.2.2.2.1
                have hyw100 : w.heap.size < w10.heap.size := by omega
                have hyw101 : w.heap.size + 1 < w10.heap.size := by omega
                have hyw102 : w.heap.size + 2 < w10.heap.size := by omega
                have hyw103 : w.heap.size + 3 < w10.heap.size := by omega
                go_wp2_with fail
                refine (cIn _ _ (by simp) (GA _ _ Bw10.out)).mono ?_
                rintro e' w11 ⟨rfl, b11⟩
                have Bw11 : Aside (BL w11) := GR _ _ (GA _ _ Bw10.out) b11
                clear fN0 fN1 fN2 fN3 fN4 fN5 fN6 fA0 fA1 fA2 fA3 fA4 fA5 fA6 fB0 fB1 fB2 fB3 fB4 fB5 fB6
                clear cIn
                have K8c := chain K8b.out _ b11
                have K9b := chain K9.out _ b11
                have K10 : Below (w10.alloc (.cells #[.int .i64 ta, .int .i64 ka, .string sa] 23)).heap.size (w10.alloc (.cells #[.int .i64 ta, .int .i64 ka, .string sa] 23)) w11 := b11
                clear b11 K8b K9
                obtain ⟨kf, _, hlx8⟩ := box_at w8 _ _ K8c (by simp)
                have x80 : w11.cell? ⟨w8.heap.size, 0, none⟩ = some (.int .i64 ta) := kf 0
                have x81 : w11.cell? ⟨w8.heap.size, 1, none⟩ = some (.int .i64 ka) := kf 1
                have x82 : w11.cell? ⟨w8.heap.size, 2, none⟩ = some (.string sa) := kf 2
                clear kf
                obtain ⟨kf, _, hlx9⟩ := box_at w9 _ _ K9b (by simp)
                have x90 : w11.cell? ⟨w9.heap.size, 0, none⟩ = some (.int .i64 tb) := kf 0
                have x91 : w11.cell? ⟨w9.heap.size, 1, none⟩ = some (.int .i64 kb) := kf 1
                have x92 : w11.cell? ⟨w9.heap.size, 2, none⟩ = some (.string sb) := kf 2
                clear kf
                obtain ⟨kf, _, hlx10⟩ := box_at w10 _ _ K10 (by simp)
                have x100 : w11.cell? ⟨w10.heap.size, 0, none⟩ = some (.int .i64 ta) := kf 0
                have x101 : w11.cell? ⟨w10.heap.size, 1, none⟩ = some (.int .i64 ka) := kf 1
                have x102 : w11.cell? ⟨w10.heap.size, 2, none⟩ = some (.string sa) := kf 2
                clear kf
                have HK8c : Aside _ := K8c
                clear K8c K9b K10
                have hzw11 : w.heap.size + 5 ≤ w11.heap.size := (FR.out w11 Bw11.out).2.2.2.2.1
                have hyw110 : w.heap.size < w11.heap.size := by omega
                have hyw111 : w.heap.size + 1 < w11.heap.size := by omega
                have hyw112 : w.heap.size + 2 < w11.heap.size := by omega
                have hyw113 : w.heap.size + 3 < w11.heap.size := by omega
                go_upto_region 18 with fail
                go_cut [162] (fun c wx => c = .bool false ∧ Aside (Below (w11.alloc (.cells #[.int .i64 tb, .int .i64 kb, .string sb] 23)).heap.size (w11.alloc (.cells #[.int .i64 tb, .int .i64 kb, .string sb] 23)) wx))
                case first =>
                  clear cLt cGe HPQ
                  go_quiet (fail)
                  go_wp2
                  go_meet
                  case rel => exact ⟨rfl, by repeat (first | exact Below.refl _ _ | apply below_drewN | refine Below.drew ?_)⟩
                case rest =>
                  obtain ⟨rfl, HC⟩ := hcut
                  rename World => wA
                  have BwA : Aside (BL wA) := GR _ _ (GA _ _ Bw11.out) HC.out
                  have K8d : Aside (Below (w8.alloc (.cells #[.int .i64 ta, .int .i64 ka, .string sa] 23)).heap.size (w8.alloc (.cells #[.int .i64 ta, .int .i64 ka, .string sa] 23)) wA) := chain HK8c.out _ HC.out
                  clear HC HK8c x80 x81 x82 x90 x91 x92 x100 x101 x102
                  obtain ⟨fA0, fA1, fA2, fA3, fA4, fA5, fA6⟩ := (FR.out wA BwA.out).1
                  obtain ⟨fB0, fB1, fB2, fB3, fB4, fB5, fB6⟩ := (FR.out wA BwA.out).2.1
                  have hzwA : w.heap.size + 5 ≤ wA.heap.size := (FR.out wA BwA.out).2.2.2.2.1
                  have hywA0 : w.heap.size < wA.heap.size := by omega
                  have hywA1 : w.heap.size + 1 < wA.heap.size := by omega
                  have hywA2 : w.heap.size + 2 < wA.heap.size := by omega
                  have hywA3 : w.heap.size + 3 < wA.heap.size := by omega
                  go_wp2_with fail
                  refine (cLt _ _ (by simp) BwA.out).mono ?_
                  rintro e' w12 ⟨rfl, b12⟩
                  have Bw12 : Aside (BL w12) := GR _ _ BwA.out b12
                  clear fA0 fA1 fA2 fA3 fA4 fA5 fA6 fB0 fB1 fB2 fB3 fB4 fB5 fB6
                  clear cLt
                  have K8e : Aside (Below (w8.alloc (.cells #[.int .i64 ta, .int .i64 ka, .string sa] 23)).heap.size (w8.alloc (.cells #[.int .i64 ta, .int .i64 ka, .string sa] 23)) w12) := chain0 K8d.out b12
                  clear b12 K8d
                  obtain ⟨fA0, fA1, fA2, fA3, fA4, fA5, fA6⟩ := (FR.out w12 Bw12.out).1
                  obtain ⟨fB0, fB1, fB2, fB3, fB4, fB5, fB6⟩ := (FR.out w12 Bw12.out).2.1
                  have hzw12 : w.heap.size + 5 ≤ w12.heap.size := (FR.out w12 Bw12.out).2.2.2.2.1
                  have hyw120 : w.heap.size < w12.heap.size := by omega
                  have hyw121 : w.heap.size + 1 < w12.heap.size := by omega
                  have hyw122 : w.heap.size + 2 < w12.heap.size := by omega
                  have hyw123 : w.heap.size + 3 < w12.heap.size := by omega
                  go_wp2_with fail
                  refine (cGe _ _ (by simp) (GA _ _ Bw12.out)).mono ?_
                  rintro e' w13 ⟨rfl, b13⟩
                  have Bw13 : Aside (BL w13) := GR _ _ (GA _ _ Bw12.out) b13
                  clear fA0 fA1 fA2 fA3 fA4 fA5 fA6 fB0 fB1 fB2 fB3 fB4 fB5 fB6
                  clear cGe
                  have K8f : Aside (Below (w8.alloc (.cells #[.int .i64 ta, .int .i64 ka, .string sa] 23)).heap.size (w8.alloc (.cells #[.int .i64 ta, .int .i64 ka, .string sa] 23)) w13) := chain K8e.out _ b13
                  have K12 : Below (w12.alloc (.cells #[.int .i64 pt, .int .i64 pk, .string ps] 23)).heap.size (w12.alloc (.cells #[.int .i64 pt, .int .i64 pk, .string ps] 23)) w13 := b13
                  clear b13 K8e
                  obtain ⟨kf, _, hlx12⟩ := box_at w12 _ _ K12 (by simp)
                  have x120 : w13.cell? ⟨w12.heap.size, 0, none⟩ = some (.int .i64 pt) := kf 0
                  have x121 : w13.cell? ⟨w12.heap.size, 1, none⟩ = some (.int .i64 pk) := kf 1
                  have x122 : w13.cell? ⟨w12.heap.size, 2, none⟩ = some (.string ps) := kf 2
                  clear kf
                  clear K12
                  have hzw13 : w.heap.size + 5 ≤ w13.heap.size := (FR.out w13 Bw13.out).2.2.2.2.1
                  have hyw130 : w.heap.size < w13.heap.size := by omega
                  have hyw131 : w.heap.size + 1 < w13.heap.size := by omega
                  have hyw132 : w.heap.size + 2 < w13.heap.size := by omega
                  have hyw133 : w.heap.size + 3 < w13.heap.size := by omega
                  go_upto_region 22 with fail
                  go_cut [210] (fun c wx => c = .bool false ∧ Aside (Below (w13.alloc (.cells #[.int .i64 qt, .int .i64 qk, .string qs] 23)).heap.size (w13.alloc (.cells #[.int .i64 qt, .int .i64 qk, .string qs] 23)) wx))
                  case first =>
                    have eP2 := errK_geql pe
                    have eQ2 := errK_geql qe
                    clear eA1 eB1
                    rcases HPQ.out with ⟨hp0, hq0, ha0, hb0, hpk⟩ | ⟨hp9, hq9, h9⟩
                    · clear HPQ
                      have eP1 : ∀ W, Sem.run Tryd.prog (binOp .eql 32 (errV pe) .nilIface) W = .ok (.bool true) W := fun W => by rw [errK_eql, hp0]; rfl
                      have eQ1 : ∀ W, Sem.run Tryd.prog (binOp .eql 32 (errV qe) .nilIface) W = .ok (.bool true) W := fun W => by rw [errK_eql, hq0]; rfl
                      have eA1 : ∀ W, Sem.run Tryd.prog (binOp .eql 32 (errV ea) .nilIface) W = .ok (.bool true) W := fun W => by rw [errK_eql, ha0]; rfl
                      have eB1 : ∀ W, Sem.run Tryd.prog (binOp .eql 32 (errV eb) .nilIface) W = .ok (.bool true) W := fun W => by rw [errK_eql, hb0]; rfl
                      rcases hpk with ⟨hk1, hk2⟩ | ⟨hk1, hk2⟩
                      · exact absurd HCS.out (by rw [HCA.out, HCB.out, HPP.out]; simp only; omega)
                      · subst hk1 hk2
                        clear hp0 hq0 ha0 hb0
                        go_big_quiet (fail)
                        go_wp2
                        go_meet
                        case rel => exact ⟨rfl, by repeat (first | exact Below.refl _ _ | apply below_drewN | refine Below.drew ?_)⟩
                    · clear HPQ
                      have eP1 : ∀ W, Sem.run Tryd.prog (binOp .eql 32 (errV pe) .nilIface) W = .ok (.bool false) W := fun W => by rw [errK_eql, hp9]; rfl
                      have eQ1 : ∀ W, Sem.run Tryd.prog (binOp .eql 32 (errV qe) .nilIface) W = .ok (.bool false) W := fun W => by rw [errK_eql, hq9]; rfl
                      have hea := comes_err HcA.out
                      simp only at hea
                      rcases hea with hea | hea
                      · have heb : eb = 9 := by
                          rcases h9 with h | h
                          · omega
                          · exact h
                        exact absurd HCS.out (by rw [HCA.out, HCB.out, HPP.out]; simp only; omega)
                      · exact absurd HCS.out (by rw [HCA.out, HCB.out, HPP.out]; simp only; omega)
                  case rest =>
                    obtain ⟨rfl, HC⟩ := hcut
                    rename World => wB
                    have BwB : Aside (BL wB) := GR _ _ (GA _ _ Bw13.out) HC.out
                    have K8g : Aside (Below (w8.alloc (.cells #[.int .i64 ta, .int .i64 ka, .string sa] 23)).heap.size (w8.alloc (.cells #[.int .i64 ta, .int .i64 ka, .string sa] 23)) wB) := chain K8f.out _ HC.out
                    clear HC K8f x120 x121 x122 HPQ
                    by_cases hT2 : T = 2
                    · subst hT2
                      have hof2 := (of_sides (b := b) (q := 0) HOA.out HE.out).2 rfl
                      have cAn : ∀ X g, g = X.heap.size → BL X → Calls Tryd.prog 7 #[.agg #[.string ⟨#[97, 110, 100]⟩, .string ⟨#[]⟩, .int .i64 0, .int .i64 0, .string ⟨#[]⟩, .slice (some ⟨g, 0, none⟩) 2 2, .int .i64 0], vl, vr] (X.alloc (.cells #[.string ⟨#[118, 97, 108]⟩, .string ⟨#[]⟩, .int .i64 2, .int .i64 0, .string ⟨#[]⟩, .slice none 0 0, .int .i64 0, .string o1, .string n1, .int .i64 t1, .int .i64 k1, .string s1, .slice p1 m1 c1, .int .i64 a1] 26)) fun e' w' => e' = .returned (.tuple #[.agg #[.int .i64 2, .int .i64 0, .string ⟨#[]⟩], .nilIface]) ∧ Below X.heap.size X w' := fun X g hg hX => ev2_any ⟨#[97, 110, 100]⟩ (by decide) (no_in X) (HA.out.on (TO X hX)) (by decide) (by rw [HLA.out]; omega) ExB_no HDA.out vl vr zs rs (HEN.out.on (TO X hX)) (HCV.out.on (TO X hX)) (HRV.out.on (TO X hX)) HRS.out 2 0 ⟨#[]⟩ 0 ((evP_ok hof2.1 HK.out).trans ((cm_and_no zs rs a).1)) g hg
                      have cOr : ∀ X g, g = X.heap.size → BL X → Calls Tryd.prog 7 #[.agg #[.string ⟨#[111, 114]⟩, .string ⟨#[]⟩, .int .i64 0, .int .i64 0, .string ⟨#[]⟩, .slice (some ⟨g, 0, none⟩) 2 2, .int .i64 0], vl, vr] (X.alloc (.cells #[.string ⟨#[118, 97, 108]⟩, .string ⟨#[]⟩, .int .i64 2, .int .i64 1, .string ⟨#[]⟩, .slice none 0 0, .int .i64 0, .string o1, .string n1, .int .i64 t1, .int .i64 k1, .string s1, .slice p1 m1 c1, .int .i64 a1] 26)) fun e' w' => e' = .returned (.tuple #[.agg #[.int .i64 2, .int .i64 1, .string ⟨#[]⟩], .nilIface]) ∧ Below X.heap.size X w' := fun X g hg hX => ev2_any ⟨#[111, 114]⟩ (by decide) (yes_in X) (HA.out.on (TO X hX)) (by decide) (by rw [HLA.out]; omega) ExB_yes HDA.out vl vr zs rs (HEN.out.on (TO X hX)) (HCV.out.on (TO X hX)) (HRV.out.on (TO X hX)) HRS.out 2 1 ⟨#[]⟩ 0 ((evP_ok hof2.2.1 HK.out).trans ((cm_and_no zs rs a).2)) g hg
                      have cAy : ∀ X g, g = X.heap.size → BL X → Calls Tryd.prog 7 #[.agg #[.string ⟨#[97, 110, 100]⟩, .string ⟨#[]⟩, .int .i64 0, .int .i64 0, .string ⟨#[]⟩, .slice (some ⟨g, 0, none⟩) 2 2, .int .i64 0], vl, vr] (X.alloc (.cells #[.string ⟨#[118, 97, 108]⟩, .string ⟨#[]⟩, .int .i64 2, .int .i64 1, .string ⟨#[]⟩, .slice none 0 0, .int .i64 0, .string o1, .string n1, .int .i64 t1, .int .i64 k1, .string s1, .slice p1 m1 c1, .int .i64 a1] 26)) fun e' w' => e' = .returned (.tuple #[.agg #[.int .i64 ta, .int .i64 ka, .string sa], errV ea]) ∧ Below X.heap.size X w' := fun X g hg hX => ev2_any ⟨#[97, 110, 100]⟩ (by decide) (yes_in X) (HA.out.on (TO X hX)) (by decide) (by rw [HLA.out]; omega) ExB_yes HDA.out vl vr zs rs (HEN.out.on (TO X hX)) (HCV.out.on (TO X hX)) (HRV.out.on (TO X hX)) HRS.out ta ka sa ea ((evP_ok hof2.2.2 HK.out).trans ((cm_and_yes (by rw [HCA.out]; exact HcA.out)).trans HCA.out)) g hg
                      clear hof2
                      obtain ⟨fN0, fN1, fN2, fN3, fN4, fN5, fN6⟩ := (FR.out wB BwB.out).2.2.2.1
                      obtain ⟨fA0, fA1, fA2, fA3, fA4, fA5, fA6⟩ := (FR.out wB BwB.out).1
                      have hzwB : w.heap.size + 5 ≤ wB.heap.size := (FR.out wB BwB.out).2.2.2.2.1
                      have hywB0 : w.heap.size < wB.heap.size := by omega
                      have hywB1 : w.heap.size + 1 < wB.heap.size := by omega
                      have hywB2 : w.heap.size + 2 < wB.heap.size := by omega
                      have hywB3 : w.heap.size + 3 < wB.heap.size := by omega
                      go_wp2_with fail
                      refine (cAn _ _ (by simp) BwB.out).mono ?_
                      rintro e' w14 ⟨rfl, b14⟩
                      have Bw14 : Aside (BL w14) := GR _ _ BwB.out b14
                      clear fN0 fN1 fN2 fN3 fN4 fN5 fN6 fA0 fA1 fA2 fA3 fA4 fA5 fA6
                      clear cAn
                      have K8b : Aside (Below (w8.alloc (.cells #[.int .i64 ta, .int .i64 ka, .string sa] 23)).heap.size (w8.alloc (.cells #[.int .i64 ta, .int .i64 ka, .string sa] 23)) w14) := chain0 K8g.out b14
                      clear b14
                      obtain ⟨fY0, fY1, fY2, fY3, fY4, fY5, fY6⟩ := (FR.out w14 Bw14.out).2.2.1
                      obtain ⟨fA0, fA1, fA2, fA3, fA4, fA5, fA6⟩ := (FR.out w14 Bw14.out).1
                      have hzw14 : w.heap.size + 5 ≤ w14.heap.size := (FR.out w14 Bw14.out).2.2.2.2.1
                      have hyw140 : w.heap.size < w14.heap.size := by omega
                      have hyw141 : w.heap.size + 1 < w14.heap.size := by omega
                      have hyw142 : w.heap.size + 2 < w14.heap.size := by omega
                      have hyw143 : w.heap.size + 3 < w14.heap.size := by omega
                      go_wp2_with fail
                      refine (cOr _ _ (by simp) (GA _ _ Bw14.out)).mono ?_
                      rintro e' w15 ⟨rfl, b15⟩
                      have Bw15 : Aside (BL w15) := GR _ _ (GA _ _ Bw14.out) b15
                      clear fY0 fY1 fY2 fY3 fY4 fY5 fY6 fA0 fA1 fA2 fA3 fA4 fA5 fA6
                      clear cOr
                      have K14 : Aside (Below (w14.alloc (.cells #[.int .i64 2, .int .i64 0, .string ⟨#[]⟩] 23)).heap.size (w14.alloc (.cells #[.int .i64 2, .int .i64 0, .string ⟨#[]⟩] 23)) w15) := b15
                      have K8c : Aside (Below (w8.alloc (.cells #[.int .i64 ta, .int .i64 ka, .string sa] 23)).heap.size (w8.alloc (.cells #[.int .i64 ta, .int .i64 ka, .string sa] 23)) w15) := chain K8b.out _ b15
                      clear b15 K8b
                      obtain ⟨fY0, fY1, fY2, fY3, fY4, fY5, fY6⟩ := (FR.out w15 Bw15.out).2.2.1
                      obtain ⟨fA0, fA1, fA2, fA3, fA4, fA5, fA6⟩ := (FR.out w15 Bw15.out).1
                      have hzw15 : w.heap.size + 5 ≤ w15.heap.size := (FR.out w15 Bw15.out).2.2.2.2.1
                      have hyw150 : w.heap.size < w15.heap.size := by omega
                      have hyw151 : w.heap.size + 1 < w15.heap.size := by omega
                      have hyw152 : w.heap.size + 2 < w15.heap.size := by omega
                      have hyw153 : w.heap.size + 3 < w15.heap.size := by omega
                      go_wp2_with fail
                      refine (cAy _ _ (by simp) (GA _ _ Bw15.out)).mono ?_
                      rintro e' w16 ⟨rfl, b16⟩
                      have Bw16 : Aside (BL w16) := GR _ _ (GA _ _ Bw15.out) b16
                      clear fY0 fY1 fY2 fY3 fY4 fY5 fY6 fA0 fA1 fA2 fA3 fA4 fA5 fA6
                      clear cAy
                      have K15 : Aside (Below (w15.alloc (.cells #[.int .i64 2, .int .i64 1, .string ⟨#[]⟩] 23)).heap.size (w15.alloc (.cells #[.int .i64 2, .int .i64 1, .string ⟨#[]⟩] 23)) w16) := b16
                      have K14b := chain K14.out _ b16
                      have K8d := chain K8c.out _ b16
                      clear b16 K14 K8c
                      obtain ⟨kf, _, hlx8⟩ := box_at w8 _ _ K8d (by simp)
                      have x80 : w16.cell? ⟨w8.heap.size, 0, none⟩ = some (.int .i64 ta) := kf 0
                      have x81 : w16.cell? ⟨w8.heap.size, 1, none⟩ = some (.int .i64 ka) := kf 1
                      have x82 : w16.cell? ⟨w8.heap.size, 2, none⟩ = some (.string sa) := kf 2
                      clear kf
                      obtain ⟨kf, _, hlx14⟩ := box_at w14 _ _ K14b (by simp)
                      have x140 : w16.cell? ⟨w14.heap.size, 0, none⟩ = some (.int .i64 2) := kf 0
                      have x141 : w16.cell? ⟨w14.heap.size, 1, none⟩ = some (.int .i64 0) := kf 1
                      have x142 : w16.cell? ⟨w14.heap.size, 2, none⟩ = some (.string ⟨#[]⟩) := kf 2
                      clear kf
                      obtain ⟨kf, _, hlx15⟩ := box_at w15 _ _ K15.out (by simp)
                      have x150 : w16.cell? ⟨w15.heap.size, 0, none⟩ = some (.int .i64 2) := kf 0
                      have x151 : w16.cell? ⟨w15.heap.size, 1, none⟩ = some (.int .i64 1) := kf 1
                      have x152 : w16.cell? ⟨w15.heap.size, 2, none⟩ = some (.string ⟨#[]⟩) := kf 2
                      clear kf
                      have bf := TO _ Bw16.out
                      go_wp2
                      go_quiet (fail)
                      go_wp2
                      go_ret
                      exact ⟨rfl, below_drewN (bf.alloc bf.size _) _⟩
                    · have hT2b : (T != 2) = true := by simpa using hT2
                      have bf := TO _ BwB.out
                      go_wp2
                      go_ret
                      exact ⟨rfl, by repeat (first | exact bf | (refine Below.alloc ?_ (by first | (have := bf.size; omega) | (simp; have := bf.size; omega)) _))⟩
              · have hTUb : (T == U) = false := by simpa using hTU
                exact absurd (by have h := HGD.out.2.2.2.2.2.2; rw [HOA.out, HOB.out] at h; exact h) hTU
            · exact absurd (HE.out.symm.trans HGD.out.2.2.2.2.2.1) hE0
          · have hGb : (G != 0) = true := by simpa using hG
            exact absurd (by have h := HGD.out.2.2.2.2.1; rw [HOB.out] at h; exact h) hG
        · have hHb : (H != 0) = true := by simpa using hH
          exact absurd (by have h := HGD.out.2.2.2.1; rw [HOA.out] at h; exact h) hH
  · have cK2 : ∀ W, BL W → Calls Tryd.prog 8 #[vl, vr] W fun e' w' => e' = .returned (.iface 37 (.int .i64 K)) ∧ Below W.heap.size W w' := fun W hW => (cK W hW).mono fun e' w' h => by rw [errV, if_neg hK0] at h; exact h
    exact absurd (HK.out.symm.trans HGD.out.1) hK0
end Go.Proofs.YtkoejkpjkcejcabDoor
namespace Go.Proofs.YtkoejkpjkcejcabDoor
open Go.RowKit Go.BigFrame
set_option linter.unusedVariables false

set_option maxHeartbeats 16000000 in
set_option maxRecDepth 20000 in
theorem sides_e3 (a b : Ex) (va vb vl vr : Value) (zs : List (ByteArray × Int)) (rs : List V3) (w : World) (henv : KEnv w) (ha : ExIn w anyB va a) (hb : ExIn w anyB vb b) (hla : (a.pre 1).length ≤ 1048576) (hlb : (b.pre 1).length ≤ 1048576) (hda : ExB a) (hdb : ExB b) (hcv : ColsV w vl zs) (hrv : ValsV w vr rs) (hrs : SizedV rs) (hgood : (rowChk zs rs = 0 ∧ (a.pre 1).length ≤ 90 ∧ (b.pre 1).length ≤ 90 ∧ (ofP zs a).2.1 = 0 ∧ (ofP zs b).2.1 = 0 ∧ ckP (mkN ⟨#[105, 102]⟩ [yesX, a, b]) = 0 ∧ (ofP zs a).1 = (ofP zs b).1)) (hcase : (cmP zs rs a).2 = 9) :
    Calls Tryd.prog 3 #[va, vb, vl, vr] w fun e' w' => e' = .returned (.bool true) ∧ Below w.heap.size w w' := by
  have HGD : Hid _ := hgood
  clear hgood
  have HCS : Hid _ := hcase
  clear hcase
  obtain ⟨o1, n1, t1, k1, s1, p1, m1, c1, a1, rfl⟩ := ha.agg
  obtain ⟨o2, n2, t2, k2, s2, p2, m2, c2, a2, rfl⟩ := hb.agg
  obtain ⟨b0, box⟩ := sides_box w #[.string o1, .string n1, .int .i64 t1, .int .i64 k1, .string s1, .slice p1 m1 c1, .int .i64 a1] #[.string o2, .string n2, .int .i64 t2, .int .i64 k2, .string s2, .slice p2 m2 c2, .int .i64 a2] #[.string ⟨#[118, 97, 108]⟩, .string ⟨#[]⟩, .int .i64 2, .int .i64 1, .string ⟨#[]⟩, .slice none 0 0, .int .i64 0] #[.string ⟨#[118, 97, 108]⟩, .string ⟨#[]⟩, .int .i64 2, .int .i64 0, .string ⟨#[]⟩, .slice none 0 0, .int .i64 0] #[.string ⟨#[120]⟩, .int .i64 1]
  have key : ∃ BL : World → Prop, BL (((((((w.alloc (.cells #[.string o1, .string n1, .int .i64 t1, .int .i64 k1, .string s1, .slice p1 m1 c1, .int .i64 a1] 26)).alloc (.cells #[.string o2, .string n2, .int .i64 t2, .int .i64 k2, .string s2, .slice p2 m2 c2, .int .i64 a2] 26)).alloc (.cells #[.string ⟨#[118, 97, 108]⟩, .string ⟨#[]⟩, .int .i64 2, .int .i64 1, .string ⟨#[]⟩, .slice none 0 0, .int .i64 0] 26)).alloc (.cells #[.string ⟨#[118, 97, 108]⟩, .string ⟨#[]⟩, .int .i64 2, .int .i64 0, .string ⟨#[]⟩, .slice none 0 0, .int .i64 0] 26)).alloc (.cells #[.string ⟨#[120]⟩, .int .i64 1] 30)).alloc (.cells #[.string ⟨#[118, 97, 108]⟩, .string ⟨#[]⟩, .int .i64 2, .int .i64 0, .string ⟨#[]⟩, .slice none 0 0, .int .i64 0] 26)).alloc (.cells #[.int .i64 1, .int .i64 3, .string ⟨#[]⟩] 23)) ∧ (∀ W, BL W → Cells7 W w.heap.size (.string o1) (.string n1) (.int .i64 t1) (.int .i64 k1) (.string s1) (.slice p1 m1 c1) (.int .i64 a1) ∧ Cells7 W (w.heap.size + 1) (.string o2) (.string n2) (.int .i64 t2) (.int .i64 k2) (.string s2) (.slice p2 m2 c2) (.int .i64 a2) ∧ Cells7 W (w.heap.size + 2) (.string ⟨#[118, 97, 108]⟩) (.string ⟨#[]⟩) (.int .i64 2) (.int .i64 1) (.string ⟨#[]⟩) (.slice none 0 0) (.int .i64 0) ∧ Cells7 W (w.heap.size + 3) (.string ⟨#[118, 97, 108]⟩) (.string ⟨#[]⟩) (.int .i64 2) (.int .i64 0) (.string ⟨#[]⟩) (.slice none 0 0) (.int .i64 0) ∧ w.heap.size + 5 ≤ W.heap.size ∧ Below w.heap.size w W) ∧ (∀ W W', BL W → Below W.heap.size W W' → BL W') ∧ (∀ W o, BL W → BL (W.alloc o)) := by
    refine ⟨Below (w.heap.size + 5) (((((w.alloc (.cells #[.string o1, .string n1, .int .i64 t1, .int .i64 k1, .string s1, .slice p1 m1 c1, .int .i64 a1] 26)).alloc (.cells #[.string o2, .string n2, .int .i64 t2, .int .i64 k2, .string s2, .slice p2 m2 c2, .int .i64 a2] 26)).alloc (.cells #[.string ⟨#[118, 97, 108]⟩, .string ⟨#[]⟩, .int .i64 2, .int .i64 1, .string ⟨#[]⟩, .slice none 0 0, .int .i64 0] 26)).alloc (.cells #[.string ⟨#[118, 97, 108]⟩, .string ⟨#[]⟩, .int .i64 2, .int .i64 0, .string ⟨#[]⟩, .slice none 0 0, .int .i64 0] 26)).alloc (.cells #[.string ⟨#[120]⟩, .int .i64 1] 30)), ((Below.refl _ _).alloc (by simp) _).alloc (by simp) _, fun W hb => ?_, fun W W' h1 h2 => h1.trans (h2.mono (box W h1).2.2.2.2.1), fun W o h1 => h1.alloc (box W h1).2.2.2.2.1 o⟩
    obtain ⟨h1, h2, h3, h4, h5, h6⟩ := box W hb
    exact ⟨⟨h1 0, h1 1, h1 2, h1 3, h1 4, h1 5, h1 6⟩, ⟨h2 0, h2 1, h2 2, h2 3, h2 4, h2 5, h2 6⟩, ⟨h3 0, h3 1, h3 2, h3 3, h3 4, h3 5, h3 6⟩, ⟨h4 0, h4 1, h4 2, h4 3, h4 4, h4 5, h4 6⟩, h5, h6⟩
  clear box b0
  obtain ⟨BL, X6, hFR, GR, GA⟩ := key
  have FR : Hid (∀ W, BL W → Cells7 W w.heap.size (.string o1) (.string n1) (.int .i64 t1) (.int .i64 k1) (.string s1) (.slice p1 m1 c1) (.int .i64 a1) ∧ Cells7 W (w.heap.size + 1) (.string o2) (.string n2) (.int .i64 t2) (.int .i64 k2) (.string s2) (.slice p2 m2 c2) (.int .i64 a2) ∧ Cells7 W (w.heap.size + 2) (.string ⟨#[118, 97, 108]⟩) (.string ⟨#[]⟩) (.int .i64 2) (.int .i64 1) (.string ⟨#[]⟩) (.slice none 0 0) (.int .i64 0) ∧ Cells7 W (w.heap.size + 3) (.string ⟨#[118, 97, 108]⟩) (.string ⟨#[]⟩) (.int .i64 2) (.int .i64 0) (.string ⟨#[]⟩) (.slice none 0 0) (.int .i64 0) ∧ w.heap.size + 5 ≤ W.heap.size ∧ Below w.heap.size w W) := hFR
  have TO : ∀ W, BL W → Below w.heap.size w W := fun W hb => (hFR W hb).2.2.2.2.2
  clear hFR
  have NX : ∀ e1 w', Below e1 w w' → True := fun _ _ _ => trivial
  clear NX
  have cF := eval_any (mkN ⟨#[110, 111, 116]⟩ [noX]) anyB _ (.slice (some ⟨w.heap.size + 1 + 1 + 1 + 1, 0, none⟩) 1 1) (.slice (some ⟨w.heap.size + 1 + 1 + 1 + 1 + 1 + 1, 0, none⟩) 1 1) [(⟨#[120]⟩, 1)] [(1, 3, ⟨#[]⟩)] (((((((w.alloc (.cells #[.string o1, .string n1, .int .i64 t1, .int .i64 k1, .string s1, .slice p1 m1 c1, .int .i64 a1] 26)).alloc (.cells #[.string o2, .string n2, .int .i64 t2, .int .i64 k2, .string s2, .slice p2 m2 c2, .int .i64 a2] 26)).alloc (.cells #[.string ⟨#[118, 97, 108]⟩, .string ⟨#[]⟩, .int .i64 2, .int .i64 1, .string ⟨#[]⟩, .slice none 0 0, .int .i64 0] 26)).alloc (.cells #[.string ⟨#[118, 97, 108]⟩, .string ⟨#[]⟩, .int .i64 2, .int .i64 0, .string ⟨#[]⟩, .slice none 0 0, .int .i64 0] 26)).alloc (.cells #[.string ⟨#[120]⟩, .int .i64 1] 30)).alloc (.cells #[.string ⟨#[118, 97, 108]⟩, .string ⟨#[]⟩, .int .i64 2, .int .i64 0, .string ⟨#[]⟩, .slice none 0 0, .int .i64 0] 26)).alloc (.cells #[.int .i64 1, .int .i64 3, .string ⟨#[]⟩] 23)) (henv.on (TO _ X6)) ((mk1_in ⟨#[110, 111, 116]⟩ (by decide) (no_in (((((w.alloc (.cells #[.string o1, .string n1, .int .i64 t1, .int .i64 k1, .string s1, .slice p1 m1 c1, .int .i64 a1] 26)).alloc (.cells #[.string o2, .string n2, .int .i64 t2, .int .i64 k2, .string s2, .slice p2 m2 c2, .int .i64 a2] 26)).alloc (.cells #[.string ⟨#[118, 97, 108]⟩, .string ⟨#[]⟩, .int .i64 2, .int .i64 1, .string ⟨#[]⟩, .slice none 0 0, .int .i64 0] 26)).alloc (.cells #[.string ⟨#[118, 97, 108]⟩, .string ⟨#[]⟩, .int .i64 2, .int .i64 0, .string ⟨#[]⟩, .slice none 0 0, .int .i64 0] 26)).alloc (.cells #[.string ⟨#[120]⟩, .int .i64 1] 30))) (w.heap.size + 1 + 1 + 1 + 1 + 1) (by simp)).on ((Below.refl _ _).alloc (Nat.le_refl _) _)) (by decide) (bd_mk (fun y hy => by
      obtain rfl := List.mem_singleton.1 hy
      exact ExB_no))
    ⟨_, _, rfl, .inr ⟨w.heap.size + 1 + 1 + 1 + 1, 0, rfl, by decide, (fun z hz => by
      obtain rfl := List.mem_singleton.1 hz
      decide), by simp, fun j hj => by
      obtain rfl : j = 0 := by simpa using hj
      exact ⟨by rw [World.cell?_alloc_lt _ _ _ (by simp), World.cell?_alloc_lt _ _ _ (by simp), World.cell?_alloc_at _ _ _ _ (by simp)]; rfl, by rw [World.cell?_alloc_lt _ _ _ (by simp), World.cell?_alloc_lt _ _ _ (by simp), World.cell?_alloc_at _ _ _ _ (by simp)]; rfl⟩⟩⟩
    ⟨_, _, rfl, by decide, .inr ⟨w.heap.size + 1 + 1 + 1 + 1 + 1 + 1, 0, rfl, by simp, fun j hj => by
      obtain rfl : j = 0 := by simpa using hj
      exact ⟨by rw [World.cell?_alloc_at _ _ _ _ (by simp)]; rfl, by rw [World.cell?_alloc_at _ _ _ _ (by simp)]; rfl, by rw [World.cell?_alloc_at _ _ _ _ (by simp)]; rfl⟩⟩⟩
    (fun r hr => by
      obtain rfl := List.mem_singleton.1 hr
      exact ⟨by decide, by unfold inB; decide⟩) 2 1 ⟨#[]⟩ 0 ev_fact
  rw [show errV 0 = .nilIface from rfl] at cF
  have cK := fun W (hW : BL W) => rowCheck_v vl vr zs rs W (henv.on (TO W hW)).tw (hcv.on (TO W hW)) (hrv.on (TO W hW)) hrs
  have cSa := fun W (hW : BL W) => size_any a anyB _ W (ha.on (TO W hW)) hla
  have cSb := fun W (hW : BL W) => size_any b anyB _ W (hb.on (TO W hW)) hlb
  obtain ⟨T, H, P, hofa⟩ : ∃ T H P, ofP zs a = (T, H, P) := ⟨_, _, _, rfl⟩
  obtain ⟨U, G, Q, hofb⟩ : ∃ T H P, ofP zs b = (T, H, P) := ⟨_, _, _, rfl⟩
  have cOa := fun W (hW : BL W) => of_any a anyB _ vl zs W (henv.on (TO W hW)) (ha.on (TO W hW)) hla (hcv.on (TO W hW)) T H P hofa
  have cOb := fun W (hW : BL W) => of_any b anyB _ vl zs W (henv.on (TO W hW)) (hb.on (TO W hW)) hlb (hcv.on (TO W hW)) U G Q hofb
  obtain ⟨K, hK⟩ : ∃ K, rowChk zs rs = K := ⟨_, rfl⟩
  obtain ⟨LA, hLA⟩ : ∃ LA, (a.pre 1).length = LA := ⟨_, rfl⟩
  obtain ⟨LB, hLB⟩ : ∃ LB, (b.pre 1).length = LB := ⟨_, rfl⟩
  have HEN : Aside (KEnv w) := henv
  have HA : Aside (ExIn w anyB (.agg #[.string o1, .string n1, .int .i64 t1, .int .i64 k1, .string s1, .slice p1 m1 c1, .int .i64 a1]) a) := ha
  have HB : Aside (ExIn w anyB (.agg #[.string o2, .string n2, .int .i64 t2, .int .i64 k2, .string s2, .slice p2 m2 c2, .int .i64 a2]) b) := hb
  have HCV : Aside (ColsV w vl zs) := hcv
  have HRV : Aside (ValsV w vr rs) := hrv
  have HRS : Aside (SizedV rs) := hrs
  have HDA : Aside (ExB a) := hda
  have HDB : Aside (ExB b) := hdb
  have cEa := fun (t k : Int) (s : ByteArray) (e : Int) (hR : evP zs rs a = ((t, k, s), e)) W (hW : BL W) => eval_any a anyB _ vl vr zs rs W (henv.on (TO W hW)) (ha.on (TO W hW)) hla hda (hcv.on (TO W hW)) (hrv.on (TO W hW)) hrs t k s e hR
  have cEb := fun (t k : Int) (s : ByteArray) (e : Int) (hR : evP zs rs b = ((t, k, s), e)) W (hW : BL W) => eval_any b anyB _ vl vr zs rs W (henv.on (TO W hW)) (hb.on (TO W hW)) hlb hdb (hcv.on (TO W hW)) (hrv.on (TO W hW)) hrs t k s e hR
  rw [hK] at cK
  rw [hLA] at cSa
  rw [hLB] at cSb
  have HLA : Hid ((a.pre 1).length = LA) := hLA
  have HLB : Hid ((b.pre 1).length = LB) := hLB
  have HK : Hid (rowChk zs rs = K) := hK
  have HOA : Hid (ofP zs a = (T, H, P)) := hofa
  have HOB : Hid (ofP zs b = (U, G, Q)) := hofb
  clear henv ha hb hcv hrv hrs hda hdb hla hlb hofa hofb hK hLA hLB
  go_enter Tryd.func3, Tryd.ntmps3
  go_wp2_with fail
  refine cF.mono ?_
  rintro e' w1 ⟨rfl, b1⟩
  have Bw1 : Aside (BL w1) := GR _ _ X6 b1
  have hz1 : w.heap.size + 5 ≤ w1.heap.size := (FR.out w1 Bw1.out).2.2.2.2.1
  clear cF b1 X6
  by_cases hK0 : K = 0
  · subst hK0
    rw [show errV 0 = .nilIface from rfl] at cK
    go_wp2_with fail
    refine (cK _ (GA _ _ Bw1.out)).mono ?_
    rintro e' w2 ⟨rfl, b2⟩
    have Bw2 : Aside (BL w2) := GR _ _ (GA _ _ Bw1.out) b2
    clear cK b2
    obtain ⟨fA0, fA1, fA2, fA3, fA4, fA5, fA6⟩ := (FR.out w2 Bw2.out).1
    have hzw2 : w.heap.size + 5 ≤ w2.heap.size := (FR.out w2 Bw2.out).2.2.2.2.1
    have hyw20 : w.heap.size < w2.heap.size := by omega
    have hyw21 : w.heap.size + 1 < w2.heap.size := by omega
    have hyw22 : w.heap.size + 2 < w2.heap.size := by omega
    have hyw23 : w.heap.size + 3 < w2.heap.size := by omega
    go_wp2_with fail
    refine (cSa _ Bw2.out).mono ?_
    rintro e' w3 ⟨rfl, b3⟩
    have Bw3 : Aside (BL w3) := GR _ _ Bw2.out b3
    clear fA0 fA1 fA2 fA3 fA4 fA5 fA6
    clear cSa b3
    by_cases hA90 : 90 < LA
    · have hA90z : (90 : Int) < (LA : Int) := by omega
      exact absurd HGD.out.2.1 (by rw [HLA.out]; omega)
    · have hA90z : ¬ (90 : Int) < (LA : Int) := by omega
      obtain ⟨fB0, fB1, fB2, fB3, fB4, fB5, fB6⟩ := (FR.out w3 Bw3.out).2.1
      have hzw3 : w.heap.size + 5 ≤ w3.heap.size := (FR.out w3 Bw3.out).2.2.2.2.1
      have hyw30 : w.heap.size < w3.heap.size := by omega
      have hyw31 : w.heap.size + 1 < w3.heap.size := by omega
      have hyw32 : w.heap.size + 2 < w3.heap.size := by omega
      have hyw33 : w.heap.size + 3 < w3.heap.size := by omega
      go_wp2_with fail
      refine (cSb _ Bw3.out).mono ?_
      rintro e' w4 ⟨rfl, b4⟩
      have Bw4 : Aside (BL w4) := GR _ _ Bw3.out b4
      clear fB0 fB1 fB2 fB3 fB4 fB5 fB6
      clear cSb b4
      by_cases hB90 : 90 < LB
      · have hB90z : (90 : Int) < (LB : Int) := by omega
        exact absurd HGD.out.2.2.1 (by rw [HLB.out]; omega)
      · have hB90z : ¬ (90 : Int) < (LB : Int) := by omega
        obtain ⟨fA0, fA1, fA2, fA3, fA4, fA5, fA6⟩ := (FR.out w4 Bw4.out).1
        have hzw4 : w.heap.size + 5 ≤ w4.heap.size := (FR.out w4 Bw4.out).2.2.2.2.1
        have hyw40 : w.heap.size < w4.heap.size := by omega
        have hyw41 : w.heap.size + 1 < w4.heap.size := by omega
        have hyw42 : w.heap.size + 2 < w4.heap.size := by omega
        have hyw43 : w.heap.size + 3 < w4.heap.size := by omega
        go_wp2_with fail
        refine (cOa _ Bw4.out).mono ?_
        rintro e' w5 ⟨rfl, b5⟩
        have Bw5 : Aside (BL w5) := GR _ _ Bw4.out b5
        clear fA0 fA1 fA2 fA3 fA4 fA5 fA6
        clear cOa b5
        obtain ⟨fB0, fB1, fB2, fB3, fB4, fB5, fB6⟩ := (FR.out w5 Bw5.out).2.1
        have hzw5 : w.heap.size + 5 ≤ w5.heap.size := (FR.out w5 Bw5.out).2.2.2.2.1
        have hyw50 : w.heap.size < w5.heap.size := by omega
        have hyw51 : w.heap.size + 1 < w5.heap.size := by omega
        have hyw52 : w.heap.size + 2 < w5.heap.size := by omega
        have hyw53 : w.heap.size + 3 < w5.heap.size := by omega
        go_wp2_with fail
        refine (cOb _ (GA _ _ Bw5.out)).mono ?_
        rintro e' w6 ⟨rfl, b6⟩
        have Bw6 : Aside (BL w6) := GR _ _ (GA _ _ Bw5.out) b6
        clear fB0 fB1 fB2 fB3 fB4 fB5 fB6
        clear cOb
        obtain ⟨kf, _, hlf⟩ := box_at w5 _ _ b6 (by simp)
        have v5 : w6.cell? ⟨w5.heap.size, 0, none⟩ = some (.int .i64 H) := kf 0
        clear kf b6
        by_cases hH : H = 0
        · subst hH
          by_cases hG : G = 0
          · subst hG
            obtain ⟨E, hE⟩ : ∃ E, ckP (mkN ⟨#[105, 102]⟩ [yesX, a, b]) = E := ⟨_, rfl⟩
            have HE : Hid (ckP (mkN ⟨#[105, 102]⟩ [yesX, a, b]) = E) := hE
            have cC : ∀ X g, g = X.heap.size → BL X → Calls Tryd.prog 11 #[.agg #[.string ⟨#[105, 102]⟩, .string ⟨#[]⟩, .int .i64 0, .int .i64 0, .string ⟨#[]⟩, .slice (some ⟨g, 0, none⟩) 3 3, .int .i64 0]] (X.alloc (.cells #[.string ⟨#[118, 97, 108]⟩, .string ⟨#[]⟩, .int .i64 2, .int .i64 1, .string ⟨#[]⟩, .slice none 0 0, .int .i64 0, .string o1, .string n1, .int .i64 t1, .int .i64 k1, .string s1, .slice p1 m1 c1, .int .i64 a1, .string o2, .string n2, .int .i64 t2, .int .i64 k2, .string s2, .slice p2 m2 c2, .int .i64 a2] 26)) fun e' w' => e' = .returned (errV E) ∧ Below X.heap.size X w' := fun X g hg hX => ck3_any ⟨#[105, 102]⟩ (by decide) (yes_in X) (HA.out.on (TO X hX)) (HB.out.on (TO X hX)) (by decide) (by rw [HLA.out]; omega) (by rw [HLB.out]; omega) (HEN.out.on (TO X hX)).tenv E hE g hg
            clear hE
            obtain ⟨fY0, fY1, fY2, fY3, fY4, fY5, fY6⟩ := (FR.out w6 Bw6.out).2.2.1
            obtain ⟨fA0, fA1, fA2, fA3, fA4, fA5, fA6⟩ := (FR.out w6 Bw6.out).1
            obtain ⟨fB0, fB1, fB2, fB3, fB4, fB5, fB6⟩ := (FR.out w6 Bw6.out).2.1
            have hzw6 : w.heap.size + 5 ≤ w6.heap.size := (FR.out w6 Bw6.out).2.2.2.2.1
            have hyw60 : w.heap.size < w6.heap.size := by omega
            have hyw61 : w.heap.size + 1 < w6.heap.size := by omega
            have hyw62 : w.heap.size + 2 < w6.heap.size := by omega
            have hyw63 : w.heap.size + 3 < w6.heap.size := by omega
            by_cases hE0 : E = 0
            · subst hE0
              rw [show errV 0 = .nilIface from rfl] at cC
              go_wp2_with fail
              refine (cC _ _ (by simp) (GA _ _ Bw6.out)).mono ?_
              rintro e' w7 ⟨rfl, b7⟩
              have Bw7 : Aside (BL w7) := GR _ _ (GA _ _ Bw6.out) b7
              clear fY0 fY1 fY2 fY3 fY4 fY5 fY6 fA0 fA1 fA2 fA3 fA4 fA5 fA6 fB0 fB1 fB2 fB3 fB4 fB5 fB6
              clear cC b7 v5
              obtain ⟨ta, ka, sa, ea, hca⟩ : ∃ t k s e, cmP zs rs a = ((t, k, s), e) := ⟨_, _, _, _, rfl⟩
              obtain ⟨tb, kb, sb, eb, hcb⟩ : ∃ t k s e, cmP zs rs b = ((t, k, s), e) := ⟨_, _, _, _, rfl⟩
              have hcA := (cm_in (zs := zs) (rs := rs) (x := a) HDA.out HRS.out (by rw [HOA.out]) HK.out).1
              rw [HOA.out, hca] at hcA
              have hcB := (cm_in (zs := zs) (rs := rs) (x := b) HDB.out HRS.out (by rw [HOB.out]) HK.out).1
              rw [HOB.out, hcb] at hcB
              have cEA := cEa ta ka sa ea ((evP_ok HOA.out HK.out).trans hca)
              have cEB := cEb tb kb sb eb ((evP_ok HOB.out HK.out).trans hcb)
              have HCA : Hid (cmP zs rs a = ((ta, ka, sa), ea)) := hca
              have HCB : Hid (cmP zs rs b = ((tb, kb, sb), eb)) := hcb
              have HcA : Hid (comes T ((ta, ka, sa), ea)) := hcA
              have HcB : Hid (comes U ((tb, kb, sb), eb)) := hcB
              have eA1 := errK_eql ea
              have eA2 := errK_geql ea
              have eB1 := errK_eql eb
              have eB2 := errK_geql eb
              have hbn := boolK_neq
              have hbe := boolK_eql
              have hva := valK_self ta ka sa
              have hvb := valK_self tb kb sb
              have hve := valK_eql ta ka sa
              clear hca hcb hcA hcB cEa cEb
              obtain ⟨fA0, fA1, fA2, fA3, fA4, fA5, fA6⟩ := (FR.out w7 Bw7.out).1
              have hzw7 : w.heap.size + 5 ≤ w7.heap.size := (FR.out w7 Bw7.out).2.2.2.2.1
              have hyw70 : w.heap.size < w7.heap.size := by omega
              have hyw71 : w.heap.size + 1 < w7.heap.size := by omega
              have hyw72 : w.heap.size + 2 < w7.heap.size := by omega
              have hyw73 : w.heap.size + 3 < w7.heap.size := by omega
              go_wp2_with fail
              refine (cEA _ Bw7.out).mono ?_
              rintro e' w8 ⟨rfl, b8⟩
              have Bw8 : Aside (BL w8) := GR _ _ Bw7.out b8
              clear fA0 fA1 fA2 fA3 fA4 fA5 fA6
              clear cEA b8
              obtain ⟨fB0, fB1, fB2, fB3, fB4, fB5, fB6⟩ := (FR.out w8 Bw8.out).2.1
              have hzw8 : w.heap.size + 5 ≤ w8.heap.size := (FR.out w8 Bw8.out).2.2.2.2.1
              have hyw80 : w.heap.size < w8.heap.size := by omega
              have hyw81 : w.heap.size + 1 < w8.heap.size := by omega
              have hyw82 : w.heap.size + 2 < w8.heap.size := by omega
              have hyw83 : w.heap.size + 3 < w8.heap.size := by omega
              go_wp2_with fail
              refine (cEB _ (GA _ _ Bw8.out)).mono ?_
              rintro e' w9 ⟨rfl, b9⟩
              have Bw9 : Aside (BL w9) := GR _ _ (GA _ _ Bw8.out) b9
              clear fB0 fB1 fB2 fB3 fB4 fB5 fB6
              clear cEB
              have K8 : Aside (Below (w8.alloc (.cells #[.int .i64 ta, .int .i64 ka, .string sa] 23)).heap.size (w8.alloc (.cells #[.int .i64 ta, .int .i64 ka, .string sa] 23)) w9) := b9
              clear b9
              by_cases hTU : T = U
              · subst hTU
                have hof := (of_sides HOA.out HE.out).1 HOB.out
                have hisT := of_ty HOA.out
                obtain ⟨pp, qq, hpp, hqq, hpq⟩ := cm_less hisT (by rw [HCA.out]; exact HcA.out) (by rw [HCB.out]; exact HcB.out)
                obtain ⟨⟨pt, pk, ps⟩, pe⟩ := pp
                obtain ⟨⟨qt, qk, qs⟩, qe⟩ := qq
                rw [HCA.out, HCB.out] at hpq
                simp only at hpq
                have cIy : ∀ X g, g = X.heap.size → BL X → Calls Tryd.prog 7 #[.agg #[.string ⟨#[105, 102]⟩, .string ⟨#[]⟩, .int .i64 0, .int .i64 0, .string ⟨#[]⟩, .slice (some ⟨g, 0, none⟩) 3 3, .int .i64 0], vl, vr] (X.alloc (.cells #[.string ⟨#[118, 97, 108]⟩, .string ⟨#[]⟩, .int .i64 2, .int .i64 1, .string ⟨#[]⟩, .slice none 0 0, .int .i64 0, .string o1, .string n1, .int .i64 t1, .int .i64 k1, .string s1, .slice p1 m1 c1, .int .i64 a1, .string o2, .string n2, .int .i64 t2, .int .i64 k2, .string s2, .slice p2 m2 c2, .int .i64 a2] 26)) fun e' w' => e' = .returned (.tuple #[.agg #[.int .i64 ta, .int .i64 ka, .string sa], errV ea]) ∧ Below X.heap.size X w' := fun X g hg hX => ev3_any ⟨#[105, 102]⟩ (by decide) (yes_in X) (HA.out.on (TO X hX)) (HB.out.on (TO X hX)) (by decide) (by rw [HLA.out]; omega) (by rw [HLB.out]; omega) ExB_yes HDA.out HDB.out vl vr zs rs (HEN.out.on (TO X hX)) (HCV.out.on (TO X hX)) (HRV.out.on (TO X hX)) HRS.out ta ka sa ea ((evP_ok hof.1 HK.out).trans ((cm_if zs rs a b).1.trans HCA.out)) g hg
                have cIn : ∀ X g, g = X.heap.size → BL X → Calls Tryd.prog 7 #[.agg #[.string ⟨#[105, 102]⟩, .string ⟨#[]⟩, .int .i64 0, .int .i64 0, .string ⟨#[]⟩, .slice (some ⟨g, 0, none⟩) 3 3, .int .i64 0], vl, vr] (X.alloc (.cells #[.string ⟨#[118, 97, 108]⟩, .string ⟨#[]⟩, .int .i64 2, .int .i64 0, .string ⟨#[]⟩, .slice none 0 0, .int .i64 0, .string o1, .string n1, .int .i64 t1, .int .i64 k1, .string s1, .slice p1 m1 c1, .int .i64 a1, .string o2, .string n2, .int .i64 t2, .int .i64 k2, .string s2, .slice p2 m2 c2, .int .i64 a2] 26)) fun e' w' => e' = .returned (.tuple #[.agg #[.int .i64 tb, .int .i64 kb, .string sb], errV eb]) ∧ Below X.heap.size X w' := fun X g hg hX => ev3_any ⟨#[105, 102]⟩ (by decide) (no_in X) (HA.out.on (TO X hX)) (HB.out.on (TO X hX)) (by decide) (by rw [HLA.out]; omega) (by rw [HLB.out]; omega) ExB_no HDA.out HDB.out vl vr zs rs (HEN.out.on (TO X hX)) (HCV.out.on (TO X hX)) (HRV.out.on (TO X hX)) HRS.out tb kb sb eb ((evP_ok hof.2.1 HK.out).trans ((cm_if zs rs a b).2.trans HCB.out)) g hg
                have cLt : ∀ X g, g = X.heap.size → BL X → Calls Tryd.prog 7 #[.agg #[.string ⟨#[60]⟩, .string ⟨#[]⟩, .int .i64 0, .int .i64 0, .string ⟨#[]⟩, .slice (some ⟨g, 0, none⟩) 2 2, .int .i64 0], vl, vr] (X.alloc (.cells #[.string o1, .string n1, .int .i64 t1, .int .i64 k1, .string s1, .slice p1 m1 c1, .int .i64 a1, .string o2, .string n2, .int .i64 t2, .int .i64 k2, .string s2, .slice p2 m2 c2, .int .i64 a2] 26)) fun e' w' => e' = .returned (.tuple #[.agg #[.int .i64 pt, .int .i64 pk, .string ps], errV pe]) ∧ Below X.heap.size X w' := fun X g hg hX => ev2_any ⟨#[60]⟩ (by decide) (HA.out.on (TO X hX)) (HB.out.on (TO X hX)) (by rw [HLA.out]; omega) (by rw [HLB.out]; omega) HDA.out HDB.out vl vr zs rs (HEN.out.on (TO X hX)) (HCV.out.on (TO X hX)) (HRV.out.on (TO X hX)) HRS.out pt pk ps pe ((evP_ok hof.2.2.1 HK.out).trans hpp) g hg
                have cGe : ∀ X g, g = X.heap.size → BL X → Calls Tryd.prog 7 #[.agg #[.string ⟨#[62, 61]⟩, .string ⟨#[]⟩, .int .i64 0, .int .i64 0, .string ⟨#[]⟩, .slice (some ⟨g, 0, none⟩) 2 2, .int .i64 0], vl, vr] (X.alloc (.cells #[.string o1, .string n1, .int .i64 t1, .int .i64 k1, .string s1, .slice p1 m1 c1, .int .i64 a1, .string o2, .string n2, .int .i64 t2, .int .i64 k2, .string s2, .slice p2 m2 c2, .int .i64 a2] 26)) fun e' w' => e' = .returned (.tuple #[.agg #[.int .i64 qt, .int .i64 qk, .string qs], errV qe]) ∧ Below X.heap.size X w' := fun X g hg hX => ev2_any ⟨#[62, 61]⟩ (by decide) (HA.out.on (TO X hX)) (HB.out.on (TO X hX)) (by rw [HLA.out]; omega) (by rw [HLB.out]; omega) HDA.out HDB.out vl vr zs rs (HEN.out.on (TO X hX)) (HCV.out.on (TO X hX)) (HRV.out.on (TO X hX)) HRS.out qt qk qs qe ((evP_ok hof.2.2.2 HK.out).trans hqq) g hg
                have HPQ : Hid _ := hpq
                have HPP : Hid (cmP zs rs (mkN ⟨#[60]⟩ [a, b]) = ((pt, pk, ps), pe)) := hpp
                clear hof hisT hpp hqq hpq
                obtain ⟨fY0, fY1, fY2, fY3, fY4, fY5, fY6⟩ := (FR.out w9 Bw9.out).2.2.1
                obtain ⟨fA0, fA1, fA2, fA3, fA4, fA5, fA6⟩ := (FR.out w9 Bw9.out).1
                obtain ⟨fB0, fB1, fB2, fB3, fB4, fB5, fB6⟩ := (FR.out w9 Bw9.out).2.1
                have hzw9 : w.heap.size + 5 ≤ w9.heap.size := (FR.out w9 Bw9.out).2.2.2.2.1
                have hyw90 : w.heap.size < w9.heap.size := by omega
                have hyw91 : w.heap.size + 1 < w9.heap.size := by omega
                have hyw92 : w.heap.size + 2 < w9.heap.size := by omega
                have hyw93 : w.heap.size + 3 < w9.heap.size := by omega
                go_wp2_with fail
                refine (cIy _ _ (by simp) (GA _ _ Bw9.out)).mono ?_
                rintro e' w10 ⟨rfl, b10⟩
                have Bw10 : Aside (BL w10) := GR _ _ (GA _ _ Bw9.out) b10
                clear fY0 fY1 fY2 fY3 fY4 fY5 fY6 fA0 fA1 fA2 fA3 fA4 fA5 fA6 fB0 fB1 fB2 fB3 fB4 fB5 fB6
                clear cIy
                have K8b : Aside (Below (w8.alloc (.cells #[.int .i64 ta, .int .i64 ka, .string sa] 23)).heap.size (w8.alloc (.cells #[.int .i64 ta, .int .i64 ka, .string sa] 23)) w10) := chain K8.out _ b10
                have K9 : Aside (Below (w9.alloc (.cells #[.int .i64 tb, .int .i64 kb, .string sb] 23)).heap.size (w9.alloc (.cells #[.int .i64 tb, .int .i64 kb, .string sb] 23)) w10) := b10
                clear b10 K8
                obtain ⟨fN0, fN1, fN2, fN3, fN4, fN5, fN6⟩ := (FR.out w10 Bw10.out).2.2.2.1
                obtain ⟨fA0, fA1, fA2, fA3, fA4, fA5, fA6⟩ := (FR.out w10 Bw10.out).1
                obtain ⟨fB0, fB1, fB2, fB3, fB4, fB5, fB6⟩ := (FR.out w10 Bw10.out).2.1
                have hzw10 : w.heap.size + 5 ≤ w10.heap.size := (FR.out w10 Bw10.out).2.2.2.2.1
                have hyw100 : w.heap.size < w10.heap.size := by omega
                have hyw101 : w.heap.size + 1 < w10.heap.size := by omega
                have hyw102 : w.heap.size + 2 < w10.heap.size := by omega
                have hyw103 : w.heap.size + 3 < w10.heap.size := by omega
                go_wp2_with fail
                refine (cIn _ _ (by simp) (GA _ _ Bw10.out)).mono ?_
                rintro e' w11 ⟨rfl, b11⟩
                have Bw11 : Aside (BL w11) := GR _ _ (GA _ _ Bw10.out) b11
                clear fN0 fN1 fN2 fN3 fN4 fN5 fN6 fA0 fA1 fA2 fA3 fA4 fA5 fA6 fB0 fB1 fB2 fB3 fB4 fB5 fB6
                clear cIn
                have K8c := chain K8b.out _ b11
                have K9b := chain K9.out _ b11
                have K10 : Below (w10.alloc (.cells #[.int .i64 ta, .int .i64 ka, .string sa] 23)).heap.size (w10.alloc (.cells #[.int .i64 ta, .int .i64 ka, .string sa] 23)) w11 := b11
                clear b11 K8b K9
                obtain ⟨kf, _, hlx8⟩ := box_at w8 _ _ K8c (by simp)
                have x80 : w11.cell? ⟨w8.heap.size, 0, none⟩ = some (.int .i64 ta) := kf 0
                have x81 : w11.cell? ⟨w8.heap.size, 1, none⟩ = some (.int .i64 ka) := kf 1
                have x82 : w11.cell? ⟨w8.heap.size, 2, none⟩ = some (.string sa) := kf 2
                clear kf
                obtain ⟨kf, _, hlx9⟩ := box_at w9 _ _ K9b (by simp)
                have x90 : w11.cell? ⟨w9.heap.size, 0, none⟩ = some (.int .i64 tb) := kf 0
                have x91 : w11.cell? ⟨w9.heap.size, 1, none⟩ = some (.int .i64 kb) := kf 1
                have x92 : w11.cell? ⟨w9.heap.size, 2, none⟩ = some (.string sb) := kf 2
                clear kf
                obtain ⟨kf, _, hlx10⟩ := box_at w10 _ _ K10 (by simp)
                have x100 : w11.cell? ⟨w10.heap.size, 0, none⟩ = some (.int .i64 ta) := kf 0
                have x101 : w11.cell? ⟨w10.heap.size, 1, none⟩ = some (.int .i64 ka) := kf 1
                have x102 : w11.cell? ⟨w10.heap.size, 2, none⟩ = some (.string sa) := kf 2
                clear kf
                have HK8c : Aside _ := K8c
                clear K8c K9b K10
                have hzw11 : w.heap.size + 5 ≤ w11.heap.size := (FR.out w11 Bw11.out).2.2.2.2.1
                have hyw110 : w.heap.size < w11.heap.size := by omega
                have hyw111 : w.heap.size + 1 < w11.heap.size := by omega
                have hyw112 : w.heap.size + 2 < w11.heap.size := by omega
                have hyw113 : w.heap.size + 3 < w11.heap.size := by omega
                go_upto_region 18 with fail
                go_cut [162] (fun c wx => c = .bool false ∧ Aside (Below (w11.alloc (.cells #[.int .i64 tb, .int .i64 kb, .string sb] 23)).heap.size (w11.alloc (.cells #[.int .i64 tb, .int .i64 kb, .string sb] 23)) wx))
                case first =>
                  clear cLt cGe HPQ
                  go_quiet (fail)
                  go_wp2
                  go_meet
                  case rel => exact ⟨rfl, by repeat (first | exact Below.refl _ _ | apply below_drewN | refine Below.drew ?_)⟩
                case rest =>
                  obtain ⟨rfl, HC⟩ := hcut
                  rename World => wA
                  have BwA : Aside (BL wA) := GR _ _ (GA _ _ Bw11.out) HC.out
                  have K8d : Aside (Below (w8.alloc (.cells #[.int .i64 ta, .int .i64 ka, .string sa] 23)).heap.size (w8.alloc (.cells #[.int .i64 ta, .int .i64 ka, .string sa] 23)) wA) := chain HK8c.out _ HC.out
                  clear HC HK8c x80 x81 x82 x90 x91 x92 x100 x101 x102
                  obtain ⟨fA0, fA1, fA2, fA3, fA4, fA5, fA6⟩ := (FR.out wA BwA.out).1
                  obtain ⟨fB0, fB1, fB2, fB3, fB4, fB5, fB6⟩ := (FR.out wA BwA.out).2.1
                  have hzwA : w.heap.size + 5 ≤ wA.heap.size := (FR.out wA BwA.out).2.2.2.2.1
                  have hywA0 : w.heap.size < wA.heap.size := by omega
                  have hywA1 : w.heap.size + 1 < wA.heap.size := by omega
                  have hywA2 : w.heap.size + 2 < wA.heap.size := by omega
                  have hywA3 : w.heap.size + 3 < wA.heap.size := by omega
                  go_wp2_with fail
                  refine (cLt _ _ (by simp) BwA.out).mono ?_
                  rintro e' w12 ⟨rfl, b12⟩
                  have Bw12 : Aside (BL w12) := GR _ _ BwA.out b12
                  clear fA0 fA1 fA2 fA3 fA4 fA5 fA6 fB0 fB1 fB2 fB3 fB4 fB5 fB6
                  clear cLt
                  have K8e : Aside (Below (w8.alloc (.cells #[.int .i64 ta, .int .i64 ka, .string sa] 23)).heap.size (w8.alloc (.cells #[.int .i64 ta, .int .i64 ka, .string sa] 23)) w12) := chain0 K8d.out b12
                  clear b12 K8d
                  obtain ⟨fA0, fA1, fA2, fA3, fA4, fA5, fA6⟩ := (FR.out w12 Bw12.out).1
                  obtain ⟨fB0, fB1, fB2, fB3, fB4, fB5, fB6⟩ := (FR.out w12 Bw12.out).2.1
                  have hzw12 : w.heap.size + 5 ≤ w12.heap.size := (FR.out w12 Bw12.out).2.2.2.2.1
                  have hyw120 : w.heap.size < w12.heap.size := by omega
                  have hyw121 : w.heap.size + 1 < w12.heap.size := by omega
                  have hyw122 : w.heap.size + 2 < w12.heap.size := by omega
                  have hyw123 : w.heap.size + 3 < w12.heap.size := by omega
                  go_wp2_with fail
                  refine (cGe _ _ (by simp) (GA _ _ Bw12.out)).mono ?_
                  rintro e' w13 ⟨rfl, b13⟩
                  have Bw13 : Aside (BL w13) := GR _ _ (GA _ _ Bw12.out) b13
                  clear fA0 fA1 fA2 fA3 fA4 fA5 fA6 fB0 fB1 fB2 fB3 fB4 fB5 fB6
                  clear cGe
                  have K8f : Aside (Below (w8.alloc (.cells #[.int .i64 ta, .int .i64 ka, .string sa] 23)).heap.size (w8.alloc (.cells #[.int .i64 ta, .int .i64 ka, .string sa] 23)) w13) := chain K8e.out _ b13
                  have K12 : Below (w12.alloc (.cells #[.int .i64 pt, .int .i64 pk, .string ps] 23)).heap.size (w12.alloc (.cells #[.int .i64 pt, .int .i64 pk, .string ps] 23)) w13 := b13
                  clear b13 K8e
                  obtain ⟨kf, _, hlx12⟩ := box_at w12 _ _ K12 (by simp)
                  have x120 : w13.cell? ⟨w12.heap.size, 0, none⟩ = some (.int .i64 pt) := kf 0
                  have x121 : w13.cell? ⟨w12.heap.size, 1, none⟩ = some (.int .i64 pk) := kf 1
                  have x122 : w13.cell? ⟨w12.heap.size, 2, none⟩ = some (.string ps) := kf 2
                  clear kf
                  clear K12
                  have hzw13 : w.heap.size + 5 ≤ w13.heap.size := (FR.out w13 Bw13.out).2.2.2.2.1
                  have hyw130 : w.heap.size < w13.heap.size := by omega
                  have hyw131 : w.heap.size + 1 < w13.heap.size := by omega
                  have hyw132 : w.heap.size + 2 < w13.heap.size := by omega
                  have hyw133 : w.heap.size + 3 < w13.heap.size := by omega
                  go_upto_region 22 with fail
                  go_cut [210] (fun c wx => c = .bool false ∧ Aside (Below (w13.alloc (.cells #[.int .i64 qt, .int .i64 qk, .string qs] 23)).heap.size (w13.alloc (.cells #[.int .i64 qt, .int .i64 qk, .string qs] 23)) wx))
                  case first =>
                    have eP2 := errK_geql pe
                    have eQ2 := errK_geql qe
                    clear eA1 eB1
                    rcases HPQ.out with ⟨hp0, hq0, ha0, hb0, hpk⟩ | ⟨hp9, hq9, h9⟩
                    · clear HPQ
                      have eP1 : ∀ W, Sem.run Tryd.prog (binOp .eql 32 (errV pe) .nilIface) W = .ok (.bool true) W := fun W => by rw [errK_eql, hp0]; rfl
                      have eQ1 : ∀ W, Sem.run Tryd.prog (binOp .eql 32 (errV qe) .nilIface) W = .ok (.bool true) W := fun W => by rw [errK_eql, hq0]; rfl
                      have eA1 : ∀ W, Sem.run Tryd.prog (binOp .eql 32 (errV ea) .nilIface) W = .ok (.bool true) W := fun W => by rw [errK_eql, ha0]; rfl
                      have eB1 : ∀ W, Sem.run Tryd.prog (binOp .eql 32 (errV eb) .nilIface) W = .ok (.bool true) W := fun W => by rw [errK_eql, hb0]; rfl
                      rcases hpk with ⟨hk1, hk2⟩ | ⟨hk1, hk2⟩
                      · exact absurd HCS.out (by rw [HCA.out]; simp only; omega)
                      · exact absurd HCS.out (by rw [HCA.out]; simp only; omega)
                    · clear HPQ
                      have eP1 : ∀ W, Sem.run Tryd.prog (binOp .eql 32 (errV pe) .nilIface) W = .ok (.bool false) W := fun W => by rw [errK_eql, hp9]; rfl
                      have eQ1 : ∀ W, Sem.run Tryd.prog (binOp .eql 32 (errV qe) .nilIface) W = .ok (.bool false) W := fun W => by rw [errK_eql, hq9]; rfl
                      have hea := comes_err HcA.out
                      simp only at hea
                      rcases hea with hea | hea
                      · have heb : eb = 9 := by
                          rcases h9 with h | h
                          · omega
                          · exact h
                        exact absurd HCS.out (by rw [HCA.out]; simp only; omega)
                      · skip
                        have eA1 : ∀ W, Sem.run Tryd.prog (binOp .eql 32 (errV ea) .nilIface) W = .ok (.bool false) W := fun W => by rw [errK_eql, hea]; rfl
                        clear hp9 hq9 h9 hea
                        go_big_quiet (fail)
                        go_wp2
                        go_meet
                        case rel => exact ⟨rfl, by repeat (first | exact Below.refl _ _ | apply below_drewN | refine Below.drew ?_)⟩
                  case rest =>
                    obtain ⟨rfl, HC⟩ := hcut
                    rename World => wB
                    have BwB : Aside (BL wB) := GR _ _ (GA _ _ Bw13.out) HC.out
                    have K8g : Aside (Below (w8.alloc (.cells #[.int .i64 ta, .int .i64 ka, .string sa] 23)).heap.size (w8.alloc (.cells #[.int .i64 ta, .int .i64 ka, .string sa] 23)) wB) := chain K8f.out _ HC.out
                    clear HC K8f x120 x121 x122 HPQ
                    by_cases hT2 : T = 2
                    · subst hT2
                      have hof2 := (of_sides (b := b) (q := 0) HOA.out HE.out).2 rfl
                      have cAn : ∀ X g, g = X.heap.size → BL X → Calls Tryd.prog 7 #[.agg #[.string ⟨#[97, 110, 100]⟩, .string ⟨#[]⟩, .int .i64 0, .int .i64 0, .string ⟨#[]⟩, .slice (some ⟨g, 0, none⟩) 2 2, .int .i64 0], vl, vr] (X.alloc (.cells #[.string ⟨#[118, 97, 108]⟩, .string ⟨#[]⟩, .int .i64 2, .int .i64 0, .string ⟨#[]⟩, .slice none 0 0, .int .i64 0, .string o1, .string n1, .int .i64 t1, .int .i64 k1, .string s1, .slice p1 m1 c1, .int .i64 a1] 26)) fun e' w' => e' = .returned (.tuple #[.agg #[.int .i64 2, .int .i64 0, .string ⟨#[]⟩], .nilIface]) ∧ Below X.heap.size X w' := fun X g hg hX => ev2_any ⟨#[97, 110, 100]⟩ (by decide) (no_in X) (HA.out.on (TO X hX)) (by decide) (by rw [HLA.out]; omega) ExB_no HDA.out vl vr zs rs (HEN.out.on (TO X hX)) (HCV.out.on (TO X hX)) (HRV.out.on (TO X hX)) HRS.out 2 0 ⟨#[]⟩ 0 ((evP_ok hof2.1 HK.out).trans ((cm_and_no zs rs a).1)) g hg
                      have cOr : ∀ X g, g = X.heap.size → BL X → Calls Tryd.prog 7 #[.agg #[.string ⟨#[111, 114]⟩, .string ⟨#[]⟩, .int .i64 0, .int .i64 0, .string ⟨#[]⟩, .slice (some ⟨g, 0, none⟩) 2 2, .int .i64 0], vl, vr] (X.alloc (.cells #[.string ⟨#[118, 97, 108]⟩, .string ⟨#[]⟩, .int .i64 2, .int .i64 1, .string ⟨#[]⟩, .slice none 0 0, .int .i64 0, .string o1, .string n1, .int .i64 t1, .int .i64 k1, .string s1, .slice p1 m1 c1, .int .i64 a1] 26)) fun e' w' => e' = .returned (.tuple #[.agg #[.int .i64 2, .int .i64 1, .string ⟨#[]⟩], .nilIface]) ∧ Below X.heap.size X w' := fun X g hg hX => ev2_any ⟨#[111, 114]⟩ (by decide) (yes_in X) (HA.out.on (TO X hX)) (by decide) (by rw [HLA.out]; omega) ExB_yes HDA.out vl vr zs rs (HEN.out.on (TO X hX)) (HCV.out.on (TO X hX)) (HRV.out.on (TO X hX)) HRS.out 2 1 ⟨#[]⟩ 0 ((evP_ok hof2.2.1 HK.out).trans ((cm_and_no zs rs a).2)) g hg
                      have cAy : ∀ X g, g = X.heap.size → BL X → Calls Tryd.prog 7 #[.agg #[.string ⟨#[97, 110, 100]⟩, .string ⟨#[]⟩, .int .i64 0, .int .i64 0, .string ⟨#[]⟩, .slice (some ⟨g, 0, none⟩) 2 2, .int .i64 0], vl, vr] (X.alloc (.cells #[.string ⟨#[118, 97, 108]⟩, .string ⟨#[]⟩, .int .i64 2, .int .i64 1, .string ⟨#[]⟩, .slice none 0 0, .int .i64 0, .string o1, .string n1, .int .i64 t1, .int .i64 k1, .string s1, .slice p1 m1 c1, .int .i64 a1] 26)) fun e' w' => e' = .returned (.tuple #[.agg #[.int .i64 ta, .int .i64 ka, .string sa], errV ea]) ∧ Below X.heap.size X w' := fun X g hg hX => ev2_any ⟨#[97, 110, 100]⟩ (by decide) (yes_in X) (HA.out.on (TO X hX)) (by decide) (by rw [HLA.out]; omega) ExB_yes HDA.out vl vr zs rs (HEN.out.on (TO X hX)) (HCV.out.on (TO X hX)) (HRV.out.on (TO X hX)) HRS.out ta ka sa ea ((evP_ok hof2.2.2 HK.out).trans ((cm_and_yes (by rw [HCA.out]; exact HcA.out)).trans HCA.out)) g hg
                      clear hof2
                      obtain ⟨fN0, fN1, fN2, fN3, fN4, fN5, fN6⟩ := (FR.out wB BwB.out).2.2.2.1
                      obtain ⟨fA0, fA1, fA2, fA3, fA4, fA5, fA6⟩ := (FR.out wB BwB.out).1
                      have hzwB : w.heap.size + 5 ≤ wB.heap.size := (FR.out wB BwB.out).2.2.2.2.1
                      have hywB0 : w.heap.size < wB.heap.size := by omega
                      have hywB1 : w.heap.size + 1 < wB.heap.size := by omega
                      have hywB2 : w.heap.size + 2 < wB.heap.size := by omega
                      have hywB3 : w.heap.size + 3 < wB.heap.size := by omega
                      go_wp2_with fail
                      refine (cAn _ _ (by simp) BwB.out).mono ?_
                      rintro e' w14 ⟨rfl, b14⟩
                      have Bw14 : Aside (BL w14) := GR _ _ BwB.out b14
                      clear fN0 fN1 fN2 fN3 fN4 fN5 fN6 fA0 fA1 fA2 fA3 fA4 fA5 fA6
                      clear cAn
                      have K8b : Aside (Below (w8.alloc (.cells #[.int .i64 ta, .int .i64 ka, .string sa] 23)).heap.size (w8.alloc (.cells #[.int .i64 ta, .int .i64 ka, .string sa] 23)) w14) := chain0 K8g.out b14
                      clear b14
                      obtain ⟨fY0, fY1, fY2, fY3, fY4, fY5, fY6⟩ := (FR.out w14 Bw14.out).2.2.1
                      obtain ⟨fA0, fA1, fA2, fA3, fA4, fA5, fA6⟩ := (FR.out w14 Bw14.out).1
                      have hzw14 : w.heap.size + 5 ≤ w14.heap.size := (FR.out w14 Bw14.out).2.2.2.2.1
                      have hyw140 : w.heap.size < w14.heap.size := by omega
                      have hyw141 : w.heap.size + 1 < w14.heap.size := by omega
                      have hyw142 : w.heap.size + 2 < w14.heap.size := by omega
                      have hyw143 : w.heap.size + 3 < w14.heap.size := by omega
                      go_wp2_with fail
                      refine (cOr _ _ (by simp) (GA _ _ Bw14.out)).mono ?_
                      rintro e' w15 ⟨rfl, b15⟩
                      have Bw15 : Aside (BL w15) := GR _ _ (GA _ _ Bw14.out) b15
                      clear fY0 fY1 fY2 fY3 fY4 fY5 fY6 fA0 fA1 fA2 fA3 fA4 fA5 fA6
                      clear cOr
                      have K14 : Aside (Below (w14.alloc (.cells #[.int .i64 2, .int .i64 0, .string ⟨#[]⟩] 23)).heap.size (w14.alloc (.cells #[.int .i64 2, .int .i64 0, .string ⟨#[]⟩] 23)) w15) := b15
                      have K8c : Aside (Below (w8.alloc (.cells #[.int .i64 ta, .int .i64 ka, .string sa] 23)).heap.size (w8.alloc (.cells #[.int .i64 ta, .int .i64 ka, .string sa] 23)) w15) := chain K8b.out _ b15
                      clear b15 K8b
                      obtain ⟨fY0, fY1, fY2, fY3, fY4, fY5, fY6⟩ := (FR.out w15 Bw15.out).2.2.1
                      obtain ⟨fA0, fA1, fA2, fA3, fA4, fA5, fA6⟩ := (FR.out w15 Bw15.out).1
                      have hzw15 : w.heap.size + 5 ≤ w15.heap.size := (FR.out w15 Bw15.out).2.2.2.2.1
                      have hyw150 : w.heap.size < w15.heap.size := by omega
                      have hyw151 : w.heap.size + 1 < w15.heap.size := by omega
                      have hyw152 : w.heap.size + 2 < w15.heap.size := by omega
                      have hyw153 : w.heap.size + 3 < w15.heap.size := by omega
                      go_wp2_with fail
                      refine (cAy _ _ (by simp) (GA _ _ Bw15.out)).mono ?_
                      rintro e' w16 ⟨rfl, b16⟩
                      have Bw16 : Aside (BL w16) := GR _ _ (GA _ _ Bw15.out) b16
                      clear fY0 fY1 fY2 fY3 fY4 fY5 fY6 fA0 fA1 fA2 fA3 fA4 fA5 fA6
                      clear cAy
                      have K15 : Aside (Below (w15.alloc (.cells #[.int .i64 2, .int .i64 1, .string ⟨#[]⟩] 23)).heap.size (w15.alloc (.cells #[.int .i64 2, .int .i64 1, .string ⟨#[]⟩] 23)) w16) := b16
                      have K14b := chain K14.out _ b16
                      have K8d := chain K8c.out _ b16
                      clear b16 K14 K8c
                      obtain ⟨kf, _, hlx8⟩ := box_at w8 _ _ K8d (by simp)
                      have x80 : w16.cell? ⟨w8.heap.size, 0, none⟩ = some (.int .i64 ta) := kf 0
                      have x81 : w16.cell? ⟨w8.heap.size, 1, none⟩ = some (.int .i64 ka) := kf 1
                      have x82 : w16.cell? ⟨w8.heap.size, 2, none⟩ = some (.string sa) := kf 2
                      clear kf
                      obtain ⟨kf, _, hlx14⟩ := box_at w14 _ _ K14b (by simp)
                      have x140 : w16.cell? ⟨w14.heap.size, 0, none⟩ = some (.int .i64 2) := kf 0
                      have x141 : w16.cell? ⟨w14.heap.size, 1, none⟩ = some (.int .i64 0) := kf 1
                      have x142 : w16.cell? ⟨w14.heap.size, 2, none⟩ = some (.string ⟨#[]⟩) := kf 2
                      clear kf
                      obtain ⟨kf, _, hlx15⟩ := box_at w15 _ _ K15.out (by simp)
                      have x150 : w16.cell? ⟨w15.heap.size, 0, none⟩ = some (.int .i64 2) := kf 0
                      have x151 : w16.cell? ⟨w15.heap.size, 1, none⟩ = some (.int .i64 1) := kf 1
                      have x152 : w16.cell? ⟨w15.heap.size, 2, none⟩ = some (.string ⟨#[]⟩) := kf 2
                      clear kf
                      have bf := TO _ Bw16.out
                      go_wp2
                      go_quiet (fail)
                      go_wp2
                      go_ret
                      exact ⟨rfl, below_drewN (bf.alloc bf.size _) _⟩
                    · have hT2b : (T != 2) = true := by simpa using hT2
                      have bf := TO _ BwB.out
                      go_wp2
                      go_ret
                      exact ⟨rfl, by repeat (first | exact bf | (refine Below.alloc ?_ (by first | (have := bf.size; omega) | (simp; have := bf.size; omega)) _))⟩
              · have hTUb : (T == U) = false := by simpa using hTU
                exact absurd (by have h := HGD.out.2.2.2.2.2.2; rw [HOA.out, HOB.out] at h; exact h) hTU
            · exact absurd (HE.out.symm.trans HGD.out.2.2.2.2.2.1) hE0
          · have hGb : (G != 0) = true := by simpa using hG
            exact absurd (by have h := HGD.out.2.2.2.2.1; rw [HOB.out] at h; exact h) hG
        · have hHb : (H != 0) = true := by simpa using hH
          exact absurd (by have h := HGD.out.2.2.2.1; rw [HOA.out] at h; exact h) hH
  · have cK2 : ∀ W, BL W → Calls Tryd.prog 8 #[vl, vr] W fun e' w' => e' = .returned (.iface 37 (.int .i64 K)) ∧ Below W.heap.size W w' := fun W hW => (cK W hW).mono fun e' w' h => by rw [errV, if_neg hK0] at h; exact h
    exact absurd (HK.out.symm.trans HGD.out.1) hK0
end Go.Proofs.YtkoejkpjkcejcabDoor
