import Derived.Test.YtobcdcmmeabecaaGreatCt24
import Derived.Test.YtobcdcmmeabecaaGreatCtG
import Derived.Test.YtobcdcmmeabecaaGreatCtH
import Derived.Test.YtobcdcmmeabecaaGreatCtI
import Derived.Test.YtobcdcmmeabecaaGreatLtA
import Derived.Test.YtobcdcmmeabecaaGreatWhY
import Derived.Test.YtobcdcmmeabecaaGreatLs1
import Derived.Test.YtobcdcmmeabecaaGreatBetY
import Derived.Test.YtobcdcmmeabecaaGreatHmW
/- The law CountSays, of a polytope of small numbers. -/
namespace Go.Proofs.YtobcdcmmeabecaaGreat
open Go.RowKit
attribute [local go_sem ↓] Go.wp_at_zero Go.wp_at_succ

theorem fieldOk {d : Nat} {P s : List (List Int)} (h : Sml d P) (hs : SAsc s) (hm : ∀ r, r ∈ s ↔ r ∈ rowsD P d) : FieldOk d P s := fun v w hv =>
  field_core d P s v w hv h.good.d1 h.d3 h.good.n2 h.good.n24 (fun x hx => (h.box x hx).1) fun W hW =>
    (rowsK_fr d P v W hW h.good).mono fun e w' ⟨P', u, rows, hP, hr, he, hf, hb⟩ => by
      have hq := rows_equalK h.good hP hr hs hm
      subst hq
      obtain ⟨ro, rc, hv', _, _⟩ := fr_open hf
      subst hv'
      exact ⟨ro, rc, he, hf, hb⟩

theorem sorted_put (q : List Int) : ∀ s : List (List Int), SAsc s → ∃ t, SAsc t ∧ ∀ r, r ∈ t ↔ r = q ∨ r ∈ s
  | [], _ => ⟨[q], by simp [SAsc], fun r => by simp⟩
  | a :: s, h => by
    have h' := List.pairwise_cons.1 h
    by_cases h1 : cmpL q a < 0
    · refine ⟨q :: a :: s, List.pairwise_cons.2 ⟨fun r hr => ?_, h⟩, fun r => by simp⟩
      rcases List.mem_cons.1 hr with rfl | hr
      · exact h1
      · exact cmpL_trans _ _ _ h1 (h'.1 r hr)
    · by_cases h2 : cmpL a q < 0
      · obtain ⟨t, ht, hm⟩ := sorted_put q s h'.2
        refine ⟨a :: t, List.pairwise_cons.2 ⟨fun r hr => ?_, ht⟩, fun r => ?_⟩
        · rcases (hm r).1 hr with rfl | hr
          · exact h2
          · exact h'.1 r hr
        · simp only [List.mem_cons, hm r]
          constructor
          · rintro (e | e | e)
            · exact Or.inr (Or.inl e)
            · exact Or.inl e
            · exact Or.inr (Or.inr e)
          · rintro (e | e | e)
            · exact Or.inr (Or.inl e)
            · exact Or.inl e
            · exact Or.inr (Or.inr e)
      · have e := cmpL_eq q a h1 h2
        subst e
        exact ⟨q :: s, h, fun r => by simp⟩

theorem sorted_of : ∀ L : List (List Int), ∃ s, SAsc s ∧ ∀ r, r ∈ s ↔ r ∈ L
  | [] => ⟨[], by simp [SAsc], fun r => Iff.rfl⟩
  | q :: L => by
    obtain ⟨s, h1, h2⟩ := sorted_of L
    obtain ⟨t, h3, h4⟩ := sorted_put q s h1
    exact ⟨t, h3, fun r => by rw [h4 r, h2 r, List.mem_cons]⟩

theorem flN_small {d : Nat} (hd : d ≤ 3) (i p : Nat) (hi : i ≤ d) : (flN ((d : Int) - (i : Int)) d p).natAbs ≤ 100 := by
  have h := flN_bd (top := (d : Int) - (i : Int)) (by omega) (by omega) d p hd
  exact Nat.le_trans h (Nat.le_trans (Nat.pow_le_pow_right (by decide) (show d ≤ 3 by omega)) (by decide))

set_option maxRecDepth 100000 in
set_option maxHeartbeats 1600000 in
theorem countSays_ok (d k : Nat) (P : List (List Int)) (v : Value) (w : World) (hv : Mat w.heap.size 22 3 w v P) (h : Sml d P) (hk : k ≤ 4) :
    Calls Tryz.prog 5 #[.agg #[.int .i64 d, v], .int .i64 k] w fun e w' => e = .returned (.bool true) ∧ Below w.heap.size w w' := by
  obtain ⟨s, hs, hm⟩ := sorted_of (rowsD P d)
  have hF : FieldOk d P s := fieldOk h hs hm
  have hd3 := h.d3
  have hd1 := h.good.d1
  obtain ⟨b, o, cap, r1, hvv, _, _, _⟩ := mat_cell hv (k := 0) (by have := h.good.n2; omega)
  obtain ⟨vl, hvl⟩ : ∃ vl, vl = P.length := ⟨_, rfl⟩
  rw [← hvl] at hvv
  clear hvl
  subst hvv
  obtain ⟨W, hW⟩ : ∃ W, W = w.alloc (.cells #[.int .i64 d, .slice (some ⟨b, o, none⟩) vl cap] 27) := ⟨_, rfl⟩
  obtain ⟨g, hgd⟩ : ∃ g, g = w.heap.size := ⟨_, rfl⟩
  have hbw : Below w.heap.size w W := by rw [hW]; exact (Below.refl _ _).alloc (Nat.le_refl _) _
  have hsW : W.heap.size = w.heap.size + 1 := by rw [hW]; simp
  have HW : Hid (∀ W', Below W.heap.size W W' → Below w.heap.size w W') := fun W' hB => hbw.trans (hB.mono (by omega))
  have c0 : W.cell? ⟨g, 0, none⟩ = some (.int .i64 d) := by rw [hgd, hW]; simp
  have c1 : W.cell? ⟨g, 1, none⟩ = some (.slice (some ⟨b, o, none⟩) vl cap) := by rw [hgd, hW]; simp
  have hvW : Mat W.heap.size 22 3 W (.slice (some ⟨b, o, none⟩) vl cap) P := (hv.below hbw (Nat.le_refl _)).any (Nat.le_refl _)
  have HC : Hid (∀ W', Below W.heap.size W W' → W'.cell? ⟨g, 0, none⟩ = some (.int .i64 d) ∧ W'.cell? ⟨g, 1, none⟩ = some (.slice (some ⟨b, o, none⟩) vl cap)) := fun W' hB => ⟨(hB.cell (lt_of_cell c0)).trans c0, (hB.cell (lt_of_cell c1)).trans c1⟩
  have HM : Hid (∀ W', Below W.heap.size W W' → Mat W'.heap.size 22 3 W' (.slice (some ⟨b, o, none⟩) vl cap) P) := fun W' hB => (hvW.below hB (Nat.le_refl _)).any (Nat.le_refl _)
  have K1 : Hid (Calls Tryz.prog 7 #[.slice (some ⟨b, o, none⟩) vl cap] W fun e w' => ∃ q, e = .returned (.bool q) ∧ w' = W) := (heavy_any W.heap.size P _ W hvW).mono fun e w' ⟨q, h1, _, h3⟩ => ⟨q, h1, h3⟩
  have K2 : Hid (∀ (k : Nat) W', k ≤ 4 → Below W.heap.size W W' → Calls Tryz.prog 8 #[.agg #[.int .i64 d, .slice (some ⟨b, o, none⟩) vl cap], .int .i64 k] W' fun e w' => ∃ q, e = .returned (.bool q) ∧ Below W.heap.size W w') := fun k W' hk hB => (few_any d k P _ W' (HM.out W' hB) h hk).mono fun e w' ⟨q, e1, e2⟩ => ⟨q, e1, hB.trans (e2.mono hB.size)⟩
  have K3 : Hid (∀ W', Below W.heap.size W W' → Calls Tryz.prog 9 #[.agg #[.int .i64 d, .slice (some ⟨b, o, none⟩) vl cap], .int .i64 k, .int .i64 0] W' fun e w' => e = .returned (.int .i64 0) ∧ Below W.heap.size W w') := fun W' hB => (countMay_any d k 0 P _ W' (HM.out W' hB) h hk).mono fun e w' ⟨e1, e2⟩ => ⟨by rw [e1, if_neg (Nat.not_lt_zero k)], hB.trans (e2.mono hB.size)⟩
  have K4 : Hid (∀ W', Below W.heap.size W W' → Calls Tryz.prog 9 #[.agg #[.int .i64 d, .slice (some ⟨b, o, none⟩) vl cap], .int .i64 k, .int .i64 1] W' fun e w' => e = .returned (.int .i64 (if k < 1 then 9 else 0)) ∧ Below W.heap.size W w') := fun W' hB => (countMay_any d k 1 P _ W' (HM.out W' hB) h hk).mono fun e w' ⟨e1, e2⟩ => ⟨e1, hB.trans (e2.mono hB.size)⟩
  have K5 : Hid (∀ W', Below W.heap.size W W' → Calls Tryz.prog 10 #[.slice (some ⟨b, o, none⟩) vl cap, .int .i64 k] W' fun e w' => e = .returned (.tuple #[.int .i64 (plA k d P s d []), .int .i64 (plI k d P s d [])]) ∧ Below W.heap.size W w') := fun W' hB => (placesAll_any d k P s _ W' (HM.out W' hB) h.good h.box6 h.n16 (by omega) hs hm).mono fun e w' ⟨e1, e2⟩ => ⟨e1, hB.trans (e2.mono hB.size)⟩
  have K6 : Hid (∀ W', Below W.heap.size W W' → Calls Tryz.prog 11 #[.agg #[.int .i64 d, .slice (some ⟨b, o, none⟩) vl cap], .int .i64 k] W' fun e w' => e = .returned (.tuple #[.int .i64 (plA k d P s d []), .int .i64 0]) ∧ Below W.heap.size W w') := fun W' hB => (points_any d k P s _ W' (HM.out W' hB) h hs hm hk hF).mono fun e w' ⟨e1, e2⟩ => ⟨e1, hB.trans (e2.mono hB.size)⟩
  have K7 : Hid (∀ W', Below W.heap.size W W' → Calls Tryz.prog 12 #[.agg #[.int .i64 d, .slice (some ⟨b, o, none⟩) vl cap], .int .i64 k] W' fun e w' => e = .returned (.tuple #[.int .i64 (if k < 1 then 0 else plI k d P s d []), .int .i64 (if k < 1 then 9 else 0)]) ∧ Below W.heap.size W w') := fun W' hB => (inner_any d k P s _ W' (HM.out W' hB) h hs hm hk hF).mono fun e w' ⟨e1, e2⟩ => ⟨e1, hB.trans (e2.mono hB.size)⟩
  have K8 : Hid (∀ W', Below W.heap.size W W' → Calls Tryz.prog 14 #[.agg #[.int .i64 d, .slice (some ⟨b, o, none⟩) vl cap]] W' fun e w' => e = .returned (.int .i64 0) ∧ Below W.heap.size W w') := fun W' hB => (hullMay_ok d P _ W' (HM.out W' hB) h.good).mono fun e w' ⟨e1, e2⟩ => ⟨e1, hB.trans (e2.mono hB.size)⟩
  have hbd : ∀ i, i ≤ d → ((fsL d P s (d + 1)).getD i 0).natAbs ≤ 20000000000000 := fun i hi => by
    rw [fsL_get (by omega)]
    have := plA_small (k := i) h hs hm (by omega)
    omega
  have K9 : Hid (∀ W', Below W.heap.size W W' → Calls Tryz.prog 15 #[.agg #[.int .i64 d, .slice (some ⟨b, o, none⟩) vl cap]] W' fun e w' => ∃ uo ul uc, e = .returned (.tuple #[.slice uo ul uc, .int .i64 0]) ∧ (Sl w'.heap.size 3 w' (.slice uo ul uc) (ints (fsL d P s (d + 1))) ∧ Below W.heap.size W w')) := fun W' hB => (firsts_any d P s _ W' (HM.out W' hB) h hs hm).mono fun e w' ⟨u, e1, e2, e3⟩ => by
    obtain ⟨uo, uc, hu, _, _⟩ := sl_open e2
    subst hu
    exact ⟨uo, _, uc, e1, e2, hB.trans (e3.mono hB.size)⟩
  have K10 : Hid (∀ W' u, Sl W'.heap.size 3 W' u (ints (fsL d P s (d + 1))) → Below W.heap.size W W' → Calls Tryz.prog 16 #[u] W' fun e w' => ∃ u, e = .returned u ∧ (Sl w'.heap.size 3 w' u (ints (dpL d P s)) ∧ Below W'.heap.size W' w')) := fun W' u hu hB => (deltaOf_any W'.heap.size d (fsL d P s (d + 1)) u W' hu (fsL_len _ _ _ _) (by omega) (fun i hi => Nat.le_trans (hbd i hi) (by decide))).mono fun e w' ⟨u, e1, e2, e3⟩ => ⟨u, e1, by rw [dpL_eq hd1 hd3]; exact e2, e3⟩
  have K11 : Hid (∀ W' u, Sl W'.heap.size 3 W' u (ints (fsL d P s (d + 1))) → Below W.heap.size W W' → Calls Tryz.prog 17 #[u] W' fun e w' => ∃ u, e = .returned u ∧ (Sl w'.heap.size 3 w' u (ints (eoL d (fun i => (fsL d P s (d + 1)).getD i 0))) ∧ Below W'.heap.size W' w')) := fun W' u hu hB => (ehrhartOf_any W'.heap.size d (fsL d P s (d + 1)) u W' hu (fsL_len _ _ _ _) hd3 hbd).mono fun e w' ⟨u, e1, e2, e3⟩ => ⟨u, e1, e2, e3⟩
  have K12 : Hid (∀ W', Below W.heap.size W W' → Calls Tryz.prog 18 #[.agg #[.int .i64 d, .slice (some ⟨b, o, none⟩) vl cap]] W' fun e w' => ∃ u, e = .returned (.tuple #[u, .int .i64 0]) ∧ (Sl w'.heap.size 3 w' u (ints (dpL d P s)) ∧ Below W'.heap.size W' w')) := fun W' hB => (delta_any d P s _ W' (HM.out W' hB) h hs hm hF).mono fun e w' ⟨u, e1, e2, e3⟩ => ⟨u, e1, e2, e3⟩
  have K13 : Hid (∀ W', Below W.heap.size W W' → Calls Tryz.prog 19 #[.agg #[.int .i64 d, .slice (some ⟨b, o, none⟩) vl cap]] W' fun e w' => ∃ u, e = .returned (.tuple #[u, .int .i64 0]) ∧ (Sl w'.heap.size 3 w' u (ints (eoL d (fun i => (fsL d P s (d + 1)).getD i 0))) ∧ Below W'.heap.size W' w')) := fun W' hB => (ehrhart_any d P s (fun i => flN ((d : Int) - (i : Int)) d) _ W' (HM.out W' hB) h hs hm hF (fun i p hi _ => flN_small hd3 i p hi) (fallOk hd3)).mono fun e w' ⟨u, e1, e2, e3⟩ => ⟨u, e1, by
      rw [dpL_eq hd1 hd3, ehr_eq hd1 hd3] at e2
      exact e2, e3⟩
  generalize plA k d P s d [] = z1 at *
  generalize plI k d P s d [] = z2 at *
  generalize eoL d (fun i => (fsL d P s (d + 1)).getD i 0) = lE at *
  generalize fsL d P s (d + 1) = lF at *
  generalize dpL d P s = lD at *
  have HN2 : Hid (∀ W', Calls Tryz.prog 13 #[.int .i64 (if k < 1 then 0 else z2), .int .i64 (if k < 1 then 9 else 0), .int .i64 z2, .int .i64 (if k < 1 then 9 else 0)] W' fun x w' => x = .returned (.bool true) ∧ w' = W') := fun W' => num_true _ _ _ _ W' rfl (fun q => by
      by_cases hk1 : k < 1
      · rw [if_pos hk1]
      · rw [if_neg hk1] at q; exact absurd rfl q) (fun q => by
      by_cases hk1 : k < 1
      · rw [if_pos hk1] at q; exact absurd q (by decide)
      · rw [if_neg hk1])
  generalize (if k < 1 then (0 : Int) else z2) = y1 at *
  generalize (if k < 1 then (9 : Int) else 0) = y2 at *
  clear hv hvW hbw hsW hbd hF h hs hm c0 c1
  have HB0 : Hid (Below W.heap.size W W) := Below.refl _ _
  have c0 := (HC.out W HB0.out).1
  have c1 := (HC.out W HB0.out).2
  go_enter Tryz.func5, Tryz.ntmps5
  go_wp2_with fail
  rw [← hW, ← hgd]
  clear hW hgd
  refine K1.out.mono ?_
  rintro e w0 ⟨q, rfl, rfl⟩
  clear K1
  cases q
  case true =>
    go_wp2
    go_ret
    exact ⟨rfl, HW.out _ HB0.out⟩
  case false =>
    go_wp2_with fail
    refine (K2.out k w0 hk HB0.out).mono ?_
    rintro e w1 ⟨q, rfl, hb1⟩
    have HB1 : Hid (Below w0.heap.size w0 w1) := hb1
    have e0 := (HC.out w1 hb1).1
    have e1 := (HC.out w1 hb1).2
    clear hb1 c0 c1
    cases q
    case false =>
      go_wp2
      go_ret
      exact ⟨rfl, HW.out _ HB1.out⟩
    case true =>
      go_wp2_with fail
      refine (K3.out w1 HB1.out).mono ?_
      rintro e w2 ⟨rfl, hb2⟩
      have HB2 : Hid (Below w0.heap.size w0 w2) := hb2
      have c0 := (HC.out w2 hb2).1
      have c1 := (HC.out w2 hb2).2
      clear hb2 e0 e1
      go_wp2_with fail
      refine (K4.out w2 HB2.out).mono ?_
      rintro e w3 ⟨rfl, hb3⟩
      have HB3 : Hid (Below w0.heap.size w0 w3) := hb3
      have e0 := (HC.out w3 hb3).1
      have e1 := (HC.out w3 hb3).2
      clear hb3 c0 c1
      go_wp2_with fail
      refine (K5.out w3 HB3.out).mono ?_
      rintro e w4 ⟨rfl, hb4⟩
      have HB4 : Hid (Below w0.heap.size w0 w4) := hb4
      have c0 := (HC.out w4 hb4).1
      have c1 := (HC.out w4 hb4).2
      clear hb4 e0 e1
      go_wp2_with fail
      refine (K6.out w4 HB4.out).mono ?_
      rintro e w5 ⟨rfl, hb5⟩
      have HB5 : Hid (Below w0.heap.size w0 w5) := hb5
      have e0 := (HC.out w5 hb5).1
      have e1 := (HC.out w5 hb5).2
      clear hb5 c0 c1
      go_wp2_with fail
      refine (K7.out w5 HB5.out).mono ?_
      rintro e w6 ⟨rfl, hb6⟩
      have HB6 : Hid (Below w0.heap.size w0 w6) := hb6
      have c0 := (HC.out w6 hb6).1
      have c1 := (HC.out w6 hb6).2
      clear hb6 e0 e1
      go_wp2_with fail
      refine (num_true z1 0 z1 0 w6 rfl (fun h => absurd rfl h) (fun _ => rfl)).mono ?_
      rintro e w7 ⟨rfl, rfl⟩
      go_wp2_with fail
      refine (HN2.out w7).mono ?_
      rintro e w8 ⟨rfl, rfl⟩
      go_wp2_with fail
      refine (K8.out w8 HB6.out).mono ?_
      rintro e w9 ⟨rfl, hb9⟩
      have HB9 : Hid (Below w0.heap.size w0 w9) := hb9
      have e0 := (HC.out w9 hb9).1
      have e1 := (HC.out w9 hb9).2
      clear hb9 c0 c1
      go_wp2_with fail
      refine (K2.out d w9 (by omega) HB9.out).mono ?_
      rintro e w10 ⟨q, rfl, hb10⟩
      have HB10 : Hid (Below w0.heap.size w0 w10) := hb10
      have c0 := (HC.out w10 hb10).1
      have c1 := (HC.out w10 hb10).2
      clear hb10 e0 e1
      cases q
      case false =>
        go_wp2
        go_ret
        exact ⟨rfl, HW.out _ HB10.out⟩
      case true =>
        go_wp2_with fail
        refine (K9.out w10 HB10.out).mono ?_
        rintro e w11 ⟨uo, ul, uc, rfl, hu11, hb11⟩
        have HU11 : Hid (Sl w11.heap.size 3 w11 (.slice uo ul uc) (ints lF)) := hu11
        have HB11 : Hid (Below w0.heap.size w0 w11) := hb11
        clear hu11 hb11 c0 c1
        go_wp2_with fail
        refine (K10.out w11 _ HU11.out HB11.out).mono ?_
        rintro e w12 ⟨dv, rfl, hd12, hb12⟩
        have HD12 : Hid (Sl w12.heap.size 3 w12 dv (ints lD)) := hd12
        have HB12 : Hid (Below w0.heap.size w0 w12) := HB11.out.trans (hb12.mono HB11.out.size)
        have HU12 : Hid (Sl w12.heap.size 3 w12 (.slice uo ul uc) (ints lF)) := (HU11.out.below hb12 (Nat.le_refl _)).any (Nat.le_refl _)
        clear hd12 hb12
        go_wp2_with fail
        refine (K11.out w12 _ HU12.out HB12.out).mono ?_
        rintro e w13 ⟨ev, rfl, hd13, hb13⟩
        have HE13 : Hid (Sl w13.heap.size 3 w13 ev (ints lE)) := hd13
        have HD13 : Hid (Sl w13.heap.size 3 w13 dv (ints lD)) := (HD12.out.below hb13 (Nat.le_refl _)).any (Nat.le_refl _)
        have HB13 : Hid (Below w0.heap.size w0 w13) := HB12.out.trans (hb13.mono HB12.out.size)
        have e0 := (HC.out w13 HB13.out).1
        have e1 := (HC.out w13 HB13.out).2
        clear hd13 hb13
        go_wp2_with fail
        refine (K12.out w13 HB13.out).mono ?_
        rintro e w14 ⟨xv, rfl, hx14, hb14⟩
        have HX14 : Hid (Sl w14.heap.size 3 w14 xv (ints lD)) := hx14
        have HE14 : Hid (Sl w14.heap.size 3 w14 ev (ints lE)) := (HE13.out.below hb14 (Nat.le_refl _)).any (Nat.le_refl _)
        have HD14 : Hid (Sl w14.heap.size 3 w14 dv (ints lD)) := (HD13.out.below hb14 (Nat.le_refl _)).any (Nat.le_refl _)
        have HB14 : Hid (Below w0.heap.size w0 w14) := HB13.out.trans (hb14.mono HB13.out.size)
        have c0 := (HC.out w14 HB14.out).1
        have c1 := (HC.out w14 HB14.out).2
        clear hx14 hb14 e0 e1
        go_wp2_with fail
        refine (K13.out w14 HB14.out).mono ?_
        rintro e w15 ⟨yv, rfl, hy15, hb15⟩
        have HY15 : Hid (Sl w15.heap.size 3 w15 yv (ints lE)) := hy15
        have HX15 : Hid (Sl w15.heap.size 3 w15 xv (ints lD)) := (HX14.out.below hb15 (Nat.le_refl _)).any (Nat.le_refl _)
        have HE15 : Hid (Sl w15.heap.size 3 w15 ev (ints lE)) := (HE14.out.below hb15 (Nat.le_refl _)).any (Nat.le_refl _)
        have HD15 : Hid (Sl w15.heap.size 3 w15 dv (ints lD)) := (HD14.out.below hb15 (Nat.le_refl _)).any (Nat.le_refl _)
        have HB15 : Hid (Below w0.heap.size w0 w15) := HB14.out.trans (hb15.mono HB14.out.size)
        clear hy15 hb15 c0 c1
        go_wp2_with fail
        refine (list_same w15.heap.size lD xv dv w15 HX15.out HD15.out).mono ?_
        rintro e w16 ⟨rfl, hb16⟩
        have HB16 : Hid (Below w0.heap.size w0 w16) := HB15.out.trans (hb16.mono HB15.out.size)
        have HY16 : Hid (Sl w16.heap.size 3 w16 yv (ints lE)) := (HY15.out.below hb16 (Nat.le_refl _)).any (Nat.le_refl _)
        have HE16 : Hid (Sl w16.heap.size 3 w16 ev (ints lE)) := (HE15.out.below hb16 (Nat.le_refl _)).any (Nat.le_refl _)
        clear hb16
        go_wp2_with fail
        refine (list_same w16.heap.size lE yv ev w16 HY16.out HE16.out).mono ?_
        rintro e w17 ⟨rfl, hb17⟩
        have HB17 : Hid (Below w0.heap.size w0 w17) := HB16.out.trans (hb17.mono HB16.out.size)
        clear hb17
        go_wp2
        go_ret
        exact ⟨rfl, HW.out _ HB17.out⟩

end Go.Proofs.YtobcdcmmeabecaaGreat

/- The law CountMade: the walk. -/
namespace Go.Proofs.YtobcdcmmeabecaaGreat
open Go.RowKit
attribute [local go_sem ↓] Go.wp_at_zero Go.wp_at_succ

theorem poly_box3 {n wd : Nat} {m : List (List Int)} (hm : Box n wd m) (hw : wd ≤ 3) : Box n 3 (polyL n m) := by
  intro r hr
  simp only [polyL, List.mem_append, List.mem_singleton, List.mem_map, List.mem_range] at hr
  rcases hr with (hr | rfl) | ⟨k, hk, rfl⟩
  · refine ⟨(hm r hr).1, fun z hz => ?_⟩
    have := (hm r hr).2 z hz
    omega
  · refine ⟨by simp [zerosL], fun z hz => ?_⟩
    simp only [zerosL, List.mem_map] at hz
    obtain ⟨_, _, rfl⟩ := hz
    omega
  · refine ⟨by simp [spk], fun z hz => ?_⟩
    simp only [spk, List.mem_map] at hz
    obtain ⟨j, _, rfl⟩ := hz
    have := Nat.mod_lt k (show 0 < 2 by decide)
    split <;> omega

set_option maxRecDepth 100000 in
set_option maxHeartbeats 1600000 in
theorem countMade_any (B : Nat) (raw : List Int) (d0 m0 a0 k0 : Int) (v : Value) (w : World) (hv : Sl B 3 w v (ints raw)) (hr : ∀ z ∈ raw, In64 z) (hd : In64 d0) (hm : In64 m0) (ha : In64 a0) (hk0 : In64 k0) :
    Calls Tryz.prog 3 #[v, .int .i64 d0, .int .i64 m0, .int .i64 a0, .int .i64 k0] w fun e w' => e = .returned (.bool true) ∧ Below w.heap.size w w' := by
  obtain ⟨ao, cap, hvv, hlc, hcm⟩ := sl_open hv
  subst hvv
  have HV : Hid (Sl B 3 w (.slice ao raw.length cap) (ints raw)) := hv
  have HRR : Hid (∀ z ∈ raw, In64 z) := hr
  have HD : Hid (In64 d0) := hd
  have HMM : Hid (In64 m0) := hm
  have HAA : Hid (In64 a0) := ha
  have HKK : Hid (In64 k0) := hk0
  clear hv hr hd hm ha hk0
  by_cases h1 : 256 < raw.length
  · have b1 : decide ((256 : Int) < (raw.length : Int)) = true := decide_eq_true (by omega)
    go_enter Tryz.func3, Tryz.ntmps3
    go_wp2
    go_ret
    exact ⟨rfl, Below.refl _ _⟩
  · have b1 : decide ((256 : Int) < (raw.length : Int)) = false := decide_eq_false (by omega)
    have HRL : Hid (raw.length ≤ 1000000) := by
      show _ ≤ _
      omega
    clear h1
    go_enter Tryz.func3, Tryz.ntmps3
    go_wp2_with fail
    refine (pick_any d0 3 w (by omega) (by omega) HD.out).mono ?_
    rintro e w1 ⟨z, rfl, hz, rfl⟩
    obtain ⟨n, hn⟩ : ∃ n : Nat, (n : Int) = 1 + z := ⟨(1 + z).toNat, by omega⟩
    have hz1' := hz.1
    have hz2' := hz.2
    have HN : Hid ((n : Int) = 1 + z) := hn
    have hn1 : 1 ≤ n := by omega
    have hn3 : n ≤ 3 := by omega
    clear hz hn
    go_wp2_with fail
    rw [← HN.out]
    refine (pick_any m0 4 w1 (by omega) (by omega) HMM.out).mono ?_
    rintro e w2 ⟨y, rfl, hy, rfl⟩
    obtain ⟨k, hk⟩ : ∃ k : Nat, (k : Int) = y := ⟨y.toNat, by omega⟩
    have hk3 : k ≤ 3 := by omega
    subst hk
    clear hy hz1' hz2' HN
    go_wp2_with fail
    refine (pick_any a0 3 w2 (by omega) (by omega) HAA.out).mono ?_
    rintro e w3 ⟨y2, rfl, hy2, rfl⟩
    obtain ⟨wd, hwd⟩ : ∃ wd : Nat, (wd : Int) = 1 + y2 := ⟨(1 + y2).toNat, by omega⟩
    have hy1' := hy2.1
    have hy2' := hy2.2
    have HWD : Hid ((wd : Int) = 1 + y2) := hwd
    have hwd3 : wd ≤ 3 := by omega
    clear hy2 hwd
    go_wp2_with fail
    rw [← HWD.out]
    refine (polytopeOf_any B raw _ n k wd w3 HV.out HRR.out HRL.out hn1 (by omega) (by omega) (by omega)).mono ?_
    rintro e w4 ⟨x, m, rfl, hml, hbx, hmat, hb4⟩
    have hsml : Sml n (polyL n m) := ⟨poly_good hn1 (by omega) hbx (by omega) (by omega), poly_box3 hbx hwd3, hn3, by rw [poly_len]; omega⟩
    have HSM : Hid (Sml n (polyL n m)) := hsml
    have HMT : Hid (Mat w4.heap.size 22 3 w4 x (polyL n m)) := hmat
    have HB4 : Hid (Below w3.heap.size w3 w4) := hb4
    clear hml hbx hmat hb4 hsml hy1' hy2' HWD
    go_wp2_with fail
    refine (pick_any k0 5 w4 (by omega) (by omega) HKK.out).mono ?_
    rintro e w5 ⟨y3, rfl, hy3, rfl⟩
    obtain ⟨q, hq⟩ : ∃ q : Nat, (q : Int) = y3 := ⟨y3.toNat, by omega⟩
    have hq4 : q ≤ 4 := by omega
    subst hq
    clear hy3
    go_wp2_with fail
    refine (countSays_ok n q (polyL n m) x w5 HMT.out HSM.out hq4).mono ?_
    rintro e w6 ⟨rfl, hb6⟩
    have HB6 : Hid (Below w3.heap.size w3 w6) := HB4.out.trans (hb6.mono HB4.out.size)
    clear hb6
    go_wp2
    go_ret
    exact ⟨rfl, HB6.out⟩

end Go.Proofs.YtobcdcmmeabecaaGreat
