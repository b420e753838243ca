/- The law, for a polytope that is good: rows, corners and places are the document's. -/
import Derived.Test.YtfecllakhfpbaaaGreatHmk
import Derived.Test.YtfecllakhfpbaaaGreatWhA
import Derived.Test.YtfecllakhfpbaaaGreatHmF
namespace Go.Proofs.YtfecllakhfpbaaaGreat
open Go.RowKit
attribute [local go_sem ↓] Go.wp_at_zero Go.wp_at_succ

theorem rows_equalW {d : Nat} {P P' s rows : List (List Int)} (hg : Good d P) (hP : Inor P' P) (hr : Inw rows (rowsC P' [] d P')) (hs : SAsc s) (hm : ∀ r, r ∈ s ↔ r ∈ rowsD P d) : rows = s := by
  refine sasc_ext rows s hr.asc hs fun r => ?_
  rw [hr.mem r, hm r, mem_rowsD]
  exact rows_same hg hP.mem r

theorem corners_equalW {d : Nat} {P P' s rows c : List (List Int)} (hg : Good d P) (hP : Inor P' P) (hr : Inw rows (rowsC P' [] d P')) (hm : ∀ r, r ∈ s ↔ r ∈ rowsD P d) (hc : SAsc c) (hcm : ∀ y, y ∈ c ↔ y ∈ crn d s P) :
    (P'.filter fun x => !twin rows P' x) = c := by
  refine sasc_ext _ c (List.Pairwise.filter _ hP.asc) hc fun y => ?_
  rw [hcm y]
  unfold crn
  rw [List.mem_filter, List.mem_filter, hP.mem y]
  refine and_congr_right fun hy => ?_
  have hrl : ∀ r ∈ rows, r.length = d + 1 := fun r hr' => (rowsC_fit hg.box hg.d1 (by have := hg.d4; omega) hP.mem ((hr.mem r).1 hr')).len
  have h1 := twin_iff (d := d) (m := rows) (P := P') (x := y) hrl (fun z hz => (hg.box z ((hP.mem z).1 hz)).1) (hg.box y hy).1
  have h2 := corner_iff hg hP.mem hy
  have h3 := corner_rank hg hP.mem hm hy
  simp only [Bool.not_eq_true', decide_eq_true_eq]
  rw [h1, h3, ← h2]
  constructor
  · intro h z hz hne
    obtain ⟨r, hr1, hr2⟩ := h z ((hP.mem z).2 hz) hne
    exact ⟨r, (hr.mem r).1 hr1, hr2⟩
  · intro h z hz hne
    obtain ⟨r, hr1, hr2⟩ := h z ((hP.mem z).1 hz) hne
    exact ⟨r, (hr.mem r).2 hr1, hr2⟩

set_option maxRecDepth 100000 in
theorem pointMay_ok (B d : Nat) (x : List Int) (v u : Value) (w : World) (hu : Sl B 3 w u (ints x)) (hx : x.length = d) (hn : (x.any (farB · 100)) = false) (hvs : ∃ vo vl vc, v = .slice vo vl vc) :
    Calls Tryz.prog 16 #[.agg #[.int .i64 d, v], u] w fun e w' => e = .returned (.int .i64 0) ∧ Below w.heap.size w w' := by
  obtain ⟨vo, vl, vc, rfl⟩ := hvs
  obtain ⟨uo, uc, huu, _, _⟩ := sl_open hu
  rw [hx] at huu
  subst huu
  obtain ⟨W, hW⟩ : ∃ W, W = w.alloc (.cells #[.int .i64 d, .slice vo vl vc] 26) := ⟨_, rfl⟩
  have hbw : Below w.heap.size w W := by rw [hW]; exact alloc_keep _ _
  have HW : Hid (Below w.heap.size w W) := hbw
  have c0 : W.cell? ⟨w.heap.size, 0, none⟩ = some (.int .i64 d) := by rw [hW]; simp
  have HF : Hid (Calls Tryz.prog 21 #[.slice uo d uc, .int .i64 100] W fun e w' => e = .returned (.bool false) ∧ w' = W) := by
    have h := farAny_any B x (.slice uo d uc) 100 W (hu.below hbw (Nat.le_refl _)) (by decide) (by decide)
    rw [hn] at h
    exact h
  clear hu hx hn hbw
  go_enter Tryz.func16, Tryz.ntmps16
  go_wp2_with fail
  rw [← hW]
  clear hW
  refine HF.out.mono ?_
  rintro e w2 ⟨rfl, rfl⟩
  go_wp2
  go_ret
  exact ⟨rfl, HW.out⟩

set_option maxRecDepth 100000 in
set_option maxHeartbeats 1600000 in
theorem hullSays_ok (d : Nat) (P : List (List Int)) (x : List Int) (v u : Value) (w : World) (hv : Mat w.heap.size 22 3 w v P) (hu : Sl w.heap.size 3 w u (ints x)) (hg : Good d P) (hbx : Box d 6 P) (h16 : P.length ≤ 16) (hx : x.length = d) (hxb : ∀ z ∈ x, z.natAbs ≤ 100) :
    Calls Tryz.prog 6 #[.agg #[.int .i64 d, v], u] w fun e w' => e = .returned (.bool true) ∧ Below w.heap.size w w' := by
  obtain ⟨b, o, cap, r1, hvv, hlc, _, _⟩ := mat_cell hv (k := 0) (by have := hg.n2; omega)
  obtain ⟨vl, hvl⟩ : ∃ vl, vl = P.length := ⟨_, rfl⟩
  rw [← hvl] at hvv
  clear hvl
  subst hvv
  obtain ⟨uo, uc, huu, _, _⟩ := sl_open hu
  rw [hx] at huu
  subst huu
  have HG : Hid (Good d P) := hg
  have HBX : Hid (Box d 6 P) := hbx
  have h1 := hg.d1
  have h4 := hg.d4
  have h2 := hg.n2
  have HFAR : Hid ((x.any (farB · 100)) = false) := by
    show _ = _
    rw [List.any_eq_false]
    intro z hz
    have := hxb z hz
    simp only [farB, Bool.or_eq_true, decide_eq_true_eq, not_or]
    omega
  have HXL : Hid (x.length = d ∧ ∀ z ∈ x, z.natAbs ≤ 1000) := ⟨hx, fun z hz => by have := hxb z hz; omega⟩
  obtain ⟨W, hW⟩ : ∃ W, W = w.alloc (.cells #[.int .i64 d, .slice (some ⟨b, o, none⟩) vl cap] 26) := ⟨_, rfl⟩
  have hbw : Below w.heap.size w W := by rw [hW]; exact alloc_keep _ _
  have HW : Hid (Below w.heap.size w W) := hbw
  have hsW : W.heap.size = w.heap.size + 1 := by rw [hW]; exact size_alloc _ _
  obtain ⟨g, hgd⟩ : ∃ g, g = w.heap.size := ⟨_, rfl⟩
  have c0 : W.cell? ⟨g, 0, none⟩ = some (.int .i64 d) := by rw [hgd, hW]; simp
  have c1 : W.cell? ⟨g, 1, none⟩ = some (.slice (some ⟨b, o, none⟩) vl cap) := by rw [hgd, hW]; simp
  have hvW : Mat W.heap.size 22 3 W (.slice (some ⟨b, o, none⟩) vl cap) P := (hv.below hbw (Nat.le_refl _)).any (Nat.le_refl _)
  have huW : Sl W.heap.size 3 W (.slice uo d uc) (ints x) := (hu.below hbw (Nat.le_refl _)).any (Nat.le_refl _)
  have HC : Hid (∀ W', Below W.heap.size W W' → W'.cell? ⟨g, 0, none⟩ = some (.int .i64 d) ∧ W'.cell? ⟨g, 1, none⟩ = some (.slice (some ⟨b, o, none⟩) vl cap)) := fun W' h => ⟨(h.cell (lt_of_cell c0)).trans c0, (h.cell (lt_of_cell c1)).trans c1⟩
  have HVW : Hid (∀ W', Below W.heap.size W W' → Mat W'.heap.size 22 3 W' (.slice (some ⟨b, o, none⟩) vl cap) P) := fun W' h => (hvW.below h (Nat.le_refl _)).any (Nat.le_refl _)
  have HUW : Hid (∀ W', Below W.heap.size W W' → Sl W'.heap.size 3 W' (.slice uo d uc) (ints x)) := fun W' h => (huW.below h (Nat.le_refl _)).any (Nat.le_refl _)
  -- the calls, at any world behind
  have K1 : Hid (Calls Tryz.prog 8 #[.slice (some ⟨b, o, none⟩) vl cap] W fun e w' => ∃ q, e = .returned (.bool q) ∧ w' = W) := (heavy_any W.heap.size P _ W hvW).mono fun e w' ⟨q, h1, _, h3⟩ => ⟨q, h1, h3⟩
  have K2 : Hid (∀ W', Below W.heap.size W W' → Calls Tryz.prog 9 #[.agg #[.int .i64 d, .slice (some ⟨b, o, none⟩) vl cap]] W' fun e w' => e = .returned (.int .i64 0) ∧ Below W.heap.size W w') := fun W' h => (hullMay_ok d P _ W' (HVW.out W' h) HG.out).mono fun e w' ⟨e1, e2⟩ => ⟨e1, h.trans (e2.mono h.size)⟩
  have K3 : Hid (∀ W', Below W.heap.size W W' → Calls Tryz.prog 10 #[.slice (some ⟨b, o, none⟩) vl cap] W' fun e w' => ∃ y s, e = .returned y ∧ (Mat w'.heap.size 22 3 w' y s ∧ SAsc s ∧ (∀ r, r ∈ s ↔ r ∈ rowsD P d) ∧ Below W'.heap.size W' w')) := fun W' h => (rowsOf_any W'.heap.size d P _ W' (HVW.out W' h) h1 h4 (by omega) h16 (box_up HBX.out)).mono fun e w' ⟨y, s, e1, e2, e3, e4, e5⟩ => ⟨y, s, e1, e2.rws.mat e5.size, e3, e4, e5⟩
  have K4 : Hid (∀ W', Below W.heap.size W W' → Calls Tryz.prog 11 #[.slice (some ⟨b, o, none⟩) vl cap] W' fun e w' => ∃ y c s, e = .returned y ∧ (Mat w'.heap.size 22 3 w' y c ∧ SAsc c ∧ (∀ r, r ∈ s ↔ r ∈ rowsD P d) ∧ (∀ y, y ∈ c ↔ y ∈ crn d s P) ∧ Below W'.heap.size W' w')) := fun W' h => (cornersOf_any W'.heap.size d P _ W' (HVW.out W' h) h1 h4 (by omega) h16 HBX.out).mono fun e w' ⟨y, c, s, e1, e2, e3, _, e4, e5, e6⟩ => ⟨y, c, s, e1, e2.rws.mat e6.size, e3, e4, e5, e6⟩
  have K5 : Hid (∀ W', Below W.heap.size W W' → Calls Tryz.prog 12 #[.agg #[.int .i64 d, .slice (some ⟨b, o, none⟩) vl cap]] W' fun e w' => ∃ y r, e = .returned (.tuple #[y, .int .i64 0]) ∧ (Mat w'.heap.size 22 3 w' y r ∧ (∀ s, SAsc s → (∀ r, r ∈ s ↔ r ∈ rowsD P d) → r = s) ∧ Below W'.heap.size W' w')) := fun W' h => (rowsK_ok d P _ W' (HVW.out W' h) HG.out).mono fun e w' ⟨P', y, r, e1, e2, e3, e4, e5⟩ => ⟨y, r, e3, e4, fun s h1 h2 => rows_equalW HG.out e1 e2 h1 h2, e5⟩
  have K6 : Hid (∀ W', Below W.heap.size W W' → Calls Tryz.prog 13 #[.agg #[.int .i64 d, .slice (some ⟨b, o, none⟩) vl cap]] W' fun e w' => ∃ y r, e = .returned (.tuple #[y, .int .i64 0]) ∧ (Mat w'.heap.size 22 3 w' y r ∧ (∀ c s, SAsc c → (∀ r, r ∈ s ↔ r ∈ rowsD P d) → (∀ y, y ∈ c ↔ y ∈ crn d s P) → r = c) ∧ Below W'.heap.size W' w')) := fun W' h => (cornersK_ok d P _ W' (HVW.out W' h) HG.out).mono fun e w' ⟨P', y, r, e1, e2, e3, e4, e5⟩ => ⟨y, _, e3, e4, fun c s h1 h2 h3 => corners_equalW HG.out e1 e2 h2 h1 h3, e5⟩
  have K7 : Hid (∀ W', Below W.heap.size W W' → Calls Tryz.prog 14 #[.agg #[.int .i64 d, .slice (some ⟨b, o, none⟩) vl cap]] W' fun e w' => e = .returned (.int .i64 0) ∧ Below W'.heap.size W' w') := fun W' h => hullCheckK d P _ W' (HVW.out W' h) HG.out
  have K8 : Hid (∀ W', Below W.heap.size W W' → Calls Tryz.prog 16 #[.agg #[.int .i64 d, .slice (some ⟨b, o, none⟩) vl cap], .slice uo d uc] W' fun e w' => e = .returned (.int .i64 0) ∧ Below W.heap.size W w') := fun W' h => (pointMay_ok W'.heap.size d x _ _ W' (HUW.out W' h) HXL.out.1 HFAR.out ⟨_, _, _, rfl⟩).mono fun e w' ⟨e1, e2⟩ => ⟨e1, h.trans (e2.mono h.size)⟩
  have K9 : Hid (∀ W', Below W.heap.size W W' → Calls Tryz.prog 17 #[.slice (some ⟨b, o, none⟩) vl cap, .slice uo d uc] W' fun e w' => e = .returned (.int .i64 (whL (rowsD P d) x)) ∧ Below W.heap.size W w') := fun W' h => (whereIs_any W'.heap.size d P x _ _ W' (HVW.out W' h) (HUW.out W' h) h1 h4 (by omega) h16 (box_up HBX.out) HXL.out.1 HXL.out.2 (fun r hr => rowsD_last (box_up HBX.out) h1 (by omega) hr)).mono fun e w' ⟨e1, e2⟩ => ⟨e1, h.trans (e2.mono h.size)⟩
  have K10 : Hid (∀ W', Below W.heap.size W W' → Calls Tryz.prog 18 #[.agg #[.int .i64 d, .slice (some ⟨b, o, none⟩) vl cap], .slice uo d uc] W' fun e w' => e = .returned (.tuple #[.int .i64 (whL (rowsD P d) x), .int .i64 0]) ∧ Below W.heap.size W w') := fun W' h => (whereK_ok d P x _ _ W' (HVW.out W' h) (HUW.out W' h) HG.out HXL.out.1 HFAR.out (fun P' hP' r hr => by
      have := rowsC_fit HG.out.box HG.out.d1 (by omega) hP' hr
      exact ⟨this.len, this.bd⟩)).mono fun e w' ⟨P', rows, e1, e2, e3, e4⟩ => ⟨by
        rw [e3, whr_whL, whL_same (t := rowsD P d) (fun r => by rw [e2 r, mem_rowsD]; exact rows_same HG.out e1 r) x], h.trans (e4.mono h.size)⟩
  obtain ⟨z, hz⟩ : ∃ z, z = whL (rowsD P d) x := ⟨_, rfl⟩
  rw [← hz] at K9 K10
  clear hz hv hu hg hbx hvW huW hbw hx hxb h2 h16
  go_enter Tryz.func6, Tryz.ntmps6
  go_wp2_with fail
  rw [← hW, ← hgd]
  clear hW
  have HGD : Hid (g = w.heap.size) := hgd
  clear hgd
  refine K1.out.mono ?_
  rintro e w0 ⟨q, rfl, rfl⟩
  clear K1
  have hdI : decide ((300 : Int) < (d : Int)) = false := by simp; omega
  have hdN : decide (300 < d) = false := by simp; omega
  cases q
  case true =>
    go_wp2
    go_ret
    exact ⟨rfl, HW.out⟩
  case false =>
    have HB0 : Hid (Below w0.heap.size w0 w0) := Below.refl _ _
    go_wp2_with fail
    refine (K2.out _ HB0.out).mono ?_
    rintro e w1 ⟨rfl, hb1⟩
    have HB1 : Hid (Below w0.heap.size w0 w1) := hb1
    have c2 := (HC.out w1 hb1).1
    have c3 := (HC.out w1 hb1).2
    clear hb1 c0 c1
    go_wp2_with fail
    refine (K3.out _ HB1.out).mono ?_
    rintro e w2 ⟨sv, s, rfl, hs⟩
    have HS : Hid (Mat w2.heap.size 22 3 w2 sv s ∧ SAsc s ∧ (∀ r, r ∈ s ↔ r ∈ rowsD P d) ∧ Below w1.heap.size w1 w2) := hs
    have HB2 : Hid (Below w0.heap.size w0 w2) := HB1.out.trans (hs.2.2.2.mono HB1.out.size)
    have c4 := (HC.out w2 HB2.out).1
    have c5 := (HC.out w2 HB2.out).2
    clear hs c2 c3
    go_wp2_with fail
    refine (K4.out _ HB2.out).mono ?_
    rintro e w3 ⟨cv, c, s2, rfl, hc⟩
    have HCC : Hid (Mat w3.heap.size 22 3 w3 cv c ∧ SAsc c ∧ (∀ r, r ∈ s2 ↔ r ∈ rowsD P d) ∧ (∀ y, y ∈ c ↔ y ∈ crn d s2 P) ∧ Below w2.heap.size w2 w3) := hc
    have HB3 : Hid (Below w0.heap.size w0 w3) := HB2.out.trans (hc.2.2.2.2.mono HB2.out.size)
    have c6 := (HC.out w3 HB3.out).1
    have c7 := (HC.out w3 HB3.out).2
    clear hc c4 c5
    go_wp2_with fail
    refine (K5.out _ HB3.out).mono ?_
    rintro e w4 ⟨av, a, rfl, ha⟩
    have HA : Hid (Mat w4.heap.size 22 3 w4 av a ∧ (∀ s, SAsc s → (∀ r, r ∈ s ↔ r ∈ rowsD P d) → a = s) ∧ Below w3.heap.size w3 w4) := ha
    have HB4 : Hid (Below w0.heap.size w0 w4) := HB3.out.trans (ha.2.2.mono HB3.out.size)
    have c8 := (HC.out w4 HB4.out).1
    have c9 := (HC.out w4 HB4.out).2
    clear ha c6 c7
    go_wp2_with fail
    refine (K6.out _ HB4.out).mono ?_
    rintro e w5 ⟨bv, bb, rfl, hbb⟩
    have HBB : Hid (Mat w5.heap.size 22 3 w5 bv bb ∧ (∀ c s, SAsc c → (∀ r, r ∈ s ↔ r ∈ rowsD P d) → (∀ y, y ∈ c ↔ y ∈ crn d s P) → bb = c) ∧ Below w4.heap.size w4 w5) := hbb
    have HB5 : Hid (Below w0.heap.size w0 w5) := HB4.out.trans (hbb.2.2.mono HB4.out.size)
    have c10 := (HC.out w5 HB5.out).1
    have c11 := (HC.out w5 HB5.out).2
    clear hbb c8 c9
    have L1 : Hid (∀ W', Below w5.heap.size w5 W' → Calls Tryz.prog 15 #[av, .int .i64 0, sv, .int .i64 0] W' fun e w' => e = .returned (.bool true) ∧ Below w5.heap.size w5 w') := fun W' h => by
      have e1 : a = s := HA.out.2.1 s HS.out.2.1 HS.out.2.2.1
      have m1 := ((HA.out.1.below HBB.out.2.2 (Nat.le_refl _)).below h (Nat.le_refl _)).any (Nat.le_refl W'.heap.size)
      have m2 := ((((HS.out.1.below HCC.out.2.2.2.2 (Nat.le_refl _)).below HA.out.2.2 (Nat.le_refl _)).below HBB.out.2.2 (Nat.le_refl _)).below h (Nat.le_refl _)).any (Nat.le_refl W'.heap.size)
      rw [e1] at m1
      exact (lists_same W'.heap.size s av sv W' m1 m2).mono fun e w' ⟨q1, q2⟩ => ⟨q1, h.trans (q2.mono h.size)⟩
    have L2 : Hid (∀ W', Below w5.heap.size w5 W' → Calls Tryz.prog 15 #[bv, .int .i64 0, cv, .int .i64 0] W' fun e w' => e = .returned (.bool true) ∧ Below w5.heap.size w5 w') := fun W' h => by
      have e1 : bb = c := HBB.out.2.1 c s2 HCC.out.2.1 HCC.out.2.2.1 HCC.out.2.2.2.1
      have m1 := (HBB.out.1.below h (Nat.le_refl _)).any (Nat.le_refl W'.heap.size)
      have m2 := (((HCC.out.1.below HA.out.2.2 (Nat.le_refl _)).below HBB.out.2.2 (Nat.le_refl _)).below h (Nat.le_refl _)).any (Nat.le_refl W'.heap.size)
      rw [e1] at m1
      exact (lists_same W'.heap.size c bv cv W' m1 m2).mono fun e w' ⟨q1, q2⟩ => ⟨q1, h.trans (q2.mono h.size)⟩
    clear HS HCC HA HBB
    go_wp2_with fail
    refine (K7.out _ HB5.out).mono ?_
    rintro e w6 ⟨rfl, hb6⟩
    have HB6 : Hid (Below w5.heap.size w5 w6) := hb6
    clear hb6 c10 c11
    go_wp2_with fail
    refine (L1.out _ HB6.out).mono ?_
    rintro e w7 ⟨rfl, hb7⟩
    have HB7 : Hid (Below w5.heap.size w5 w7) := hb7
    clear hb7
    go_wp2_with fail
    refine (L2.out _ HB7.out).mono ?_
    rintro e w8 ⟨rfl, hb8⟩
    have HB8 : Hid (Below w0.heap.size w0 w8) := HB5.out.trans (hb8.mono HB5.out.size)
    have d0 := (HC.out w8 HB8.out).1
    have d1 := (HC.out w8 HB8.out).2
    clear hb8
    go_wp2_with fail
    refine (K8.out _ HB8.out).mono ?_
    rintro e w9 ⟨rfl, hb9⟩
    have HB9 : Hid (Below w0.heap.size w0 w9) := hb9
    have d2 := (HC.out w9 hb9).1
    have d3 := (HC.out w9 hb9).2
    clear hb9 d0 d1
    go_wp2_with fail
    refine (K9.out _ HB9.out).mono ?_
    rintro e w10 ⟨rfl, hb10⟩
    have HB10 : Hid (Below w0.heap.size w0 w10) := hb10
    have d4 := (HC.out w10 hb10).1
    have d5 := (HC.out w10 hb10).2
    clear hb10 d2 d3
    go_wp2_with fail
    refine (K10.out _ HB10.out).mono ?_
    rintro e w11 ⟨rfl, hb11⟩
    have HB11 : Hid (Below w.heap.size w w11) := HW.out.trans (hb11.mono (by omega))
    clear hb11 d4 d5
    go_wp2_with fail
    refine (num_true z 0 z 0 w11 rfl (fun h => absurd rfl h) (fun _ => rfl)).mono ?_
    rintro e w12 ⟨rfl, rfl⟩
    go_wp2
    go_ret
    exact ⟨rfl, HB11.out⟩

end Go.Proofs.YtfecllakhfpbaaaGreat
