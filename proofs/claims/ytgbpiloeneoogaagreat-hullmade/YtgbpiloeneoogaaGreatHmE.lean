import Derived.Test.YtgbpiloeneoogaaGreatWhrAll
import Derived.Test.YtgbpiloeneoogaaGreatHmB
import Derived.Test.YtgbpiloeneoogaaGreatReads
import Derived.Test.YtgbpiloeneoogaaGreatRefA
import Derived.Test.YtgbpiloeneoogaaGreatHmD
/- The document's answer: a polytope that may be. -/
namespace Go.Proofs.YtgbpiloeneoogaaGreat
open Go.RowKit
attribute [local go_sem ↓] Go.wp_at_zero Go.wp_at_succ

set_option maxRecDepth 100000 in
set_option maxHeartbeats 1600000 in
theorem hullMay_ok (d : Nat) (P : List (List Int)) (v : Value) (w : World) (hv : Mat w.heap.size 22 3 w v P) (hg : Good d P) :
    Calls Tryz.prog 9 #[.agg #[.int .i64 d, v]] w fun e w' => e = .returned (.int .i64 0) ∧ Below w.heap.size w w' := by
  obtain ⟨b, o, cap, r1, hvv, hlc, _, _⟩ := mat_cell hv (k := 0) (by have := hg.n2; omega)
  subst hvv
  have HG : Hid (Good d P) := hg
  have h1 := hg.d1
  have h4 := hg.d4
  have h2 := hg.n2
  have h24 := hg.n24
  obtain ⟨W, hW⟩ : ∃ W, W = w.alloc (.cells #[.int .i64 d, .slice (some ⟨b, o, none⟩) P.length cap] 26) := ⟨_, rfl⟩
  have hbw : Below w.heap.size w W := by rw [hW]; exact alloc_keep _ _
  have HW : Hid (Below w.heap.size w W) := hbw
  have HV : Hid (Mat w.heap.size 22 3 W (.slice (some ⟨b, o, none⟩) P.length cap) P) := hv.below hbw (Nat.le_refl _)
  have hsW : W.heap.size = w.heap.size + 1 := by rw [hW]; exact size_alloc _ _
  have c0 : W.cell? ⟨w.heap.size, 0, none⟩ = some (.int .i64 d) := by rw [hW]; simp
  have c1 : W.cell? ⟨w.heap.size, 1, none⟩ = some (.slice (some ⟨b, o, none⟩) P.length cap) := by rw [hW]; simp
  have HC : Hid (∀ W', Below W.heap.size W W' → W'.cell? ⟨w.heap.size, 0, none⟩ = some (.int .i64 d) ∧ W'.cell? ⟨w.heap.size, 1, none⟩ = some (.slice (some ⟨b, o, none⟩) P.length cap)) := fun W' h => ⟨(h.cell (lt_of_cell c0)).trans c0, (h.cell (lt_of_cell c1)).trans c1⟩
  clear hv hg hbw
  have t1 : decide ((d : Int) < 1) = false := by simp; omega
  have t2 : decide ((4 : Int) < (d : Int)) = false := by simp; omega
  have t3 : decide ((P.length : Int) < 1) = false := by simp; omega
  have t4 : decide ((24 : Int) < (P.length : Int)) = false := by simp; omega
  go_enter Tryz.func9, Tryz.ntmps9
  go_wp2
  rw [← hW]
  clear hW
  go_loopw [3] (fun i wr => ∃ k : Nat, k ≤ P.length ∧ i = .int .i64 k ∧ Below W.heap.size W wr) (fun i _ => P.length - (intOf i).toNat)
  case atStart => exact ⟨0, Nat.zero_le _, rfl, Below.refl _ _⟩
  case round =>
    obtain ⟨k, hk, rfl, hbel⟩ := hrel
    obtain ⟨wa, rfl⟩ : ∃ wa, wa = wr := ⟨wr, rfl⟩
    have HB : Hid (Below W.heap.size W wa) := hbel
    have e0 := (HC.out wa hbel).1
    have e1 := (HC.out wa hbel).2
    clear hbel
    by_cases hlt : k < P.length
    · obtain ⟨b2, o2, cp2, rk, hs, hc1, hcc, hrk⟩ := mat_cell (HV.out.below HB.out (Nat.le_refl _)) hlt
      simp only [Value.slice.injEq, Option.some.injEq, Addr.mk.injEq, and_true, true_and] at hs
      obtain ⟨⟨rfl, rfl⟩, rfl⟩ := hs
      obtain ⟨ro, rc, hrv, _, _⟩ := sl_open hrk
      have hmem : P.getD k [] ∈ P := by simp [hlt]
      rw [(HG.out.box _ hmem).1] at hrv
      subst hrv
      have HRK : Hid (Sl w.heap.size 3 wa (.slice ro d rc) (ints (P.getD k []))) := hrk
      have HN : Hid (((P.getD k []).any (farB · 100)) = false) := box_near HG.out.box (by decide) hmem
      clear hrk hmem
      generalize P.getD k [] = q at *
      have hdd : ((d : Int) != (d : Int)) = false := by simp
      have hkI : (k : Int) < (P.length : Int) := by omega
      have hkI0 : (0 : Int) ≤ (k : Int) := by omega
      go_wp2
      go_quiet (fail)
      obtain ⟨W9, hW9⟩ : ∃ W9, W9 = wa.drewN nq := ⟨_, rfl⟩
      rw [← hW9]
      have f0 : W9.cell? ⟨w.heap.size, 0, none⟩ = some (.int .i64 d) := by rw [hW9]; exact e0
      have f1 : W9.cell? ⟨w.heap.size, 1, none⟩ = some (.slice (some ⟨b, o, none⟩) P.length cap) := by rw [hW9]; exact e1
      have f2 : W9.cell? ⟨b, o + k, none⟩ = some (.slice ro d rc) := by rw [hW9]; exact hcc
      have HR9 : Hid (Sl w.heap.size 3 W9 (.slice ro d rc) (ints q)) := by rw [hW9]; exact HRK.out.drewN nq
      have HB9 : Hid (Below W.heap.size W W9) := by rw [hW9]; exact HB.out.trans ⟨rfl, rfl, rfl, Nat.le_refl _, fun _ _ => rfl⟩
      clear hW9 e0 e1 hcc
      go_wp2_with fail
      refine (farAny_any w.heap.size q _ 100 W9 HR9.out (by omega) (by omega)).mono ?_
      rintro e w2 ⟨rfl, rfl⟩
      rw [HN.out]
      go_wp2
      go_roundw
      case rel => exact ⟨k + 1, by omega, by go_num, HB9.out⟩
      case measure => simp [intOf]; omega
    · have HRW : Hid (∀ r ∈ P, r.length = d) := fun r hr => (HG.out.box r hr).1
      have HRB : Hid (∀ r ∈ P, ∀ z ∈ r, z.natAbs ≤ 1000000) := fun r hr z hz => by have := box_small HG.out.box hr z hz; omega
      have HVr : Hid (Mat w.heap.size 22 3 wa (.slice (some ⟨b, o, none⟩) P.length cap) P) := HV.out.below HB.out (Nat.le_refl _)
      have HDF : Hid (Calls Tryz.prog 23 #[.slice (some ⟨b, o, none⟩) P.length cap] wa.drew fun e w' => ∃ xo xl xc, e = .returned (.slice xo xl xc) ∧ (Mat w'.heap.size 22 3 w' (.slice xo xl xc) (diffL P) ∧ Below W.heap.size W w')) := by
        refine (from_any w.heap.size d P _ wa.drew (HVr.out.drewN 1) (by omega) (by omega) (by omega) HRW.out HRB.out).mono ?_
        rintro e w' ⟨x, rfl, hx, hb⟩
        have hM : Mat w'.heap.size 22 3 w' x (diffL P) := hx.rws.mat hb.size
        obtain ⟨xo, xc, hxv, _, _⟩ := mat_open hM
        subst hxv
        exact ⟨xo, _, xc, rfl, hM, HB.out.drew.trans (hb.mono HB.out.size)⟩
      have HRK : Hid (∀ w' xo xl xc, Mat w'.heap.size 22 3 w' (.slice xo xl xc) (diffL P) → Below W.heap.size W w' → Calls Tryz.prog 22 #[.slice xo xl xc] w' fun e w'' => e = .returned (.int .i64 d) ∧ Below W.heap.size W w'') := fun w' xo xl xc hM hb => by
        have hmx := diff_mx HG.out.box h1 (show d ≤ 5 by omega)
        refine (rankR_any d 60 w'.heap.size (diffL P) _ w' hmx hM (by rw [diffL_length]; omega)).mono ?_
        rintro e w'' ⟨rfl, hb2⟩
        exact ⟨by rw [HG.out.full], hb.trans (hb2.mono hb.size)⟩
      have hdd : decide ((d : Int) < (d : Int)) = false := by simp
      have hkF : decide ((k : Int) < (P.length : Int)) = false := by simp; omega
      go_wp2
      go_region_law (first
        | (refine step_call (o := { dst := some 46, op := _, type := _, pos := _, after := _, guard := _ }) (by rfl) 23 _ 24 (by rfl) _ (by rfl) ⟨_, Tryz.func23, by rfl, by rfl⟩ ?_; refine (HDF.out).mono ?_; rintro e w2 ⟨xo, xl, xc, rfl, hx⟩; refine ⟨_, rfl, ?_⟩; have HX2 : Hid (Mat w2.heap.size 22 3 w2 (.slice xo xl xc) (diffL P) ∧ Below W.heap.size W w2) := hx; have f0 := (HC.out w2 hx.2).1; clear hx)
        | (refine step_call (o := { dst := some 47, op := _, type := _, pos := _, after := _, guard := _ }) (by rfl) 22 _ 24 (by rfl) _ (by rfl) ⟨_, Tryz.func22, by rfl, by rfl⟩ ?_; refine (HRK.out w2 xo xl xc HX2.out.1 HX2.out.2).mono ?_; rintro e w3 ⟨rfl, hb3⟩; refine ⟨_, rfl, ?_⟩; have HB3 : Hid (Below W.heap.size W w3) := hb3; have g0 := (HC.out w3 hb3).1; clear hb3))
      all_goals
        go_wp2
        go_ret
        exact ⟨rfl, HW.out.trans (HB3.out.mono HW.out.size)⟩

end Go.Proofs.YtgbpiloeneoogaaGreat

/- What the laws don't look at, and how they hold two numbers against each other. -/
namespace Go.Proofs.YtgbpiloeneoogaaGreat
open Go.RowKit
attribute [local go_sem ↓] Go.wp_at_zero Go.wp_at_succ

set_option maxRecDepth 100000 in
set_option maxHeartbeats 800000 in
theorem heavy_any (B : Nat) (m : List (List Int)) (v : Value) (w : World) (hv : Mat B 22 3 w v m) :
    Calls Tryz.prog 8 #[v] w fun e w' => ∃ b, e = .returned (.bool b) ∧ (b = false → m.length ≤ 300) ∧ w' = w := by
  obtain ⟨ao, cap, hvv, hlc, hcm⟩ := mat_open hv
  subst hvv
  have HV : Hid (Mat B 22 3 w (.slice ao m.length cap) m) := hv
  clear hv
  by_cases h1 : 300 < m.length
  · have b1 : decide ((300 : Int) < (m.length : Int)) = true := decide_eq_true (by omega)
    go_enter Tryz.func8, Tryz.ntmps8
    go_wp2
    go_ret
    exact ⟨true, rfl, (fun h => absurd h (by decide)), rfl⟩
  · have b1 : decide ((300 : Int) < (m.length : Int)) = false := decide_eq_false (by omega)
    have HL : Hid (m.length ≤ 300) := by show _ ≤ _; omega
    go_enter Tryz.func8, Tryz.ntmps8
    go_wp2
    go_loopw [3, 4] (fun n i wr => ∃ t s : Nat, t ≤ m.length ∧ s ≤ 300 * t ∧ n = .int .i64 s ∧ i = .int .i64 t ∧ wr = w) (fun _ i _ => m.length - (intOf i).toNat)
    case atStart => exact ⟨0, 0, Nat.zero_le _, Nat.le_refl _, rfl, rfl, rfl⟩
    case round =>
      obtain ⟨t, s, ht, hs, rfl, rfl, rfl⟩ := hrel
      by_cases htn : t < m.length
      · obtain ⟨b, o, cp, u, hs, _, hcc, hu⟩ := mat_cell HV.out htn
        simp only [Value.slice.injEq, true_and] at hs
        obtain ⟨rfl, rfl⟩ := hs
        obtain ⟨uo, uc, hue, hul, hum⟩ := sl_open hu
        subst hue
        generalize (m.getD t []).length = l at *
        clear hu
        by_cases hl : 300 < l
        · have b2 : decide ((300 : Int) < (l : Int)) = true := decide_eq_true (by omega)
          go_wp2
          go_ret
          exact ⟨true, rfl, (fun h => absurd h (by decide)), rfl⟩
        · have b2 : decide ((300 : Int) < (l : Int)) = false := decide_eq_false (by omega)
          go_wp2
          go_roundw
          case rel => exact ⟨t + 1, s + l, by omega, by omega, by go_num, by go_num, trivial⟩
          case measure => simp [intOf]; omega
      · go_wp2
        go_ret
        exact ⟨_, rfl, fun _ => HL.out, rfl⟩

set_option maxRecDepth 100000 in
theorem num_true (a e b f : Int) (w : World) (he : e = f) (h1 : f ≠ 0 → a = 0) (h2 : f = 0 → a = b) :
    Calls Tryz.prog 19 #[.int .i64 a, .int .i64 e, .int .i64 b, .int .i64 f] w fun x w' => x = .returned (.bool true) ∧ w' = w := by
  subst he
  by_cases h0 : e = 0
  · have ha := h2 h0
    subst h0 ha
    clear h1 h2
    go_enter Tryz.func19, Tryz.ntmps19
    go_wp2
    go_ret
    exact ⟨ret_bool (by simp), rfl⟩
  · have ha := h1 h0
    subst ha
    have hb : (e != 0) = true := by simp [h0]
    clear h1 h2
    go_enter Tryz.func19, Tryz.ntmps19
    go_wp2
    go_ret
    exact ⟨ret_bool (by simp), rfl⟩

end Go.Proofs.YtgbpiloeneoogaaGreat

/- The law, for a polytope that is good: rows, corners and places are the document's. -/
namespace Go.Proofs.YtgbpiloeneoogaaGreat
open Go.RowKit
attribute [local go_sem ↓] Go.wp_at_zero Go.wp_at_succ

set_option maxRecDepth 100000 in
theorem pointMay_ok (B d : Nat) (x : List Int) (v u : Value) (w : World) (hu : Sl B 3 w u (ints x)) (hx : x.length = d) (hn : (x.any (farB · 100)) = false) (hvs : ∃ vo vl vc, v = .slice vo vl vc) :
    Calls Tryz.prog 16 #[.agg #[.int .i64 d, v], u] w fun e w' => e = .returned (.int .i64 0) ∧ Below w.heap.size w w' := by
  obtain ⟨vo, vl, vc, rfl⟩ := hvs
  obtain ⟨uo, uc, huu, _, _⟩ := sl_open hu
  rw [hx] at huu
  subst huu
  obtain ⟨W, hW⟩ : ∃ W, W = w.alloc (.cells #[.int .i64 d, .slice vo vl vc] 26) := ⟨_, rfl⟩
  have hbw : Below w.heap.size w W := by rw [hW]; exact alloc_keep _ _
  have HW : Hid (Below w.heap.size w W) := hbw
  have c0 : W.cell? ⟨w.heap.size, 0, none⟩ = some (.int .i64 d) := by rw [hW]; simp
  have HF : Hid (Calls Tryz.prog 21 #[.slice uo d uc, .int .i64 100] W fun e w' => e = .returned (.bool false) ∧ w' = W) := by
    have h := farAny_any B x (.slice uo d uc) 100 W (hu.below hbw (Nat.le_refl _)) (by decide) (by decide)
    rw [hn] at h
    exact h
  clear hu hx hn hbw
  go_enter Tryz.func16, Tryz.ntmps16
  go_wp2_with fail
  rw [← hW]
  clear hW
  refine HF.out.mono ?_
  rintro e w2 ⟨rfl, rfl⟩
  go_wp2
  go_ret
  exact ⟨rfl, HW.out⟩

set_option maxRecDepth 100000 in
set_option maxHeartbeats 1600000 in
theorem hullSays_ok (d : Nat) (P : List (List Int)) (x : List Int) (v u : Value) (w : World) (hv : Mat w.heap.size 22 3 w v P) (hu : Sl w.heap.size 3 w u (ints x)) (hg : Good d P) (hbx : Box d 6 P) (h16 : P.length ≤ 16) (hx : x.length = d) (hxb : ∀ z ∈ x, z.natAbs ≤ 100) :
    Calls Tryz.prog 6 #[.agg #[.int .i64 d, v], u] w fun e w' => e = .returned (.bool true) ∧ Below w.heap.size w w' := by
  obtain ⟨b, o, cap, r1, hvv, hlc, _, _⟩ := mat_cell hv (k := 0) (by have := hg.n2; omega)
  obtain ⟨vl, hvl⟩ : ∃ vl, vl = P.length := ⟨_, rfl⟩
  rw [← hvl] at hvv
  clear hvl
  subst hvv
  obtain ⟨uo, uc, huu, _, _⟩ := sl_open hu
  rw [hx] at huu
  subst huu
  have HG : Hid (Good d P) := hg
  have HBX : Hid (Box d 6 P) := hbx
  have h1 := hg.d1
  have h4 := hg.d4
  have h2 := hg.n2
  have HFAR : Hid ((x.any (farB · 100)) = false) := by
    show _ = _
    rw [List.any_eq_false]
    intro z hz
    have := hxb z hz
    simp only [farB, Bool.or_eq_true, decide_eq_true_eq, not_or]
    omega
  have HXL : Hid (x.length = d ∧ ∀ z ∈ x, z.natAbs ≤ 1000) := ⟨hx, fun z hz => by have := hxb z hz; omega⟩
  obtain ⟨W, hW⟩ : ∃ W, W = w.alloc (.cells #[.int .i64 d, .slice (some ⟨b, o, none⟩) vl cap] 26) := ⟨_, rfl⟩
  have hbw : Below w.heap.size w W := by rw [hW]; exact alloc_keep _ _
  have HW : Hid (Below w.heap.size w W) := hbw
  have hsW : W.heap.size = w.heap.size + 1 := by rw [hW]; exact size_alloc _ _
  obtain ⟨g, hgd⟩ : ∃ g, g = w.heap.size := ⟨_, rfl⟩
  have c0 : W.cell? ⟨g, 0, none⟩ = some (.int .i64 d) := by rw [hgd, hW]; simp
  have c1 : W.cell? ⟨g, 1, none⟩ = some (.slice (some ⟨b, o, none⟩) vl cap) := by rw [hgd, hW]; simp
  have hvW : Mat W.heap.size 22 3 W (.slice (some ⟨b, o, none⟩) vl cap) P := (hv.below hbw (Nat.le_refl _)).any (Nat.le_refl _)
  have huW : Sl W.heap.size 3 W (.slice uo d uc) (ints x) := (hu.below hbw (Nat.le_refl _)).any (Nat.le_refl _)
  have HC : Hid (∀ W', Below W.heap.size W W' → W'.cell? ⟨g, 0, none⟩ = some (.int .i64 d) ∧ W'.cell? ⟨g, 1, none⟩ = some (.slice (some ⟨b, o, none⟩) vl cap)) := fun W' h => ⟨(h.cell (lt_of_cell c0)).trans c0, (h.cell (lt_of_cell c1)).trans c1⟩
  have HVW : Hid (∀ W', Below W.heap.size W W' → Mat W'.heap.size 22 3 W' (.slice (some ⟨b, o, none⟩) vl cap) P) := fun W' h => (hvW.below h (Nat.le_refl _)).any (Nat.le_refl _)
  have HUW : Hid (∀ W', Below W.heap.size W W' → Sl W'.heap.size 3 W' (.slice uo d uc) (ints x)) := fun W' h => (huW.below h (Nat.le_refl _)).any (Nat.le_refl _)
  -- the calls, at any world behind
  have K1 : Hid (Calls Tryz.prog 8 #[.slice (some ⟨b, o, none⟩) vl cap] W fun e w' => ∃ q, e = .returned (.bool q) ∧ w' = W) := (heavy_any W.heap.size P _ W hvW).mono fun e w' ⟨q, h1, _, h3⟩ => ⟨q, h1, h3⟩
  have K2 : Hid (∀ W', Below W.heap.size W W' → Calls Tryz.prog 9 #[.agg #[.int .i64 d, .slice (some ⟨b, o, none⟩) vl cap]] W' fun e w' => e = .returned (.int .i64 0) ∧ Below W.heap.size W w') := fun W' h => (hullMay_ok d P _ W' (HVW.out W' h) HG.out).mono fun e w' ⟨e1, e2⟩ => ⟨e1, h.trans (e2.mono h.size)⟩
  have K3 : Hid (∀ W', Below W.heap.size W W' → Calls Tryz.prog 10 #[.slice (some ⟨b, o, none⟩) vl cap] W' fun e w' => ∃ y s, e = .returned y ∧ (Mat w'.heap.size 22 3 w' y s ∧ SAsc s ∧ (∀ r, r ∈ s ↔ r ∈ rowsD P d) ∧ Below W'.heap.size W' w')) := fun W' h => (rowsOf_any W'.heap.size d P _ W' (HVW.out W' h) h1 h4 (by omega) h16 (box_up HBX.out)).mono fun e w' ⟨y, s, e1, e2, e3, e4, e5⟩ => ⟨y, s, e1, e2.rws.mat e5.size, e3, e4, e5⟩
  have K4 : Hid (∀ W', Below W.heap.size W W' → Calls Tryz.prog 11 #[.slice (some ⟨b, o, none⟩) vl cap] W' fun e w' => ∃ y c s, e = .returned y ∧ (Mat w'.heap.size 22 3 w' y c ∧ SAsc c ∧ (∀ r, r ∈ s ↔ r ∈ rowsD P d) ∧ (∀ y, y ∈ c ↔ y ∈ crn d s P) ∧ Below W'.heap.size W' w')) := fun W' h => (cornersOf_any W'.heap.size d P _ W' (HVW.out W' h) h1 h4 (by omega) h16 HBX.out).mono fun e w' ⟨y, c, s, e1, e2, e3, _, e4, e5, e6⟩ => ⟨y, c, s, e1, e2.rws.mat e6.size, e3, e4, e5, e6⟩
  have K5 : Hid (∀ W', Below W.heap.size W W' → Calls Tryz.prog 12 #[.agg #[.int .i64 d, .slice (some ⟨b, o, none⟩) vl cap]] W' fun e w' => ∃ y r, e = .returned (.tuple #[y, .int .i64 0]) ∧ (Mat w'.heap.size 22 3 w' y r ∧ (∀ s, SAsc s → (∀ r, r ∈ s ↔ r ∈ rowsD P d) → r = s) ∧ Below W'.heap.size W' w')) := fun W' h => (rows_ok d P _ W' (HVW.out W' h) HG.out).mono fun e w' ⟨P', y, r, e1, e2, e3, e4, e5⟩ => ⟨y, r, e3, e4, fun s h1 h2 => rows_equal HG.out e1 e2 h1 h2, e5⟩
  have K6 : Hid (∀ W', Below W.heap.size W W' → Calls Tryz.prog 13 #[.agg #[.int .i64 d, .slice (some ⟨b, o, none⟩) vl cap]] W' fun e w' => ∃ y r, e = .returned (.tuple #[y, .int .i64 0]) ∧ (Mat w'.heap.size 22 3 w' y r ∧ (∀ c s, SAsc c → (∀ r, r ∈ s ↔ r ∈ rowsD P d) → (∀ y, y ∈ c ↔ y ∈ crn d s P) → r = c) ∧ Below W'.heap.size W' w')) := fun W' h => (corners_ok d P _ W' (HVW.out W' h) HG.out).mono fun e w' ⟨P', y, r, e1, e2, e3, e4, e5⟩ => ⟨y, _, e3, e4, fun c s h1 h2 h3 => corners_equal HG.out e1 e2 h2 h1 h3, e5⟩
  have K7 : Hid (∀ W', Below W.heap.size W W' → Calls Tryz.prog 14 #[.agg #[.int .i64 d, .slice (some ⟨b, o, none⟩) vl cap]] W' fun e w' => e = .returned (.int .i64 0) ∧ Below W'.heap.size W' w') := fun W' h => hullCheck_ok d P _ W' (HVW.out W' h) HG.out
  have K8 : Hid (∀ W', Below W.heap.size W W' → Calls Tryz.prog 16 #[.agg #[.int .i64 d, .slice (some ⟨b, o, none⟩) vl cap], .slice uo d uc] W' fun e w' => e = .returned (.int .i64 0) ∧ Below W.heap.size W w') := fun W' h => (pointMay_ok W'.heap.size d x _ _ W' (HUW.out W' h) HXL.out.1 HFAR.out ⟨_, _, _, rfl⟩).mono fun e w' ⟨e1, e2⟩ => ⟨e1, h.trans (e2.mono h.size)⟩
  have K9 : Hid (∀ W', Below W.heap.size W W' → Calls Tryz.prog 17 #[.slice (some ⟨b, o, none⟩) vl cap, .slice uo d uc] W' fun e w' => e = .returned (.int .i64 (whL (rowsD P d) x)) ∧ Below W.heap.size W w') := fun W' h => (whereIs_any W'.heap.size d P x _ _ W' (HVW.out W' h) (HUW.out W' h) h1 h4 (by omega) h16 (box_up HBX.out) HXL.out.1 HXL.out.2 (fun r hr => rowsD_last (box_up HBX.out) h1 (by omega) hr)).mono fun e w' ⟨e1, e2⟩ => ⟨e1, h.trans (e2.mono h.size)⟩
  have K10 : Hid (∀ W', Below W.heap.size W W' → Calls Tryz.prog 18 #[.agg #[.int .i64 d, .slice (some ⟨b, o, none⟩) vl cap], .slice uo d uc] W' fun e w' => e = .returned (.tuple #[.int .i64 (whL (rowsD P d) x), .int .i64 0]) ∧ Below W.heap.size W w') := fun W' h => (where_ok d P x _ _ W' (HVW.out W' h) (HUW.out W' h) HG.out HXL.out.1 HFAR.out (fun P' hP' r hr => by
      have := rowsC_fit HG.out.box HG.out.d1 (by omega) hP' hr
      exact ⟨this.len, this.bd⟩)).mono fun e w' ⟨P', rows, e1, e2, e3, e4⟩ => ⟨by
        rw [e3, whr_whL, whL_same (t := rowsD P d) (fun r => by rw [e2 r, mem_rowsD]; exact rows_same HG.out e1 r) x], h.trans (e4.mono h.size)⟩
  obtain ⟨z, hz⟩ : ∃ z, z = whL (rowsD P d) x := ⟨_, rfl⟩
  rw [← hz] at K9 K10
  clear hz hv hu hg hbx hvW huW hbw hx hxb h2 h16
  go_enter Tryz.func6, Tryz.ntmps6
  go_wp2_with fail
  rw [← hW, ← hgd]
  clear hW
  have HGD : Hid (g = w.heap.size) := hgd
  clear hgd
  refine K1.out.mono ?_
  rintro e w0 ⟨q, rfl, rfl⟩
  clear K1
  have hdI : decide ((300 : Int) < (d : Int)) = false := by simp; omega
  have hdN : decide (300 < d) = false := by simp; omega
  cases q
  case true =>
    go_wp2
    go_ret
    exact ⟨rfl, HW.out⟩
  case false =>
    have HB0 : Hid (Below w0.heap.size w0 w0) := Below.refl _ _
    go_wp2_with fail
    refine (K2.out _ HB0.out).mono ?_
    rintro e w1 ⟨rfl, hb1⟩
    have HB1 : Hid (Below w0.heap.size w0 w1) := hb1
    have c2 := (HC.out w1 hb1).1
    have c3 := (HC.out w1 hb1).2
    clear hb1 c0 c1
    go_wp2_with fail
    refine (K3.out _ HB1.out).mono ?_
    rintro e w2 ⟨sv, s, rfl, hs⟩
    have HS : Hid (Mat w2.heap.size 22 3 w2 sv s ∧ SAsc s ∧ (∀ r, r ∈ s ↔ r ∈ rowsD P d) ∧ Below w1.heap.size w1 w2) := hs
    have HB2 : Hid (Below w0.heap.size w0 w2) := HB1.out.trans (hs.2.2.2.mono HB1.out.size)
    have c4 := (HC.out w2 HB2.out).1
    have c5 := (HC.out w2 HB2.out).2
    clear hs c2 c3
    go_wp2_with fail
    refine (K4.out _ HB2.out).mono ?_
    rintro e w3 ⟨cv, c, s2, rfl, hc⟩
    have HCC : Hid (Mat w3.heap.size 22 3 w3 cv c ∧ SAsc c ∧ (∀ r, r ∈ s2 ↔ r ∈ rowsD P d) ∧ (∀ y, y ∈ c ↔ y ∈ crn d s2 P) ∧ Below w2.heap.size w2 w3) := hc
    have HB3 : Hid (Below w0.heap.size w0 w3) := HB2.out.trans (hc.2.2.2.2.mono HB2.out.size)
    have c6 := (HC.out w3 HB3.out).1
    have c7 := (HC.out w3 HB3.out).2
    clear hc c4 c5
    go_wp2_with fail
    refine (K5.out _ HB3.out).mono ?_
    rintro e w4 ⟨av, a, rfl, ha⟩
    have HA : Hid (Mat w4.heap.size 22 3 w4 av a ∧ (∀ s, SAsc s → (∀ r, r ∈ s ↔ r ∈ rowsD P d) → a = s) ∧ Below w3.heap.size w3 w4) := ha
    have HB4 : Hid (Below w0.heap.size w0 w4) := HB3.out.trans (ha.2.2.mono HB3.out.size)
    have c8 := (HC.out w4 HB4.out).1
    have c9 := (HC.out w4 HB4.out).2
    clear ha c6 c7
    go_wp2_with fail
    refine (K6.out _ HB4.out).mono ?_
    rintro e w5 ⟨bv, bb, rfl, hbb⟩
    have HBB : Hid (Mat w5.heap.size 22 3 w5 bv bb ∧ (∀ c s, SAsc c → (∀ r, r ∈ s ↔ r ∈ rowsD P d) → (∀ y, y ∈ c ↔ y ∈ crn d s P) → bb = c) ∧ Below w4.heap.size w4 w5) := hbb
    have HB5 : Hid (Below w0.heap.size w0 w5) := HB4.out.trans (hbb.2.2.mono HB4.out.size)
    have c10 := (HC.out w5 HB5.out).1
    have c11 := (HC.out w5 HB5.out).2
    clear hbb c8 c9
    have L1 : Hid (∀ W', Below w5.heap.size w5 W' → Calls Tryz.prog 15 #[av, .int .i64 0, sv, .int .i64 0] W' fun e w' => e = .returned (.bool true) ∧ Below w5.heap.size w5 w') := fun W' h => by
      have e1 : a = s := HA.out.2.1 s HS.out.2.1 HS.out.2.2.1
      have m1 := ((HA.out.1.below HBB.out.2.2 (Nat.le_refl _)).below h (Nat.le_refl _)).any (Nat.le_refl W'.heap.size)
      have m2 := ((((HS.out.1.below HCC.out.2.2.2.2 (Nat.le_refl _)).below HA.out.2.2 (Nat.le_refl _)).below HBB.out.2.2 (Nat.le_refl _)).below h (Nat.le_refl _)).any (Nat.le_refl W'.heap.size)
      rw [e1] at m1
      exact (lists_same W'.heap.size s av sv W' m1 m2).mono fun e w' ⟨q1, q2⟩ => ⟨q1, h.trans (q2.mono h.size)⟩
    have L2 : Hid (∀ W', Below w5.heap.size w5 W' → Calls Tryz.prog 15 #[bv, .int .i64 0, cv, .int .i64 0] W' fun e w' => e = .returned (.bool true) ∧ Below w5.heap.size w5 w') := fun W' h => by
      have e1 : bb = c := HBB.out.2.1 c s2 HCC.out.2.1 HCC.out.2.2.1 HCC.out.2.2.2.1
      have m1 := (HBB.out.1.below h (Nat.le_refl _)).any (Nat.le_refl W'.heap.size)
      have m2 := (((HCC.out.1.below HA.out.2.2 (Nat.le_refl _)).below HBB.out.2.2 (Nat.le_refl _)).below h (Nat.le_refl _)).any (Nat.le_refl W'.heap.size)
      rw [e1] at m1
      exact (lists_same W'.heap.size c bv cv W' m1 m2).mono fun e w' ⟨q1, q2⟩ => ⟨q1, h.trans (q2.mono h.size)⟩
    clear HS HCC HA HBB
    go_wp2_with fail
    refine (K7.out _ HB5.out).mono ?_
    rintro e w6 ⟨rfl, hb6⟩
    have HB6 : Hid (Below w5.heap.size w5 w6) := hb6
    clear hb6 c10 c11
    go_wp2_with fail
    refine (L1.out _ HB6.out).mono ?_
    rintro e w7 ⟨rfl, hb7⟩
    have HB7 : Hid (Below w5.heap.size w5 w7) := hb7
    clear hb7
    go_wp2_with fail
    refine (L2.out _ HB7.out).mono ?_
    rintro e w8 ⟨rfl, hb8⟩
    have HB8 : Hid (Below w0.heap.size w0 w8) := HB5.out.trans (hb8.mono HB5.out.size)
    have d0 := (HC.out w8 HB8.out).1
    have d1 := (HC.out w8 HB8.out).2
    clear hb8
    go_wp2_with fail
    refine (K8.out _ HB8.out).mono ?_
    rintro e w9 ⟨rfl, hb9⟩
    have HB9 : Hid (Below w0.heap.size w0 w9) := hb9
    have d2 := (HC.out w9 hb9).1
    have d3 := (HC.out w9 hb9).2
    clear hb9 d0 d1
    go_wp2_with fail
    refine (K9.out _ HB9.out).mono ?_
    rintro e w10 ⟨rfl, hb10⟩
    have HB10 : Hid (Below w0.heap.size w0 w10) := hb10
    have d4 := (HC.out w10 hb10).1
    have d5 := (HC.out w10 hb10).2
    clear hb10 d2 d3
    go_wp2_with fail
    refine (K10.out _ HB10.out).mono ?_
    rintro e w11 ⟨rfl, hb11⟩
    have HB11 : Hid (Below w.heap.size w w11) := HW.out.trans (hb11.mono (by omega))
    clear hb11 d4 d5
    go_wp2_with fail
    refine (num_true z 0 z 0 w11 rfl (fun h => absurd rfl h) (fun _ => rfl)).mono ?_
    rintro e w12 ⟨rfl, rfl⟩
    go_wp2
    go_ret
    exact ⟨rfl, HB11.out⟩

end Go.Proofs.YtgbpiloeneoogaaGreat
