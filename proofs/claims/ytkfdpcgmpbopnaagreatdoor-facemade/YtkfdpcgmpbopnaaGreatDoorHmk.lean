/- hull.Rows and hull.Corners, by package wrap. -/
import Derived.Test.YtkfdpcgmpbopnaaGreatDoorHmz
import Derived.Test.YtkfdpcgmpbopnaaGreatDoorWr11
import Derived.Test.YtkfdpcgmpbopnaaGreatDoorWhk
namespace Go.Proofs.YtkfdpcgmpbopnaaGreatDoor
open Go.RowKit Lin
attribute [local go_sem ↓] Go.wp_at_zero Go.wp_at_succ

set_option maxRecDepth 100000 in
set_option maxHeartbeats 800000 in
theorem wrapCorners_any (d : Nat) (P : List (List Int)) (v : Value) (w : World) (hv : Mat w.heap.size 22 3 w v P) (hg : Good d P) :
    Calls Tryz.prog 68 #[v] w fun e w' => ∃ u P' rows, e = .returned u ∧ Fr w.heap.size 22 3 w' u (P'.filter fun x => !twin rows P' x) ∧ Inor P' P ∧ Inw rows (rowsC P' [] d P') ∧ Below w.heap.size w w' := by
  obtain ⟨po, pc, rfl, hlc, hcm⟩ := mat_open hv
  have HG : Hid (Good d P) := hg
  have h4 := hg.d4
  have HDS : Hid (Calls Tryz.prog 87 #[.slice po P.length pc] w fun e w' => ∃ xo xl xc P', e = .returned (.slice xo xl xc) ∧ (Mat 0 22 3 w' (.slice xo xl xc) P' ∧ Inor P' P ∧ Below w.heap.size w w')) := by
    refine (distinct_any w.heap.size P _ w hv (by have := hg.n24; omega) (fun r hr => by rw [(hg.box r hr).1]; have := hg.d4; omega)).mono ?_
    rintro e w' ⟨y, P', rfl, hf, hin, hb⟩
    have hM : Mat 0 22 3 w' y P' := by
      obtain ⟨vs, f1, f2, f3⟩ := hf
      exact ⟨vs, f1, Sl.own f2, f3⟩
    obtain ⟨yo, yc, hyv, _, _⟩ := mat_open hM
    subst hyv
    exact ⟨yo, _, yc, P', rfl, hM, hin, hb⟩
  have HRA : Hid (∀ w' xo xl xc P', Mat 0 22 3 w' (.slice xo xl xc) P' → Inor P' P → Below w.heap.size w w' → Calls Tryz.prog 86 #[.slice xo xl xc] w' fun e w'' => ∃ yo yl yc rows, e = .returned (.slice yo yl yc) ∧ (Mat w''.heap.size 22 3 w'' (.slice yo yl yc) rows ∧ Mat 0 22 3 w'' (.slice xo xl xc) P' ∧ Inw rows (rowsC P' [] d P') ∧ Below w.heap.size w w'')) := fun w' xo xl xc P' hM hin hb => by
    refine (wrapAround_any d P' _ w' (hM.more (Nat.zero_le _)) (good_of HG.out hin.mem hin.len) hin.asc).mono ?_
    rintro e w'' ⟨y, rows, rfl, hf, hin2, hb2⟩
    have hM2 : Mat w''.heap.size 22 3 w'' y rows := hf.rws.mat hb2.size
    obtain ⟨yo, yc, hyv, _, _⟩ := mat_open hM2
    subst hyv
    exact ⟨yo, _, yc, rows, rfl, hM2, hM.below hb2 (Nat.le_refl _), hin2, hb.trans (hb2.mono hb.size)⟩
  have HCO : Hid (∀ w' xv yv P' rows, Mat 0 22 3 w' xv P' → Mat w'.heap.size 22 3 w' yv rows → Inor P' P → Inw rows (rowsC P' [] d P') → Below w.heap.size w w' → Calls Tryz.prog 88 #[xv, yv] w' fun e w'' => ∃ u, e = .returned u ∧ (Fr w.heap.size 22 3 w'' u (P'.filter fun x => !twin rows P' x) ∧ Below w.heap.size w w'')) := fun w' xv yv P' rows hM hR hin hin2 hb => by
    refine (cornersZ_any w'.heap.size rows P' xv yv w' hM hR (by have := hin.len; have := HG.out.n24; omega) fun x hx r hr y hy => ?_).mono ?_
    · have hrow := rowsC_fit HG.out.box HG.out.d1 (by omega) hin.mem ((hin2.mem r).1 hr)
      have hxP := (hin.mem x).1 hx
      have hyP := (hin.mem y).1 hy
      have s1 := sm_of hrow h4 (HG.out.box x hxP).1 (box_small HG.out.box hxP)
      have s2 := sm_of hrow h4 (HG.out.box y hyP).1 (box_small HG.out.box hyP)
      exact ⟨s1.1, s2.1, s1.2, s2.2⟩
    · rintro e w'' ⟨u, rfl, h1, h2⟩
      exact ⟨u, rfl, h1.mono hb.size, hb.trans (h2.mono hb.size)⟩
  clear hv hg
  go_enter Tryz.func68, Tryz.ntmps68
  go_wp2_with fail
  refine HDS.out.mono ?_
  rintro e w3 ⟨xo, xl, xc, P', rfl, hx⟩
  have HX3 : Hid (Mat 0 22 3 w3 (.slice xo xl xc) P' ∧ Inor P' P ∧ Below w.heap.size w w3) := hx
  clear hx HDS
  go_wp2_with fail
  refine (HRA.out w3 xo xl xc P' HX3.out.1 HX3.out.2.1 HX3.out.2.2).mono ?_
  rintro e w4 ⟨yo, yl, yc, rows, rfl, hy⟩
  have HY4 : Hid (Mat w4.heap.size 22 3 w4 (.slice yo yl yc) rows ∧ Mat 0 22 3 w4 (.slice xo xl xc) P' ∧ Inw rows (rowsC P' [] d P') ∧ Below w.heap.size w w4) := hy
  clear hy
  go_wp2_with fail
  refine (HCO.out w4 _ _ P' rows HY4.out.2.1 HY4.out.1 HX3.out.2.1 HY4.out.2.2.1 HY4.out.2.2.2).mono ?_
  rintro e w5 ⟨u, rfl, hu⟩
  have HU5 : Hid (Fr w.heap.size 22 3 w5 u (P'.filter fun x => !twin rows P' x) ∧ Below w.heap.size w w5) := hu
  clear hu
  go_wp2
  go_ret
  exact ⟨u, P', rows, rfl, HU5.out.1, HX3.out.2.1, HY4.out.2.2.1, HU5.out.2⟩

set_option maxRecDepth 100000 in
set_option maxHeartbeats 800000 in
theorem cornersK_fr (d : Nat) (P : List (List Int)) (v : Value) (w : World) (hv : Mat w.heap.size 22 3 w v P) (hg : Good d P) :
    Calls Tryz.prog 48 #[.agg #[.int .i64 d, v]] w fun e w' => ∃ P' u rows, Inor P' P ∧ Inw rows (rowsC P' [] d P') ∧ e = .returned (.tuple #[u, .int .i64 0]) ∧ Fr w.heap.size 22 3 w' u (P'.filter fun x => !twin rows P' x) ∧ Below w.heap.size w w' := by
  obtain ⟨b, o, cap, r1, hvv, hlc, _, _⟩ := mat_cell hv (k := 0) (by have := hg.n2; omega)
  subst hvv
  have HG : Hid (Good d P) := hg
  obtain ⟨W, hW⟩ : ∃ W, W = w.alloc (.cells #[.int .i64 d, .slice (some ⟨b, o, none⟩) P.length cap] 27) := ⟨_, rfl⟩
  have hbw : Below w.heap.size w W := by rw [hW]; exact alloc_keep _ _
  have HW : Hid (Below w.heap.size w W) := hbw
  have HV : Hid (Mat w.heap.size 22 3 W (.slice (some ⟨b, o, none⟩) P.length cap) P) := hv.below hbw (Nat.le_refl _)
  have hsW : W.heap.size = w.heap.size + 1 := by rw [hW]; exact size_alloc _ _
  have c0 : W.cell? ⟨w.heap.size, 0, none⟩ = some (.int .i64 d) := by rw [hW]; simp
  have c1 : W.cell? ⟨w.heap.size, 1, none⟩ = some (.slice (some ⟨b, o, none⟩) P.length cap) := by rw [hW]; simp
  have HC : Hid (∀ W', Below W.heap.size W W' → W'.cell? ⟨w.heap.size, 0, none⟩ = some (.int .i64 d) ∧ W'.cell? ⟨w.heap.size, 1, none⟩ = some (.slice (some ⟨b, o, none⟩) P.length cap)) := fun W' h => ⟨(h.cell (lt_of_cell c0)).trans c0, (h.cell (lt_of_cell c1)).trans c1⟩
  clear hv hg hbw
  go_enter Tryz.func48, Tryz.ntmps48
  go_wp2_with fail
  rw [← hW]
  clear hW
  refine (hullCheckK d P _ W (HV.out.any (by omega)) HG.out).mono ?_
  rintro e w2 ⟨rfl, hb12⟩
  have HB2 : Hid (Below W.heap.size W w2) := hb12
  have e2 := (HC.out w2 hb12).1
  have e3 := (HC.out w2 hb12).2
  clear hb12
  go_wp2_with fail
  refine (wrapCorners_any d P _ w2 ((HV.out.below HB2.out (Nat.le_refl _)).any (by have := HB2.out.size; omega)) HG.out).mono ?_
  rintro e w5 ⟨u, P', rows, rfl, q1, q2, q3, q4⟩
  have HU5 : Hid (Fr w2.heap.size 22 3 w5 u (P'.filter fun x => !twin rows P' x) ∧ Inor P' P ∧ Inw rows (rowsC P' [] d P') ∧ Below W.heap.size W w5) := ⟨q1, q2, q3, HB2.out.trans (q4.mono HB2.out.size)⟩
  clear q1 q2 q3 q4
  go_wp2
  go_ret2
  exact ⟨P', u, rows, HU5.out.2.1, HU5.out.2.2.1, rfl, HU5.out.1.mono (by have := HB2.out.size; omega), HW.out.trans (HU5.out.2.2.2.mono (by omega))⟩

set_option maxRecDepth 100000 in
set_option maxHeartbeats 800000 in
theorem rowsK_fr (d : Nat) (P : List (List Int)) (v : Value) (w : World) (hv : Mat w.heap.size 22 3 w v P) (hg : Good d P) :
    Calls Tryz.prog 47 #[.agg #[.int .i64 d, v]] w fun e w' => ∃ P' u rows, Inor P' P ∧ Inw rows (rowsC P' [] d P') ∧ e = .returned (.tuple #[u, .int .i64 0]) ∧ Fr w.heap.size 22 3 w' u rows ∧ Below w.heap.size w w' := by
  obtain ⟨b, o, cap, r1, hvv, hlc, _, _⟩ := mat_cell hv (k := 0) (by have := hg.n2; omega)
  subst hvv
  have HG : Hid (Good d P) := hg
  obtain ⟨W, hW⟩ : ∃ W, W = w.alloc (.cells #[.int .i64 d, .slice (some ⟨b, o, none⟩) P.length cap] 27) := ⟨_, rfl⟩
  have hbw : Below w.heap.size w W := by rw [hW]; exact alloc_keep _ _
  have HW : Hid (Below w.heap.size w W) := hbw
  have HV : Hid (Mat w.heap.size 22 3 W (.slice (some ⟨b, o, none⟩) P.length cap) P) := hv.below hbw (Nat.le_refl _)
  have hsW : W.heap.size = w.heap.size + 1 := by rw [hW]; exact size_alloc _ _
  have c0 : W.cell? ⟨w.heap.size, 0, none⟩ = some (.int .i64 d) := by rw [hW]; simp
  have c1 : W.cell? ⟨w.heap.size, 1, none⟩ = some (.slice (some ⟨b, o, none⟩) P.length cap) := by rw [hW]; simp
  have HC : Hid (∀ W', Below W.heap.size W W' → W'.cell? ⟨w.heap.size, 0, none⟩ = some (.int .i64 d) ∧ W'.cell? ⟨w.heap.size, 1, none⟩ = some (.slice (some ⟨b, o, none⟩) P.length cap)) := fun W' h => ⟨(h.cell (lt_of_cell c0)).trans c0, (h.cell (lt_of_cell c1)).trans c1⟩
  clear hv hg hbw
  go_enter Tryz.func47, Tryz.ntmps47
  go_wp2_with fail
  rw [← hW]
  clear hW
  refine (hullCheckK d P _ W (HV.out.any (by omega)) HG.out).mono ?_
  rintro e w2 ⟨rfl, hb12⟩
  have HB2 : Hid (Below W.heap.size W w2) := hb12
  have e2 := (HC.out w2 hb12).1
  have e3 := (HC.out w2 hb12).2
  clear hb12
  go_wp2_with fail
  refine (wrapRows_any d P _ w2 ((HV.out.below HB2.out (Nat.le_refl _)).any (by have := HB2.out.size; omega)) HG.out).mono ?_
  rintro e w5 ⟨u, P', rows, rfl, q1, q2, q3, q4⟩
  have HU5 : Hid (Fr w2.heap.size 22 3 w5 u rows ∧ Inor P' P ∧ Inw rows (rowsC P' [] d P') ∧ Below W.heap.size W w5) := ⟨q1, q2, q3, HB2.out.trans (q4.mono HB2.out.size)⟩
  clear q1 q2 q3 q4
  go_wp2
  go_ret2
  exact ⟨P', u, rows, HU5.out.2.1, HU5.out.2.2.1, rfl, HU5.out.1.mono (by have := HB2.out.size; omega), HW.out.trans (HU5.out.2.2.2.mono (by omega))⟩

/-- The corners of points, as any world behind reads them. -/
theorem cornersK_ok (d : Nat) (P : List (List Int)) (v : Value) (w : World) (hv : Mat w.heap.size 22 3 w v P) (hg : Good d P) :
    Calls Tryz.prog 48 #[.agg #[.int .i64 d, v]] w fun e w' => ∃ P' u rows, Inor P' P ∧ Inw rows (rowsC P' [] d P') ∧ e = .returned (.tuple #[u, .int .i64 0]) ∧ Mat w'.heap.size 22 3 w' u (P'.filter fun x => !twin rows P' x) ∧ Below w.heap.size w w' :=
  (cornersK_fr d P v w hv hg).mono fun _ _ ⟨P', u, rows, h1, h2, h3, h4, h5⟩ => ⟨P', u, rows, h1, h2, h3, h4.rws.mat h5.size, h5⟩

theorem rowsK_ok (d : Nat) (P : List (List Int)) (v : Value) (w : World) (hv : Mat w.heap.size 22 3 w v P) (hg : Good d P) :
    Calls Tryz.prog 47 #[.agg #[.int .i64 d, v]] w fun e w' => ∃ P' u rows, Inor P' P ∧ Inw rows (rowsC P' [] d P') ∧ e = .returned (.tuple #[u, .int .i64 0]) ∧ Mat w'.heap.size 22 3 w' u rows ∧ Below w.heap.size w w' :=
  (rowsK_fr d P v w hv hg).mono fun _ _ ⟨P', u, rows, h1, h2, h3, h4, h5⟩ => ⟨P', u, rows, h1, h2, h3, h4.rws.mat h5.size, h5⟩

end Go.Proofs.YtkfdpcgmpbopnaaGreatDoor
