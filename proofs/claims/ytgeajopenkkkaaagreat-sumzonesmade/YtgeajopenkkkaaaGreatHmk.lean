/- hull.Rows and hull.Corners, by package wrap. -/
import Derived.Test.YtgeajopenkkkaaaGreatHmz
import Derived.Test.YtgeajopenkkkaaaGreatWr11
import Derived.Test.YtgeajopenkkkaaaGreatWhrAll
import Derived.Test.YtgeajopenkkkaaaGreatWi1
namespace Go.Proofs.YtgeajopenkkkaaaGreat
open Go.RowKit Lin
attribute [local go_sem ↓] Go.wp_at_zero Go.wp_at_succ

set_option maxRecDepth 100000 in
set_option maxHeartbeats 800000 in
theorem wrapCorners_any (d : Nat) (P : List (List Int)) (v : Value) (w : World) (hv : Mat w.heap.size 22 3 w v P) (hg : Good d P) :
    Calls Tryz.prog 27 #[v] w fun e w' => ∃ u P' rows, e = .returned u ∧ Fr w.heap.size 22 3 w' u (P'.filter fun x => !twin rows P' x) ∧ Inor P' P ∧ Inw rows (rowsC P' [] d P') ∧ Below w.heap.size w w' := by
  obtain ⟨po, pc, rfl, hlc, hcm⟩ := mat_open hv
  have HG : Hid (Good d P) := hg
  have h4 := hg.d4
  have HDS : Hid (Calls Tryz.prog 45 #[.slice po P.length pc] w fun e w' => ∃ xo xl xc P', e = .returned (.slice xo xl xc) ∧ (Mat 0 22 3 w' (.slice xo xl xc) P' ∧ Inor P' P ∧ Below w.heap.size w w')) := by
    refine (distinct_any w.heap.size P _ w hv (by have := hg.n24; omega) (fun r hr => by rw [(hg.box r hr).1]; have := hg.d4; omega)).mono ?_
    rintro e w' ⟨y, P', rfl, hf, hin, hb⟩
    have hM : Mat 0 22 3 w' y P' := by
      obtain ⟨vs, f1, f2, f3⟩ := hf
      exact ⟨vs, f1, Sl.own f2, f3⟩
    obtain ⟨yo, yc, hyv, _, _⟩ := mat_open hM
    subst hyv
    exact ⟨yo, _, yc, P', rfl, hM, hin, hb⟩
  have HRA : Hid (∀ w' xo xl xc P', Mat 0 22 3 w' (.slice xo xl xc) P' → Inor P' P → Below w.heap.size w w' → Calls Tryz.prog 47 #[.slice xo xl xc] w' fun e w'' => ∃ yo yl yc rows, e = .returned (.slice yo yl yc) ∧ (Mat w''.heap.size 22 3 w'' (.slice yo yl yc) rows ∧ Mat 0 22 3 w'' (.slice xo xl xc) P' ∧ Inw rows (rowsC P' [] d P') ∧ Below w.heap.size w w'')) := fun w' xo xl xc P' hM hin hb => by
    refine (wrapAround_any d P' _ w' (hM.more (Nat.zero_le _)) (good_of HG.out hin.mem hin.len) hin.asc).mono ?_
    rintro e w'' ⟨y, rows, rfl, hf, hin2, hb2⟩
    have hM2 : Mat w''.heap.size 22 3 w'' y rows := hf.rws.mat hb2.size
    obtain ⟨yo, yc, hyv, _, _⟩ := mat_open hM2
    subst hyv
    exact ⟨yo, _, yc, rows, rfl, hM2, hM.below hb2 (Nat.le_refl _), hin2, hb.trans (hb2.mono hb.size)⟩
  have HCO : Hid (∀ w' xv yv P' rows, Mat 0 22 3 w' xv P' → Mat w'.heap.size 22 3 w' yv rows → Inor P' P → Inw rows (rowsC P' [] d P') → Below w.heap.size w w' → Calls Tryz.prog 46 #[xv, yv] w' fun e w'' => ∃ u, e = .returned u ∧ (Fr w.heap.size 22 3 w'' u (P'.filter fun x => !twin rows P' x) ∧ Below w.heap.size w w'')) := fun w' xv yv P' rows hM hR hin hin2 hb => by
    refine (cornersZ_any w'.heap.size rows P' xv yv w' hM hR (by have := hin.len; have := HG.out.n24; omega) fun x hx r hr y hy => ?_).mono ?_
    · have hrow := rowsC_fit HG.out.box HG.out.d1 (by omega) hin.mem ((hin2.mem r).1 hr)
      have hxP := (hin.mem x).1 hx
      have hyP := (hin.mem y).1 hy
      have s1 := sm_of hrow h4 (HG.out.box x hxP).1 (box_small HG.out.box hxP)
      have s2 := sm_of hrow h4 (HG.out.box y hyP).1 (box_small HG.out.box hyP)
      exact ⟨s1.1, s2.1, s1.2, s2.2⟩
    · rintro e w'' ⟨u, rfl, h1, h2⟩
      exact ⟨u, rfl, h1.mono hb.size, hb.trans (h2.mono hb.size)⟩
  clear hv hg
  go_enter Tryz.func27, Tryz.ntmps27
  go_wp2_with fail
  refine HDS.out.mono ?_
  rintro e w3 ⟨xo, xl, xc, P', rfl, hx⟩
  have HX3 : Hid (Mat 0 22 3 w3 (.slice xo xl xc) P' ∧ Inor P' P ∧ Below w.heap.size w w3) := hx
  clear hx HDS
  go_wp2_with fail
  refine (HRA.out w3 xo xl xc P' HX3.out.1 HX3.out.2.1 HX3.out.2.2).mono ?_
  rintro e w4 ⟨yo, yl, yc, rows, rfl, hy⟩
  have HY4 : Hid (Mat w4.heap.size 22 3 w4 (.slice yo yl yc) rows ∧ Mat 0 22 3 w4 (.slice xo xl xc) P' ∧ Inw rows (rowsC P' [] d P') ∧ Below w.heap.size w w4) := hy
  clear hy
  go_wp2_with fail
  refine (HCO.out w4 _ _ P' rows HY4.out.2.1 HY4.out.1 HX3.out.2.1 HY4.out.2.2.1 HY4.out.2.2.2).mono ?_
  rintro e w5 ⟨u, rfl, hu⟩
  have HU5 : Hid (Fr w.heap.size 22 3 w5 u (P'.filter fun x => !twin rows P' x) ∧ Below w.heap.size w w5) := hu
  clear hu
  go_wp2
  go_ret
  exact ⟨u, P', rows, rfl, HU5.out.1, HX3.out.2.1, HY4.out.2.2.1, HU5.out.2⟩

end Go.Proofs.YtgeajopenkkkaaaGreat
