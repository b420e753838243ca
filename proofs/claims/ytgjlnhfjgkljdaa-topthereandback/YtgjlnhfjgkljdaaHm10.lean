/- The program: the rows of a polytope. -/
import Derived.Test.YtgjlnhfjgkljdaaWhrAll
import Derived.Test.YtgjlnhfjgkljdaaHm7
namespace Go.Proofs.Ytgjlnhfjgkljdaa
open Go.RowKit
attribute [local go_sem ↓] Go.wp_at_zero Go.wp_at_succ

set_option maxRecDepth 100000 in
set_option maxHeartbeats 800000 in
theorem rows_fr (d : Nat) (P : List (List Int)) (v : Value) (w : World) (hv : Mat w.heap.size 22 3 w v P) (hg : Good d P) :
    Calls Try.prog 6 #[.agg #[.int .i64 d, v]] w fun e w' => ∃ P' u rows, Inor P' P ∧ Inor rows (rowsC P' [] d P') ∧ e = .returned (.tuple #[u, .int .i64 0]) ∧ Mat w'.heap.size 22 3 w' u rows ∧ Below w.heap.size w w' ∧ Fr w.heap.size 22 3 w' u rows := by
  obtain ⟨b, o, cap, r1, hvv, hlc, _, _⟩ := mat_cell hv (k := 0) (by have := hg.n2; omega)
  subst hvv
  have HG : Hid (Good d P) := hg
  have h1 := hg.d1
  have h4 := hg.d4
  have h2 := hg.n2
  have h24 := hg.n24
  obtain ⟨W, hW⟩ : ∃ W, W = w.alloc (.cells #[.int .i64 d, .slice (some ⟨b, o, none⟩) P.length cap] 26) := ⟨_, rfl⟩
  have hbw : Below w.heap.size w W := by rw [hW]; exact alloc_keep _ _
  have HW : Hid (Below w.heap.size w W) := hbw
  have HV : Hid (Mat w.heap.size 22 3 W (.slice (some ⟨b, o, none⟩) P.length cap) P) := hv.below hbw (Nat.le_refl _)
  have hsW : W.heap.size = w.heap.size + 1 := by rw [hW]; exact size_alloc _ _
  have c0 : W.cell? ⟨w.heap.size, 0, none⟩ = some (.int .i64 d) := by rw [hW]; simp
  have c1 : W.cell? ⟨w.heap.size, 1, none⟩ = some (.slice (some ⟨b, o, none⟩) P.length cap) := by rw [hW]; simp
  have HC : Hid (∀ W', Below W.heap.size W W' → W'.cell? ⟨w.heap.size, 0, none⟩ = some (.int .i64 d) ∧ W'.cell? ⟨w.heap.size, 1, none⟩ = some (.slice (some ⟨b, o, none⟩) P.length cap)) := fun W' h => ⟨(h.cell (lt_of_cell c0)).trans c0, (h.cell (lt_of_cell c1)).trans c1⟩
  clear hv hg hbw
  go_enter Try.func6, Try.ntmps6
  go_wp2_with fail
  rw [← hW]
  clear hW
  refine (hullCheck_ok d P _ W (HV.out.any (by omega)) HG.out).mono ?_
  rintro e w2 ⟨rfl, hb12⟩
  have HB2 : Hid (Below W.heap.size W w2) := hb12
  have e2 := (HC.out w2 hb12).1
  have e3 := (HC.out w2 hb12).2
  clear hb12
  have HDS : Hid (Calls Try.prog 16 #[.slice (some ⟨b, o, none⟩) P.length cap] w2.drew fun e w' => ∃ xo xl xc P', e = .returned (.slice xo xl xc) ∧ (Mat w'.heap.size 22 3 w' (.slice xo xl xc) P' ∧ Inor P' P ∧ Below W.heap.size W w')) := by
    refine (distinct_any w.heap.size P _ w2.drew ((HV.out.below HB2.out (Nat.le_refl _)).drewN 1) (by omega) (fun r hr => by rw [(HG.out.box r hr).1]; omega)).mono ?_
    rintro e w' ⟨y, P', rfl, hf, hin, hb⟩
    have hM : Mat w'.heap.size 22 3 w' y P' := hf.rws.mat hb.size
    obtain ⟨yo, yc, hyv, _, _⟩ := mat_open hM
    subst hyv
    exact ⟨yo, _, yc, P', rfl, hM, hin, HB2.out.drew.trans (hb.mono HB2.out.size)⟩
  have HRA : Hid (∀ w' xo xl xc P', Mat w'.heap.size 22 3 w' (.slice xo xl xc) P' → Inor P' P → Below W.heap.size W w' → Calls Try.prog 15 #[.int .i64 d, .slice xo xl xc] w' fun e w'' => ∃ y rows, e = .returned y ∧ (Mat w''.heap.size 22 3 w'' y rows ∧ Inor rows (rowsC P' [] d P') ∧ Below W.heap.size W w'' ∧ Fr W.heap.size 22 3 w'' y rows)) := fun w' xo xl xc P' hM hin hb => by
    have hp1 : 1 ≤ P'.length := by
      have h0 : P.getD 0 [] ∈ P := by simp [show 0 < P.length by omega]
      have := List.length_pos_of_mem ((hin.mem _).2 h0)
      omega
    refine (rowsAround_any d P' _ w' hM (fun r hr => HG.out.box r ((hin.mem r).1 hr)) h1 h4 (by have := hin.len; omega) hp1).mono ?_
    rintro e w'' ⟨y, rows, rfl, hf, hin2, hb2⟩
    exact ⟨y, rows, rfl, hf.rws.mat hb2.size, hin2, hb.trans (hb2.mono hb.size), hf.mono hb.size⟩
  go_wp2
  go_region_held3 (fun w' => w'.cell? ⟨w.heap.size, 0, none⟩ = some (.int .i64 d) ∧ w'.cell? ⟨w.heap.size, 1, none⟩ = some (.slice (some ⟨b, o, none⟩) P.length cap)) (first | exact KS.out | go_keep)
    (first | (go_at_call 16; refine HDS.out.mono ?_; rintro e w3 ⟨xo, xl, xc, P', rfl, hx⟩; have HX3 : Hid (Mat w3.heap.size 22 3 w3 (.slice xo xl xc) P' ∧ Inor P' P ∧ Below W.heap.size W w3) := hx; clear hx; have KS : Hid _ := HC.out w3 HX3.out.2.2) | (go_at_call 15; refine (HRA.out w3 xo xl xc P' HX3.out.1 HX3.out.2.1 HX3.out.2.2).mono ?_; rintro e w4 ⟨y, rows, rfl, hy⟩; have HY4 : Hid (Mat w4.heap.size 22 3 w4 y rows ∧ Inor rows (rowsC P' [] d P') ∧ Below W.heap.size W w4 ∧ Fr W.heap.size 22 3 w4 y rows) := hy; clear hy KS; have KS : Hid _ := HC.out w4 HY4.out.2.2.1))
  all_goals
    go_wp2
    go_ret2
    exact ⟨P', y, rows, HX3.out.2.1, HY4.out.2.1, rfl, HY4.out.1, HW.out.trans (HY4.out.2.2.1.mono (by omega)), HY4.out.2.2.2.mono (by omega)⟩

theorem rows_ok (d : Nat) (P : List (List Int)) (v : Value) (w : World) (hv : Mat w.heap.size 22 3 w v P) (hg : Good d P) :
    Calls Try.prog 6 #[.agg #[.int .i64 d, v]] w fun e w' => ∃ P' u rows, Inor P' P ∧ Inor rows (rowsC P' [] d P') ∧ e = .returned (.tuple #[u, .int .i64 0]) ∧ Mat w'.heap.size 22 3 w' u rows ∧ Below w.heap.size w w' :=
  (rows_fr d P v w hv hg).mono fun _ _ ⟨P', u, rows, h1, h2, h3, h4, h5, _⟩ => ⟨P', u, rows, h1, h2, h3, h4, h5⟩

end Go.Proofs.Ytgjlnhfjgkljdaa
