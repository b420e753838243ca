/- The document's answer: what may be turned about: points around 0. -/
import Derived.Test.YtnpapoegkbehbaaGreatHmW
import Derived.Test.YtnpapoegkbehbaaGreatLtA
import Derived.Test.YtnpapoegkbehbaaGreatBetY
import Derived.Test.YtnpapoegkbehbaaGreatPaB
import Derived.Deep.RegionHeld3
namespace Go.Proofs.YtnpapoegkbehbaaGreat
open Go.RowKit
attribute [local go_sem ↓] Go.wp_at_zero Go.wp_at_succ

theorem wh_zero {d : Nat} {L : List (List Int)} (hl : ∀ r ∈ L, r.length = d + 1) (hp : ∀ r ∈ L, 0 < r.getD d 0) : whL L (zerosL d) = -1 := by
  have hz : (zerosL d).length = d := by simp [zerosL]
  have ho : ∀ r ∈ L, overL r (zerosL d) = - r.getD d 0 := fun r hr => by
    unfold overL
    rw [hz]
    have hlen : (r.take d).length = d := by rw [List.length_take, hl r hr]; omega
    rw [dotL_eq hlen, dot_zeros]
    omega
  unfold whL
  rw [if_neg, if_neg]
  · rw [List.any_eq_true]
    rintro ⟨r, hr, h⟩
    have := of_decide_eq_true h
    rw [ho r hr] at this
    have := hp r hr
    omega
  · rw [List.any_eq_true]
    rintro ⟨r, hr, h⟩
    have := of_decide_eq_true h
    rw [ho r hr] at this
    have := hp r hr
    omega

set_option maxRecDepth 100000 in
set_option maxHeartbeats 800000 in
theorem polarMay_any (d : Nat) (P : List (List Int)) (v : Value) (w : World) (hv : Mat w.heap.size 22 3 w v P) (hg : Good d P) (hbx : Box d 6 P) (h16 : P.length ≤ 16) (hpos : ∀ r ∈ rowsD P d, 0 < r.getD d 0) :
    Calls Tryz.prog 8 #[.agg #[.int .i64 d, v]] w fun e w' => e = .returned (.int .i64 0) ∧ Below w.heap.size w w' := by
  have hn2 := hg.n2
  have hd1 := hg.d1
  have hd4 := hg.d4
  obtain ⟨b, o, cap, r1, hvv, hlc, _, _⟩ := mat_cell hv (k := 0) (by omega)
  obtain ⟨vl, hvl⟩ : ∃ vl, vl = P.length := ⟨_, rfl⟩
  rw [← hvl] at hvv
  clear hvl
  subst hvv
  have hwh : whL (rowsD P d) (zerosL d) = -1 := wh_zero (fun r hr => (rowsD_facts (box_up hbx) hd1 (by omega) r hr).len) hpos
  obtain ⟨W, hW⟩ : ∃ W, W = w.alloc (.cells #[.int .i64 d, .slice (some ⟨b, o, none⟩) vl cap] 26) := ⟨_, rfl⟩
  obtain ⟨g, hgd⟩ : ∃ g, g = w.heap.size := ⟨_, rfl⟩
  have hbw : Below w.heap.size w W := by rw [hW]; exact (Below.refl _ _).alloc (Nat.le_refl _) _
  have hsW : W.heap.size = w.heap.size + 1 := by rw [hW]; simp
  have HW : Hid (∀ W', Below W.heap.size W W' → Below w.heap.size w W') := fun W' hB => hbw.trans (hB.mono (by omega))
  have c0 : W.cell? ⟨g, 0, none⟩ = some (.int .i64 d) := by rw [hgd, hW]; simp
  have c1 : W.cell? ⟨g, 1, none⟩ = some (.slice (some ⟨b, o, none⟩) vl cap) := by rw [hgd, hW]; simp
  have HC : Hid (∀ W', Below W.heap.size W W' → W'.cell? ⟨g, 0, none⟩ = some (.int .i64 d) ∧ W'.cell? ⟨g, 1, none⟩ = some (.slice (some ⟨b, o, none⟩) vl cap)) := fun W' hB => ⟨(hB.cell (lt_of_cell c0)).trans c0, (hB.cell (lt_of_cell c1)).trans c1⟩
  have hvW : Mat W.heap.size 22 3 W (.slice (some ⟨b, o, none⟩) vl cap) P := (hv.below hbw (Nat.le_refl _)).any (Nat.le_refl _)
  have HMH : Hid (Calls Tryz.prog 19 #[.agg #[.int .i64 d, .slice (some ⟨b, o, none⟩) vl cap]] W fun e w' => e = .returned (.int .i64 0) ∧ Below W.heap.size W w') := hullMay_ok d P _ W hvW hg
  have HWI : Hid (∀ W' u, Below W.heap.size W W' → Sl W'.heap.size 3 W' u (ints (zerosL d)) → Calls Tryz.prog 20 #[.slice (some ⟨b, o, none⟩) vl cap, u] W' fun e w' => e = .returned (.int .i64 (-1)) ∧ Below W.heap.size W w') := fun W' u hB hu => by
    have h := whereIs_any W'.heap.size d P (zerosL d) _ u W' ((hvW.below hB (Nat.le_refl _)).any (Nat.le_refl _)) hu hd1 (by omega) (by omega) h16 (box_up hbx) (by simp [zerosL]) (fun z hz => by
      simp only [zerosL, List.mem_map] at hz
      obtain ⟨_, _, rfl⟩ := hz
      decide) (fun r hr => rowsD_last (box_up hbx) hd1 (by omega) hr)
    rw [hwh] at h
    exact h.mono fun _ _ ⟨e1, e2⟩ => ⟨e1, hB.trans (e2.mono hB.size)⟩
  have hmk := run_make_row' (P := Tryz.prog) 22 3 (.int .i64 0) 8 Tryz.underlying22 Tryz.info3 rfl .i64 .i64 d (by omega) (by omega)
  clear hv hg hbx hpos hvW hbw hsW hwh h16
  go_enter Tryz.func8, Tryz.ntmps8
  go_wp2_with fail
  rw [← hW, ← hgd]
  clear hW hgd
  refine HMH.out.mono ?_
  rintro e w1 ⟨rfl, hb1⟩
  have HB1 : Hid (Below W.heap.size W w1) := hb1
  have k0 := (HC.out w1 hb1).1
  have k1 := (HC.out w1 hb1).2
  have HSR : Hid (Sl (w1.alloc (.cells (madeCells #[.int .i64 0] d) 3)).drew.heap.size 3 (w1.alloc (.cells (madeCells #[.int .i64 0] d) 3)).drew (.slice (some ⟨w1.heap.size, 0, none⟩) d d) (ints (zerosL d))) := Sl.row (World.rowIs_made w1 (.int .i64 0) d 3).drew (by simp [zerosL]) (by unfold maxLen; omega) (fun i hi => by rw [ints_get _ _ (by simpa [zerosL] using hi)]; simp [zerosL, hi])
  clear hb1 c0 c1 HMH
  go_wp2
  go_region_held3 (fun w' => w'.cell? ⟨g, 0, none⟩ = some (.int .i64 d) ∧ w'.cell? ⟨g, 1, none⟩ = some (.slice (some ⟨b, o, none⟩) vl cap)) (first | exact KS.out | exact HC.out _ (HB1.out.alloc HB1.out.size _) | go_keep)
    ((go_at_call 20; refine (HWI.out _ _ ?hB ?hS).mono ?_; (case hB => first | exact HB1.out.alloc HB1.out.size _ | exact (HB1.out.alloc HB1.out.size _).drew); (case hS => exact HSR.out); rintro e w3 ⟨rfl, hb3⟩; have HB3 : Hid (Below W.heap.size W w3) := hb3; clear hb3; have KS : Hid _ := HC.out w3 HB3.out))
  all_goals
    go_wp2
    go_ret
    exact ⟨rfl, HW.out _ HB3.out⟩

end Go.Proofs.YtnpapoegkbehbaaGreat
