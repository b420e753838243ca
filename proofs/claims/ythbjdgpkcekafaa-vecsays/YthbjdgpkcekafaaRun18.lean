/- The law of vec. -/
import Derived.Test.YthbjdgpkcekafaaRun17
namespace Go.Proofs.Ythbjdgpkcekafaa
open Go.RowKit
attribute [local go_sem ↓] Go.wp_at_zero Go.wp_at_succ

theorem sq_of {m : List (List Int)} (hx : Mx (wid m) 60 m) (h : m.length = wid m) : Sq m.length 60 m := by
  have h5 := hx.c5
  refine ⟨rfl, fun r hr => by have := hx.row r hr; omega, fun r hr j hj => ?_, ?_, by omega, by decide⟩
  · have hl := hx.row r hr
    have hjr : j < r.length := by omega
    have e : r.getD j 0 = r[j] := by simp [hjr]
    rw [e]; exact hx.bd r hr _ (List.getElem_mem hjr)
  · exact Nat.le_trans (fb_mono (by decide) (show m.length ≤ 5 by omega)) (by decide)

theorem detE_bad {m : List (List Int)} (h : vecE m ≠ 0) : detE m = vecE m := if_neg h
theorem normE_bad {m : List (List Int)} (h : vecE m ≠ 0) : normE m = vecE m := if_neg h

set_option maxRecDepth 100000 in
set_option maxHeartbeats 4000000 in
theorem vecSays_bad (B : Nat) (m : List (List Int)) (v : Value) (w : World) (hv : Mat B 28 3 w v m) (hx0 : vecE m ≠ 0) :
    Calls Try.prog 3 #[v] w fun e w' => e = .returned (.bool true) ∧ Below w.heap.size w w' := by
  obtain ⟨ao, cap, hvv, hlc, hcm⟩ := mat_open hv
  subst hvv
  have HV : Hid (Mat B 28 3 w (.slice ao m.length cap) m) := hv
  have HX0 : Hid (vecE m ≠ 0) := hx0
  clear hv hx0
  go_enter Try.func3, Try.ntmps3
  go_wp2_with fail
  refine (heavy_any B m _ w HV.out).mono ?_
  rintro e w0 ⟨hvy, rfl, hm300, rfl⟩
  have HM3 : Hid (hvy = false → m.length ≤ 300) := hm300
  clear hm300
  cases hvy
  · have hml := HM3.out rfl
    go_wp2_with fail
    refine (vecMay_any B m _ w0 HV.out).mono ?_
    rintro e w1 ⟨rfl, hb1⟩
    have HB1 : Hid (Below w0.heap.size w0 w1) := hb1
    obtain ⟨x, hx⟩ : ∃ x, x = vecE m := ⟨_, rfl⟩
    have HX : Hid (x = vecE m) := hx
    rw [← hx]
    clear hb1
    go_wp2_with fail
    refine (vecRank_any B m _ w1 (HV.out.below HB1.out (Nat.le_refl _))).mono ?_
    rintro e w2 ⟨rfl, hb2⟩
    have HB2 : Hid (Below w0.heap.size w0 w2) := HB1.out.trans (hb2.mono HB1.out.size)
    have hra : rankA m = 0 := if_neg HX0.out
    rw [hra, ← hx]
    clear hb2 hra
    go_wp2_with fail
    refine (vecDet_any B m _ w2 (HV.out.below HB2.out (Nat.le_refl _))).mono ?_
    rintro e w3 ⟨rfl, hb3⟩
    have HB3 : Hid (Below w0.heap.size w0 w3) := HB2.out.trans (hb3.mono HB2.out.size)
    have hda : detA m = 0 := if_neg (by rw [detE_bad HX0.out]; exact HX0.out)
    rw [hda, detE_bad HX0.out, ← hx]
    clear hb3 hda
    go_wp2_with fail
    refine (vecNormal_any B m _ w3 (HV.out.below HB3.out (Nat.le_refl _))).mono ?_
    rintro e w4 ⟨uo, uc, rfl, hs4, hb4⟩
    have HB4 : Hid (Below w0.heap.size w0 w4) := HB3.out.trans (hb4.mono HB3.out.size)
    have hna : normA m = [] := if_neg (by rw [normE_bad HX0.out]; exact HX0.out)
    rw [hna, normE_bad HX0.out, ← hx]
    have HXN : Hid (x ≠ 0) := by rw [hx]; exact HX0.out
    have hxb : (x == 0) = false := by rw [beq_eq_false_iff_ne]; exact HXN.out
    have hxx : (x != x) = false := by simp
    clear hb4 hna hs4 hx
    simp only [List.length_nil]
    go_wp2_with fail
    refine (check_any B m _ w4 (HV.out.below HB4.out (Nat.le_refl _))).mono ?_
    rintro e w5 ⟨rfl, hb5⟩
    have HB5 : Hid (Below w0.heap.size w0 w5) := HB4.out.trans (hb5.mono HB4.out.size)
    rw [← HX.out]
    clear hb5
    go_wp2_with fail
    refine (num_true 0 x 0 x w5 rfl (fun _ => rfl) (fun _ => rfl)).mono ?_
    rintro e w6 ⟨rfl, rfl⟩
    go_wp2_with fail
    refine (num_true 0 x 0 x w6 rfl (fun _ => rfl) (fun _ => rfl)).mono ?_
    rintro e w7 ⟨rfl, rfl⟩
    go_wp2_with fail
    refine (list_err uo uc (.slice none 0 0) x w7 HXN.out).mono ?_
    rintro e w8 ⟨rfl, rfl⟩
    go_wp2
    go_ret
    exact ⟨rfl, HB5.out⟩
  · go_wp2
    go_ret
    exact ⟨rfl, Below.refl _ _⟩

end Go.Proofs.Ythbjdgpkcekafaa
