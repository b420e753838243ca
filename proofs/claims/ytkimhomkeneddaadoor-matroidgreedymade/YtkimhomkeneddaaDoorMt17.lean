/- facetref.GreedyMay. -/
import Derived.Test.YtkimhomkeneddaaDoorMt9
import Derived.Test.YtkimhomkeneddaaDoorMt15
namespace Go.Proofs.YtkimhomkeneddaaDoor
open Go.RowKit
attribute [local go_sem ↓] Go.wp_at_zero Go.wp_at_succ

set_option maxRecDepth 100000 in
set_option maxHeartbeats 800000 in
theorem gmay_any (N : Int) (bs ws : List Int) (v wv : Value) (w : World) (hv : Sl w.heap.size 3 w v (ints bs)) (hwv : Sl w.heap.size 3 w wv (ints ws)) (hl : bs.length ≤ 1000000) :
    Calls Tryd.prog 5 #[.agg #[.int .i64 N, v], wv] w fun e w' => e = .returned (.int .i64 (grE N bs ws)) ∧ Below w.heap.size w w' := by
  obtain ⟨ao, cap, hvv, hlc, hcm⟩ := sl_open hv
  subst hvv
  obtain ⟨wo, wc, hwvv, hwlc, hwcm⟩ := sl_open hwv
  subst hwvv
  obtain ⟨W, hW⟩ : ∃ W, W = w.alloc (.cells #[.int .i64 N, .slice ao bs.length cap] 24) := ⟨_, rfl⟩
  have HBA : Hid (Below w.heap.size w W) := by rw [hW]; exact (Below.refl _ _).alloc (Nat.le_refl _) _
  have c0 : W.cell? ⟨w.heap.size, 0, none⟩ = some (.int .i64 N) := by rw [hW]; simp
  have c1 : W.cell? ⟨w.heap.size, 1, none⟩ = some (.slice ao bs.length cap) := by rw [hW]; simp
  have HC : Hid (∀ W', Below W.heap.size W W' → W'.cell? ⟨w.heap.size, 0, none⟩ = some (.int .i64 N) ∧ Sl w.heap.size 3 W' (.slice wo ws.length wc) (ints ws) ∧ Below w.heap.size w W') := fun W' h =>
    ⟨(h.cell (lt_of_cell c0)).trans c0, (hwv.below HBA.out (Nat.le_refl _)).below h (Nat.le_refl _), HBA.out.trans (h.mono HBA.out.size)⟩
  have HCK : Hid (Calls Tryd.prog 11 #[.agg #[.int .i64 N, .slice ao bs.length cap]] W fun e w' => e = .returned (.int .i64 (matE N bs)) ∧ Below W.heap.size W w') :=
    mayM_any N bs _ W ((hv.below HBA.out (Nat.le_refl _)).more HBA.out.size) hl
  have HE : Hid (grE N bs ws = if matE N bs ≠ 0 then matE N bs else if (ws.length : Int) ≠ N then 2 else if ws.any (farB · 1000) = true then 4 else 0) := rfl
  have HFA : Hid (∀ W', Below W.heap.size W W' → Calls Tryd.prog 12 #[.slice wo ws.length wc, .int .i64 1000] W' fun e w' => e = .returned (.bool (ws.any (farB · 1000))) ∧ w' = W') := fun W' h =>
    farAny_any w.heap.size ws _ 1000 W' (HC.out W' h).2.1 (by decide) (by decide)
  generalize grE N bs ws = R at *
  generalize matE N bs = E at *
  generalize ws.any (farB · 1000) = far at *
  clear hv hwv
  go_enter Tryd.func5, Tryd.ntmps5
  go_wp2_with fail
  rw [← hW]
  refine HCK.out.mono ?_
  rintro e w1 ⟨rfl, hb1⟩
  obtain ⟨d0, -, hbw⟩ := HC.out w1 hb1
  have HB1 : Hid (Below W.heap.size W w1) := hb1
  have HBW : Hid (Below w.heap.size w w1) := hbw
  clear hb1 hbw hW c0 c1
  by_cases hE : E = 0
  · subst hE
    by_cases hN : (ws.length : Int) = N
    · subst hN
      have HE2 : Hid (R = if far = true then 4 else 0) := by
        show _ = _
        rw [HE.out]; simp
      go_wp2_with fail
      refine (HFA.out w1 HB1.out).mono ?_
      rintro e w2 ⟨rfl, rfl⟩
      cases far
      · go_wp2
        go_ret
        exact ⟨by rw [HE2.out]; rfl, HBW.out⟩
      · go_wp2
        go_ret
        exact ⟨by rw [HE2.out]; rfl, HBW.out⟩
    · have b1 : ((ws.length : Int) != N) = true := by rw [bne_iff_ne]; exact hN
      have HE2 : Hid (R = 2) := by
        show _ = _
        rw [HE.out, if_neg (by simp), if_pos hN]
      clear hN
      go_wp2
      go_ret
      exact ⟨by rw [HE2.out]; rfl, HBW.out⟩
  · have b1 : (E != 0) = true := by rw [bne_iff_ne]; exact hE
    have HE2 : Hid (R = E) := by
      show _ = _
      rw [HE.out, if_pos hE]
    clear hE
    go_wp2
    go_ret
    exact ⟨by rw [HE2.out]; rfl, HBW.out⟩

end Go.Proofs.YtkimhomkeneddaaDoor
