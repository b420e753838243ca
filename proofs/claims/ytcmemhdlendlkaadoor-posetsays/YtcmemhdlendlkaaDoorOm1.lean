/- facetref.OrderMay of an order that may be. -/
import Derived.Test.YtcmemhdlendlkaaDoorAo1
import Derived.Test.YtcmemhdlendlkaaDoorPoB
namespace Go.Proofs.YtcmemhdlendlkaaDoor
open Go.RowKit
attribute [local go_sem ↓] Go.wp_at_zero Go.wp_at_succ

set_option maxRecDepth 100000 in
set_option maxHeartbeats 3200000 in
theorem orderMay_ok (n : Nat) (es : List (Nat × Nat)) (pv : Value) (w : World) (hv : Prs w pv (npL es)) (hG : GdO n es) :
    Calls Tryd.prog 4 #[.agg #[.int .i64 (n : Int), pv]] w fun e w' => e = .returned (.int .i64 0) ∧ Below w.heap.size w w' := by
  have HV : Hid (Prs w pv (npL es)) := hv
  obtain ⟨po, pc, hpv, -⟩ := hv
  rw [npL_len] at hpv
  subst hpv
  obtain ⟨W1, hW1⟩ : ∃ W1, W1 = w.alloc (.cells #[.int .i64 (n : Int), .slice po es.length pc] 24) := ⟨_, rfl⟩
  obtain ⟨pb, hpb⟩ : ∃ pb, pb = w.heap.size := ⟨_, rfl⟩
  have HB1 : Hid (Below w.heap.size w W1) := by rw [hW1]; exact (Below.refl _ _).alloc (Nat.le_refl _) _
  have d0 : W1.cell? ⟨pb, 0, none⟩ = some (.int .i64 (n : Int)) := by rw [hW1, hpb]; simp
  have d1 : W1.cell? ⟨pb, 1, none⟩ = some (.slice po es.length pc) := by rw [hW1, hpb]; simp
  have HD : Hid (W1.cell? ⟨pb, 0, none⟩ = some (.int .i64 (n : Int)) ∧ W1.cell? ⟨pb, 1, none⟩ = some (.slice po es.length pc)) := ⟨d0, d1⟩
  have HAO : Hid (Calls Tryd.prog 5 #[.agg #[.int .i64 (n : Int), .slice po es.length pc]] W1 fun e w' => ∃ uo uc, e = .returned (.slice uo n uc) ∧ Sl 0 3 w' (.slice uo n uc) (ints (upL n (upF n es))) ∧ Below w.heap.size w w' ∧ w'.cell? ⟨pb, 0, none⟩ = some (.int .i64 (n : Int))) := (aboveOf_any n es _ W1 (HV.out.below HB1.out (Nat.le_refl _)) hG.bd hG.n6 hG.len).mono (by
    rintro e w' ⟨x, h1, h2, h3⟩
    obtain ⟨uo, uc, rfl⟩ := owns_form h2
    exact ⟨uo, uc, h1, Sl.own h2, HB1.out.trans (h3.mono HB1.out.size), (h3.cell (lt_of_cell d0)).trans d0⟩)
  have HES : Hid (∀ e ∈ es, e.1 < n ∧ e.2 < n) := hG.bd
  have HIR : Hid (∀ i, i < n → (upF n es i).testBit i = false ∧ upF n es i < 64) := fun i hi => ⟨hG.irr i hi, hG.b64 hi⟩
  have hn1 := hG.n1
  have hn6 := hG.n6
  have hl := hG.len
  have n1 : ¬ (n : Int) < 1 := by omega
  have n6 : ¬ 6 < (n : Int) := by omega
  have l36 : ¬ 36 < (es.length : Int) := by omega
  clear hG d0 d1
  obtain ⟨c0, c1⟩ := HD.out
  go_enter Tryd.func4, Tryd.ntmps4
  go_wp2
  rw [← hW1, ← hpb]
  clear hW1 hpb
  go_loop [3] (fun jv => ∃ j : Nat, j ≤ es.length ∧ jv = .int .i64 (j : Int)) (fun jv => es.length - (intOf jv).toNat)
  case atStart => exact ⟨0, Nat.zero_le _, rfl⟩
  case round =>
    obtain ⟨j, hj, rfl⟩ := hrel
    by_cases hlj : j < es.length
    · obtain ⟨po2, pc2, hpe, hcs⟩ := HV.out.below HB1.out (Nat.le_refl _)
      obtain ⟨qb, qo, e, p1, p2⟩ := hcs j (by rw [npL_len]; exact hlj)
      rw [npL_len] at hpe
      simp only [Value.slice.injEq, true_and] at hpe
      obtain ⟨rfl, rfl⟩ := hpe
      subst e
      rw [npL_at hlj] at p1 p2
      obtain ⟨hx1, hx2⟩ := HES.out _ (pair_mem hlj)
      generalize (es.getD j (0, 0)).1 = x at *
      generalize (es.getD j (0, 0)).2 = y at *
      have jI : (j : Int) < (es.length : Int) := by omega
      have jI0 : (0 : Int) ≤ (j : Int) := by omega
      have x0 : ¬ (x : Int) < 0 := by omega
      have y0 : ¬ (y : Int) < 0 := by omega
      have xn : ¬ (n : Int) ≤ (x : Int) := by omega
      have yn : ¬ (n : Int) ≤ (y : Int) := by omega
      have xn2 : ¬ n ≤ x := by omega
      have yn2 : ¬ n ≤ y := by omega
      go_wp2
      go_round
      case rel => exact ⟨j + 1, by omega, by go_num⟩
      case measure => simp [intOf]; omega
    · have hje : es.length = j := by omega
      have hjI : ¬ (j : Int) < (es.length : Int) := by omega
      have hjN : ¬ j < es.length := by omega
      clear hje
      go_wp2_with fail
      refine HAO.out.mono ?_
      rintro e w2 ⟨uo, uc, rfl, hu, hb2, d0⟩
      have HU : Hid (Sl 0 3 w2 (.slice uo n uc) (ints (upL n (upF n es)))) := hu
      have HB2 : Hid (Below w.heap.size w w2) := hb2
      clear HAO hu hb2 c0 c1
      go_wp2
      go_loop [7] (fun iv => ∃ i : Nat, i ≤ n ∧ iv = .int .i64 (i : Int)) (fun iv => n - (intOf iv).toNat)
      case atStart => exact ⟨0, Nat.zero_le _, rfl⟩
      case round =>
        obtain ⟨i, hi, rfl⟩ := hrel
        by_cases hlt : i < n
        · obtain ⟨b2, o2, c2, hs, _, hc⟩ := sl_cell HU.out (k := i) (by rw [upL_len]; exact hlt)
          rw [upL_len] at hs
          simp only [Value.slice.injEq, true_and] at hs
          obtain ⟨rfl, rfl⟩ := hs
          rw [upL_at _ hlt] at hc
          obtain ⟨hb, h64⟩ := HIR.out i hlt
          have e1 := bitq_tab _ h64 i (by omega)
          rw [hb] at e1
          simp only [Bool.false_eq_true, if_false] at e1
          generalize upF n es i = fi at *
          have iI : (i : Int) < (n : Int) := by omega
          have iI0 : (0 : Int) ≤ (i : Int) := by omega
          go_wp2
          go_round
          case rel => exact ⟨i + 1, by omega, by go_num⟩
          case measure => simp [intOf]; omega
        · have hie : n = i := by omega
          subst hie
          clear hlt hi
          go_wp2
          go_ret
          exact ⟨rfl, HB2.out⟩

end Go.Proofs.YtcmemhdlendlkaaDoor
