/- facetref.PlanesMay of planes that may be. -/
import Derived.Test.YtgfnmkenpgnllaaGreatEz6
import Derived.Test.YtgfnmkenpgnllaaGreatSg5
namespace Go.Proofs.YtgfnmkenpgnllaaGreat
open Go.RowKit Lin
attribute [local go_sem ↓] Go.wp_at_zero Go.wp_at_succ

set_option maxRecDepth 100000 in
set_option maxHeartbeats 3200000 in
theorem planesMay_any (d : Nat) (P : List (List Int)) (v : Value) (w : World) (hd1 : 1 ≤ d) (hd3 : d ≤ 3) (hG : PlG d P) (h6 : P.length ≤ 6) (hv : Mat 0 22 3 w v P) :
    Calls Tryz.prog 8 #[.int .i64 d, v] w fun e w' => e = .returned (.int .i64 0) ∧ Below w.heap.size w w' := by
  obtain ⟨vo, vc, rfl, hlc, hcm⟩ := mat_open hv
  have HRW : Hid (∀ k X, k < P.length → Below w.heap.size w X → ∃ b o rb rf rcc, vo = some ⟨b, o, none⟩ ∧ d + 1 ≤ rcc ∧ X.cell? ⟨b, o + k, none⟩ = some (.slice (some ⟨rb, rf, none⟩) (d + 1) rcc) ∧ Sl 0 3 X (.slice (some ⟨rb, rf, none⟩) (d + 1) rcc) (ints (P.getD k []))) := fun k X hk hX => by
    obtain ⟨b, o, cp, rv, e1, _, hc1, hs1⟩ := mat_cell hv hk
    simp only [Value.slice.injEq] at e1
    have hpl := (hG.row _ (getD_memR hk)).1
    obtain ⟨rb, rf, rcc, hrv, hrc1, _⟩ := sl_cell hs1 (k := 0) (by omega)
    rw [hpl] at hrv hrc1
    subst hrv
    exact ⟨b, o, rb, rf, rcc, e1.1, by omega, (hX.cell (lt_of_cell hc1)).trans hc1, hs1.below hX (Nat.le_refl _)⟩
  have HFA : Hid (∀ k u X, k < P.length → Sl 0 3 X u (ints (P.getD k [])) → Calls Tryz.prog 25 #[u, .int .i64 20] X fun e w' => e = .returned (.bool false) ∧ w' = X) := fun k u X hk hu => by
    have := farAny_any 0 _ u 20 X hu (by decide) (by decide)
    have e : ((P.getD k []).any (farB · 20)) = false := by
      rw [List.any_eq_false]
      intro z hz
      have := (hG.row _ (getD_memR hk)).2 z hz
      simp [farB]; omega
    rw [e] at this
    exact this
  have HR1 : Hid (∀ k rb rf rcc X, k < P.length → Sl 0 3 X (.slice (some ⟨rb, rf, none⟩) (d + 1) rcc) (ints (P.getD k [])) → Calls Tryz.prog 24 #[.slice (some ⟨X.heap.size, 0, none⟩) 1 1] (X.alloc (.cells #[.slice (some ⟨rb, rf, none⟩) d rcc] 22)) fun e w' => ∃ z : Nat, e = .returned (.int .i64 (z : Int)) ∧ ((z : Int) == 0) = false ∧ Below X.heap.size X w') := fun k rb rf rcc X hk hu => by
    have hpl := (hG.row _ (getD_memR hk)).1
    have h1 := Sl.takeE (n := d) (by rw [hpl]; exact hu) (by rw [hpl]; omega)
    refine (rankR_any d 60 0 [(P.getD k []).take d] _ _ ⟨fun r hr => ?_, fun r hr z hz => ?_, by omega, by omega, by decide, by rcases (show d = 1 ∨ d = 2 ∨ d = 3 by omega) with rfl | rfl | rfl <;> decide⟩ (mat_one h1) (by simp)).mono ?_
    · rw [List.mem_singleton.1 hr, List.length_take, hpl]; omega
    · rw [List.mem_singleton.1 hr] at hz
      have := (hG.row _ (getD_memR hk)).2 z (List.mem_of_mem_take hz)
      omega
    · rintro e w' ⟨rfl, hb⟩
      refine ⟨_, rfl, ?_, ((Below.refl _ _).alloc (Nat.le_refl _) _).trans (hb.mono (by simp))⟩
      have e1 : (pickL d [(P.getD k []).take d]).length = (pickL d [P.getD k []]).length := rk_takeE (P := [P.getD k []])
      have := hG.one _ (getD_memR hk)
      rw [e1]
      generalize (pickL d [P.getD k []]).length = z at *
      simp; omega
  have HR2 : Hid (∀ k i u x X, k < i → i < P.length → Sl 0 3 X u (ints (P.getD i [])) → Sl 0 3 X x (ints (P.getD k [])) → Calls Tryz.prog 24 #[.slice (some ⟨X.heap.size, 0, none⟩) 2 2] (X.alloc (.cells #[u, x] 22)) fun e w' => ∃ z : Nat, e = .returned (.int .i64 (z : Int)) ∧ ((z : Int) == 1) = false ∧ Below X.heap.size X w') := fun k i u x X hk hi hu hx => by
    refine (rankR_any (d + 1) 60 0 [P.getD i [], P.getD k []] _ _ (mx_few hd1 hd3 fun r hr => ?_) (mat_two hu hx) (by simp)).mono ?_
    · simp only [List.mem_cons, List.not_mem_nil, or_false] at hr
      rcases hr with rfl | rfl
      · exact hG.row _ (getD_memR hi)
      · exact hG.row _ (getD_memR (by omega))
    · rintro e w' ⟨rfl, hb⟩
      refine ⟨_, rfl, ?_, ((Below.refl _ _).alloc (Nat.le_refl _) _).trans (hb.mono (by simp))⟩
      have := hG.two k i hk hi
      generalize (pickL (d + 1) [P.getD i [], P.getD k []]).length = z at *
      simp; omega
  have t0 : decide ((d : Int) < 1) = false := decide_eq_false (by omega)
  have t1 : decide ((3 : Int) < (d : Int)) = false := decide_eq_false (by omega)
  have t2 : decide ((6 : Int) < (P.length : Int)) = false := decide_eq_false (by omega)
  have t3 : (((d : Int) + 1) == (d : Int) + 1) = true := by simp
  clear hv hG
  go_enter Tryz.func8, Tryz.ntmps8
  go_wp2
  go_loopw [5, 6, 7] (fun i _ _ wr => ∃ k : Nat, k ≤ P.length ∧ i = .int .i64 (k : Int) ∧ Below w.heap.size w wr) (fun i _ _ _ => P.length - (intOf i).toNat)
  case atStart => exact ⟨0, Nat.zero_le _, rfl, Below.refl _ _⟩
  case round =>
    obtain ⟨k, hk, rfl, hb⟩ := hrel
    have HB : Hid (Below w.heap.size w wr) := hb
    clear hb
    by_cases hlt : k < P.length
    · obtain ⟨b, o, rb, rf, rcc, hvo, hrc, c1, hs1⟩ := HRW.out k wr hlt HB.out
      subst hvo
      have hF := HFA.out k _ wr hlt hs1
      have hR := HR1.out k rb rf rcc wr hlt hs1
      have HF : Hid (Calls Tryz.prog 25 #[.slice (some ⟨rb, rf, none⟩) (d + 1) rcc, .int .i64 20] wr fun e w' => e = .returned (.bool false) ∧ w' = wr) := hF
      have HR : Hid (Calls Tryz.prog 24 #[.slice (some ⟨wr.heap.size, 0, none⟩) 1 1] (wr.alloc (.cells #[.slice (some ⟨rb, rf, none⟩) d rcc] 22)) fun e w' => ∃ z : Nat, e = .returned (.int .i64 (z : Int)) ∧ ((z : Int) == 0) = false ∧ Below wr.heap.size wr w') := hR
      have HSL : Hid (∀ X, Below wr.heap.size wr X → Sl 0 3 X (.slice (some ⟨rb, rf, none⟩) (d + 1) rcc) (ints (P.getD k []))) := fun X hX => hs1.below hX (Nat.le_refl _)
      have hkI : (k : Int) < (P.length : Int) := by omega
      have hkI0 : (0 : Int) ≤ (k : Int) := by omega
      have hdI : (d : Int) ≤ (rcc : Int) := by omega
      have hdI0 : (0 : Int) ≤ (d : Int) := by omega
      clear hF hR hs1 HFA HR1
      go_wp2_with fail
      refine HF.out.mono ?_
      rintro e w1 ⟨rfl, hw⟩
      obtain rfl := hw.symm
      clear hw HF
      go_wp2_with fail
      refine HR.out.mono ?_
      rintro e w2 ⟨z, rfl, hz, hb2⟩
      have HB2 : Hid (Below wr.heap.size wr w2) := hb2
      have HB0 : Hid (Below w.heap.size w w2) := HB.out.trans (hb2.mono HB.out.size)
      clear hb2 HR c1
      go_wp2
      clear hz
      go_loopw [7] (fun i wq => ∃ j : Nat, j ≤ k ∧ i = .int .i64 (j : Int) ∧ Below wr.heap.size wr wq) (fun i _ => k - (intOf i).toNat)
      case atStart => exact ⟨0, Nat.zero_le _, rfl, HB2.out⟩
      case round =>
        obtain ⟨j, hj, rfl, hb⟩ := hrel
        rename World => wq
        have HBQ : Hid (Below w.heap.size w wq) := HB.out.trans (hb.mono HB.out.size)
        have HBR : Hid (Below wr.heap.size wr wq) := hb
        clear hb
        by_cases hlj : j < k
        · obtain ⟨b2, o2, rb2, rf2, rcc2, hvo2, hrc2, c2, hs2⟩ := HRW.out j wq (by omega) HBQ.out
          simp only [Option.some.injEq, Addr.mk.injEq, and_true] at hvo2
          obtain ⟨q1, q2⟩ := hvo2
          subst q1 q2
          have hR := HR2.out j k _ _ wq hlj hlt (HSL.out wq HBR.out) hs2
          have HR : Hid (Calls Tryz.prog 24 #[.slice (some ⟨wq.heap.size, 0, none⟩) 2 2] (wq.alloc (.cells #[.slice (some ⟨rb, rf, none⟩) (d + 1) rcc, .slice (some ⟨rb2, rf2, none⟩) (d + 1) rcc2] 22)) fun e w' => ∃ z : Nat, e = .returned (.int .i64 (z : Int)) ∧ ((z : Int) == 1) = false ∧ Below wq.heap.size wq w') := hR
          have hjI : (j : Int) < (k : Int) := by omega
          have hjI0 : (0 : Int) ≤ (j : Int) := by omega
          have hjI2 : (j : Int) < (P.length : Int) := by omega
          clear hR hs2
          go_wp2_with fail
          refine HR.out.mono ?_
          rintro e w3 ⟨z, rfl, hz, hb3⟩
          have HB3 : Hid (Below wr.heap.size wr w3) := HBR.out.trans (hb3.mono HBR.out.size)
          clear hb3 HR c2
          go_wp2
          go_roundw
          case rel => exact ⟨j + 1, by omega, by go_num, HB3.out⟩
          case measure => simp [intOf]; omega
        · have hje : j = k := by omega
          subst hje
          go_wp2
          go_roundw
          case rel => exact ⟨j + 1, by omega, by go_num, HBQ.out⟩
          case measure => simp [intOf]; omega
    · clear HRW HFA HR1 HR2
      go_wp2
      go_ret
      exact ⟨rfl, HB.out⟩
end Go.Proofs.YtgfnmkenpgnllaaGreat
