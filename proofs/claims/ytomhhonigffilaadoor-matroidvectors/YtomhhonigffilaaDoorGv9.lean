/- MatroidVectors: the law. -/
import Derived.Test.YtomhhonigffilaaDoorGv6
import Derived.Test.YtomhhonigffilaaDoorGv8
import Derived.Test.YtomhhonigffilaaDoorHv1
namespace Go.Proofs.YtomhhonigffilaaDoor
open Go.RowKit
attribute [local go_sem ↓] Go.wp_at_zero Go.wp_at_succ

set_option maxRecDepth 100000 in
set_option maxHeartbeats 800000 in
theorem sameG_any (x : List Int) (N E : Int) (u v : Value) (w : World) (hu : Sl 0 3 w u (ints x)) (hv : Sl 0 3 w v (ints x)) (hE : E ≠ 0 → N = 0 ∧ x = []) :
    Calls Tryd.prog 8 #[.agg #[.int .i64 N, u], .int .i64 E, .agg #[.int .i64 N, v], .int .i64 E] w fun x w' => x = .returned (.bool true) ∧ Below w.heap.size w w' := by
  obtain ⟨uo, uc, rfl, _, _⟩ := sl_open hu
  obtain ⟨vo, vc, rfl, _, _⟩ := sl_open hv
  obtain ⟨wa, hwa⟩ : ∃ wa, wa = w.alloc (.cells #[.int .i64 N, .slice uo x.length uc] 28) := ⟨_, rfl⟩
  obtain ⟨W, hW⟩ : ∃ W, W = wa.alloc (.cells #[.int .i64 N, .slice vo x.length vc] 28) := ⟨_, rfl⟩
  have hsa : wa.heap.size = w.heap.size + 1 := by rw [hwa]; simp
  have HBA : Hid (Below w.heap.size w W) := by rw [hW, hwa]; exact ((Below.refl _ _).alloc (Nat.le_refl _) _).alloc (by simp) _
  have a0 : W.heap[w.heap.size]? = some (.cells #[.int .i64 N, .slice uo x.length uc] 28 (0, 0)) := by
    rw [hW]; exact (Below.heap_alloc _ _ _ (by omega)).trans (by rw [hwa]; exact heap_alloc_new w _)
  have a1 : W.heap[w.heap.size + 1]? = some (.cells #[.int .i64 N, .slice vo x.length vc] 28 (0, 0)) := by
    rw [hW, ← hsa]; exact heap_alloc_new wa _
  have HWW : Hid (W = (w.alloc (.cells #[.int .i64 N, .slice uo x.length uc] 28)).alloc (.cells #[.int .i64 N, .slice vo x.length vc] 28)) := by rw [hW, hwa]; rfl
  have g0 : ((w.alloc (.cells #[.int .i64 N, .slice uo x.length uc] 28)).alloc (.cells #[.int .i64 N, .slice vo x.length vc] 28)).cell? ⟨w.heap.size, 0, none⟩ = some (.int .i64 N) := by rw [← HWW.out]; simp [World.cell?, a0]
  have g1 : ((w.alloc (.cells #[.int .i64 N, .slice uo x.length uc] 28)).alloc (.cells #[.int .i64 N, .slice vo x.length vc] 28)).cell? ⟨w.heap.size, 1, none⟩ = some (.slice uo x.length uc) := by rw [← HWW.out]; simp [World.cell?, a0]
  have g2 : ((w.alloc (.cells #[.int .i64 N, .slice uo x.length uc] 28)).alloc (.cells #[.int .i64 N, .slice vo x.length vc] 28)).cell? ⟨w.heap.size + 1, 0, none⟩ = some (.int .i64 N) := by rw [← HWW.out]; simp [World.cell?, a1]
  have g3 : ((w.alloc (.cells #[.int .i64 N, .slice uo x.length uc] 28)).alloc (.cells #[.int .i64 N, .slice vo x.length vc] 28)).cell? ⟨w.heap.size + 1, 1, none⟩ = some (.slice vo x.length vc) := by rw [← HWW.out]; simp [World.cell?, a1]
  have HU : Hid (Sl 0 3 W (.slice uo x.length uc) (ints x)) := hu.below HBA.out (Nat.le_refl _)
  have HV : Hid (Sl 0 3 W (.slice vo x.length vc) (ints x)) := hv.below HBA.out (Nat.le_refl _)
  clear hu hv hW hwa hsa a0 a1
  by_cases h0 : E = 0
  · subst h0
    have hNN : (N == N) = true := by simp
    clear hE
    go_enter Tryd.func8, Tryd.ntmps8
    go_wp2_with fail
    rw [← HWW.out]
    refine (same_any 0 x x _ _ W HU.out HV.out).mono ?_
    rintro e w' ⟨rfl, n, hw'⟩
    have HBB : Hid (Below w.heap.size w w') := by rw [hw']; exact ⟨HBA.out.os, HBA.out.tape, HBA.out.output, HBA.out.size, HBA.out.block⟩
    have hxx : (x == x) = true := by simp
    rw [hxx]
    clear hw' g0 g1 g2 g3
    go_wp2
    go_ret
    exact ⟨rfl, HBB.out⟩
  · obtain ⟨hN, hx⟩ := hE h0
    subst hN hx
    have hb : (E != 0) = true := by simp [h0]
    have hbe : (E == E) = true := by simp
    have hbc := HBA.out
    rw [HWW.out] at hbc
    have HBC : Hid (Below w.heap.size w ((w.alloc (.cells #[.int .i64 0, .slice uo 0 uc] 28)).alloc (.cells #[.int .i64 0, .slice vo 0 vc] 28))) := hbc
    clear hE h0 hbc
    go_enter Tryd.func8, Tryd.ntmps8
    go_wp2
    go_ret
    exact ⟨ret_bool (by first | rfl | simp), HBC.out⟩


/-- The law's box, and the list in it. -/
structure GwX (w : World) (N : Int) (u : Value) (xs : List Int) (W : World) : Prop where
  bel : Below w.heap.size w W
  box : W.heap[w.heap.size]? = some (.cells #[.int .i64 N, u] 28 (0, 0))
  sl : Sl 0 3 W u (ints xs)

theorem GwX.lt {w : World} {N : Int} {u : Value} {xs : List Int} {W : World} (h : GwX w N u xs W) : w.heap.size < W.heap.size := (Array.getElem?_eq_some_iff.1 h.box).1

theorem GwX.next {w : World} {N : Int} {u : Value} {xs : List Int} {W W' : World} (h : GwX w N u xs W) (hb : Below W.heap.size W W') : GwX w N u xs W' :=
  ⟨h.bel.trans (hb.mono (Nat.le_of_lt h.lt)), (hb.block _ h.lt).trans h.box, h.sl.below hb (Nat.le_refl _)⟩

theorem vm_E {n : Int} {zs : List (List Int)} (h : vmE n zs ≠ 0) : vmN n zs = 0 ∧ vmB n zs = [] := ⟨if_neg h, if_neg h⟩

set_option maxRecDepth 100000 in
set_option maxHeartbeats 1600000 in
theorem matVectors_any (n : Int) (zs : List (List Int)) (v : Value) (w : World) (hv : Mat w.heap.size 26 3 w v zs) (hT : TabB w) :
    Calls Tryd.prog 3 #[.int .i64 n, v] w fun e w' => e = .returned (.bool true) ∧ Below w.heap.size w w' := by
  have HPV : Hid (Mat w.heap.size 26 3 w v zs) := hv
  have HHV := heavy_any w.heap.size zs v w hv
  obtain ⟨po, pc, hvv, _, _⟩ := mat_open hv
  subst hvv
  clear hv
  have HT0 : Hid (TabB w) := hT
  clear hT
  have HGR : Hid (zs.length ≤ 300 → ∀ W2, Below w.heap.size w W2 → Calls Tryd.prog 7 #[.int .i64 n, .slice po zs.length pc] W2 fun e w' => ∃ u, e = .returned (.tuple #[.agg #[.int .i64 (vmN n zs), u], .int .i64 (vmE n zs)]) ∧ Sl 0 3 w' u (ints (vmB n zs)) ∧ Below W2.heap.size W2 w') := fun hl W2 hb =>
    vectors_any w.heap.size n zs _ W2 (HPV.out.below hb (Nat.le_refl _)) hb.size (by omega) (HT0.out.below hb)
  have HMAY : Hid (zs.length ≤ 300 → Calls Tryd.prog 5 #[.int .i64 n, .slice po zs.length pc] w fun e w' => e = .returned (.int .i64 (vmE n zs)) ∧ Below w.heap.size w w') := fun hl => vectorsMay_any w.heap.size n zs _ w HPV.out (by omega)
  have HHH : Hid (Calls Tryd.prog 4 #[.slice po zs.length pc] w fun e w' => ∃ b, e = .returned (.bool b) ∧ (b = false → zs.length ≤ 300) ∧ w' = w) := HHV
  have HOF : Hid (vmE n zs = 0 → ∀ W2, Below w.heap.size w W2 → Calls Tryd.prog 6 #[.int .i64 n, .slice po zs.length pc] W2 fun e w' => ∃ u, e = .returned (.agg #[.int .i64 (vmN n zs), u]) ∧ Sl 0 3 w' u (ints (vmB n zs)) ∧ Below W2.heap.size W2 w') := fun h0 W2 hb => by
    obtain ⟨q, hq, hq4, hm8, hd, hrp⟩ := vmE_good h0
    have e1 : vmN n zs = zs.length := if_pos h0
    have e2 : vmB n zs = greL (setsTo (fvE n (zs.getD 0 []).length zs) (2 ^ zs.length)) := if_pos h0
    rw [e1, e2]
    subst hq
    by_cases hmn : zs = []
    · subst hmn
      have h := vectorsOf_is q 1 w.heap.size hq4 (by omega) (by omega) [] _ W2 (by simp) (fun r hr => by simp at hr) (HPV.out.below hb (Nat.le_refl _)) hb.size
      have e3 : setsTo (fvE (q : Int) (([] : List (List Int)).getD 0 []).length []) (2 ^ ([] : List (List Int)).length) = setsTo (fvE q 1 []) (2 ^ ([] : List (List Int)).length) := by
        show setsTo _ 1 = setsTo _ 1
        have h0 : fvE (q : Int) (([] : List (List Int)).getD 0 []).length [] 0 = fvE q 1 [] 0 := by
          unfold fvE
          rw [dpB_false.2 (by exact dpn_nil), dpB_false.2 (by exact dpn_nil)]
        simp only [setsTo, List.range_one, List.filter_cons, List.filter_nil, h0]
      rw [e3]
      exact h
    · obtain ⟨hd1, hd8⟩ := hd hmn
      exact vectorsOf_is q _ w.heap.size hq4 hd1 hd8 zs _ W2 hm8 hrp (HPV.out.below hb (Nat.le_refl _)) hb.size
  clear HHV HPV HT0
  by_cases h0 : vmE n zs = 0
  · have HGO : Hid (∀ W2, Below w.heap.size w W2 → Calls Tryd.prog 6 #[.int .i64 n, .slice po zs.length pc] W2 fun e w' => ∃ u, e = .returned (.agg #[.int .i64 (vmN n zs), u]) ∧ Sl 0 3 w' u (ints (vmB n zs)) ∧ Below W2.heap.size W2 w') := HOF.out h0
    rw [h0] at HMAY HGR
    generalize vmN n zs = M at *
    generalize vmB n zs = bs at *
    clear h0 HOF
    go_enter Tryd.func3, Tryd.ntmps3
    go_wp2_with fail
    refine HHH.out.mono ?_
    rintro e w' ⟨hb, rfl, hhb, hw⟩
    obtain rfl := hw.symm
    clear hw
    cases hb
    · have hl : zs.length ≤ 300 := hhb rfl
      clear hhb
      have HMAY2 : Hid (Calls Tryd.prog 5 #[.int .i64 n, .slice po zs.length pc] w fun e w' => e = .returned (.int .i64 0) ∧ Below w.heap.size w w') := HMAY.out hl
      have HGR := HGR.out hl
      have HGR : Hid (∀ W2, Below w.heap.size w W2 → Calls Tryd.prog 7 #[.int .i64 n, .slice po zs.length pc] W2 fun e w' => ∃ u, e = .returned (.tuple #[.agg #[.int .i64 M, u], .int .i64 0]) ∧ Sl 0 3 w' u (ints bs) ∧ Below W2.heap.size W2 w') := HGR
      go_wp2_with fail
      refine HMAY2.out.mono ?_
      rintro e wm ⟨rfl, hbm⟩
      have HBM : Hid (Below w.heap.size w wm) := hbm
      clear hbm
      obtain ⟨W1, hW1⟩ : ∃ W1, W1 = wm.alloc (.cells #[.int .i64 0, .slice none 0 0] 28) := ⟨_, rfl⟩
      have HB1 : Hid (Below wm.heap.size wm W1) := by rw [hW1]; exact (Below.refl _ _).alloc (Nat.le_refl _) _
      have HR1 : Hid (W1.heap[wm.heap.size]? = some (.cells #[.int .i64 0, .slice none 0 0] 28 (0, 0))) := by rw [hW1]; exact heap_alloc_new wm _
      have HS1 : Hid (W1.heap.size = wm.heap.size + 1) := by rw [hW1]; show _ = _; simp
      have HW1 : Hid (W1 = wm.alloc (.cells #[.int .i64 0, .slice none 0 0] 28)) := hW1
      clear hW1
      go_wp2_with fail
      rw [← HW1.out]
      refine (HGO.out W1 (HBM.out.trans (HB1.out.mono HBM.out.size))).mono ?_
      rintro e w2 ⟨u, rfl, hu, hb2⟩
      obtain ⟨uo, uc, huu, _, _⟩ := sl_open hu
      subst huu
      have HR2' : Hid (w2.heap[wm.heap.size]? = some (.cells #[.int .i64 0, .slice none 0 0] 28 (0, 0))) := (hb2.block _ (by rw [HS1.out]; omega)).trans HR1.out
      have y0 : w2.cell? ⟨wm.heap.size, 0, none⟩ = some (.int .i64 0) := by simp [World.cell?, HR2'.out]
      have y1 : w2.cell? ⟨wm.heap.size, 1, none⟩ = some (.slice none 0 0) := by simp [World.cell?, HR2'.out]
      have z0 : w2.frozen? ⟨wm.heap.size, 0, none⟩ = false := by simp [World.frozen?, HR2'.out]
      have z1 : w2.frozen? ⟨wm.heap.size, 1, none⟩ = false := by simp [World.frozen?, HR2'.out]
      obtain ⟨W2, hW2⟩ : ∃ W2, W2 = (w2.setCell ⟨wm.heap.size, 0, none⟩ (.int .i64 M)).setCell ⟨wm.heap.size, 1, none⟩ (.slice uo bs.length uc) := ⟨_, rfl⟩
      have HGX : Hid (GwX wm M (.slice uo bs.length uc) bs W2) := by
        refine ⟨?_, ?_, ?_⟩
        · rw [hW2]
          exact ((HB1.out.trans (hb2.mono HB1.out.size)).setCell (Nat.le_refl _) _).setCell (Nat.le_refl _) _
        · rw [hW2]
          simp [World.setCell, Array.getElem?_modify, HR2'.out]
        · rw [hW2]
          refine Sl.move hu fun b hl ht => ?_
          have hne : b ≠ wm.heap.size := fun e => by
            rcases ht with ht | ⟨cur, ht⟩
            · omega
            · rw [e, HR2'.out] at ht
              cases ht
          exact ⟨(Below.heap_setCell _ _ _ _ hne).trans (Below.heap_setCell _ _ _ _ hne), ht⟩
      have HW2 : Hid (W2 = (w2.setCell ⟨wm.heap.size, 0, none⟩ (.int .i64 M)).setCell ⟨wm.heap.size, 1, none⟩ (.slice uo bs.length uc)) := hW2
      clear hW2 hu hb2
      go_wp2_with fail
      rw [← HW2.out]
      clear HW2 y0 y1 z0 z1
      refine (HGR.out _ (HBM.out.trans (HGX.out.bel.mono HBM.out.size))).mono ?_
      rintro e w3 ⟨y, rfl, hy, hb3⟩
      obtain ⟨yo, yc, hyy, _, _⟩ := sl_open hy
      subst hyy
      have HG3 : Hid (GwX wm M (.slice uo bs.length uc) bs w3) := HGX.out.next hb3
      have HG4 : Hid (GwX wm M (.slice uo bs.length uc) bs (w3.alloc (.cells #[.int .i64 M, .slice yo bs.length yc] 28))) := HG3.out.next ((Below.refl _ _).alloc (Nat.le_refl _) _)
      have HY4 : Hid (Sl 0 3 (w3.alloc (.cells #[.int .i64 M, .slice yo bs.length yc] 28)) (.slice yo bs.length yc) (ints bs)) := hy.below ((Below.refl w3.heap.size _).alloc (Nat.le_refl _) _) (Nat.le_refl _)
      clear hy hb3
      have k0 : (w3.alloc (.cells #[.int .i64 M, .slice yo bs.length yc] 28)).cell? ⟨wm.heap.size, 0, none⟩ = some (.int .i64 M) := by simp [World.cell?, HG4.out.box]
      have k1 : (w3.alloc (.cells #[.int .i64 M, .slice yo bs.length yc] 28)).cell? ⟨wm.heap.size, 1, none⟩ = some ((.slice uo bs.length uc)) := by simp [World.cell?, HG4.out.box]
      go_wp2_with fail
      refine (sameG_any bs M 0 _ _ _ HY4.out HG4.out.sl (fun h => absurd rfl h)).mono ?_
      rintro e w5 ⟨rfl, hb5⟩
      have HB5 : Hid (Below w.heap.size w w5) := HBM.out.trans ((HG4.out.bel.trans (hb5.mono HG4.out.bel.size)).mono HBM.out.size)
      clear hb5 k0 k1
      go_wp2
      go_ret
      exact ⟨rfl, HB5.out⟩
    · go_wp2
      go_ret
      exact ⟨rfl, Below.refl _ _⟩
  · obtain ⟨hM, hB⟩ := vm_E h0
    rw [hM, hB] at HGR
    have hq : (vmE n zs == 0) = false := by simpa using h0
    clear hM hB h0 HOF
    generalize vmE n zs = E at *
    go_enter Tryd.func3, Tryd.ntmps3
    go_wp2_with fail
    refine HHH.out.mono ?_
    rintro e w' ⟨hb, rfl, hhb, hw⟩
    obtain rfl := hw.symm
    clear hw
    cases hb
    · have hl : zs.length ≤ 300 := hhb rfl
      clear hhb
      have HMAY2 : Hid (Calls Tryd.prog 5 #[.int .i64 n, .slice po zs.length pc] w fun e w' => e = .returned (.int .i64 E) ∧ Below w.heap.size w w') := HMAY.out hl
      have HGR := HGR.out hl
      have HGR : Hid (∀ W2, Below w.heap.size w W2 → Calls Tryd.prog 7 #[.int .i64 n, .slice po zs.length pc] W2 fun e w' => ∃ u, e = .returned (.tuple #[.agg #[.int .i64 0, u], .int .i64 E]) ∧ Sl 0 3 w' u (ints []) ∧ Below W2.heap.size W2 w') := HGR
      go_wp2_with fail
      refine HMAY2.out.mono ?_
      rintro e wm ⟨rfl, hbm⟩
      have HBM : Hid (Below w.heap.size w wm) := hbm
      clear hbm
      obtain ⟨W1, hW1⟩ : ∃ W1, W1 = wm.alloc (.cells #[.int .i64 0, .slice none 0 0] 28) := ⟨_, rfl⟩
      have HGX : Hid (GwX wm 0 (.slice none 0 0) [] W1) := by
        refine ⟨?_, ?_, Sl.nil _ _ _⟩
        · rw [hW1]; exact (Below.refl _ _).alloc (Nat.le_refl _) _
        · rw [hW1]; exact heap_alloc_new wm _
      have HW1 : Hid (W1 = wm.alloc (.cells #[.int .i64 0, .slice none 0 0] 28)) := hW1
      clear hW1
      go_wp2_with fail
      rw [← HW1.out]
      refine (HGR.out _ (HBM.out.trans (HGX.out.bel.mono HBM.out.size))).mono ?_
      rintro e w3 ⟨y, rfl, hy, hb3⟩
      obtain ⟨yo, yc, hyy, _, _⟩ := sl_open hy
      simp only [List.length_nil] at hyy
      subst hyy
      have HG3 : Hid (GwX wm 0 (.slice none 0 0) [] w3) := HGX.out.next hb3
      have HG4 : Hid (GwX wm 0 (.slice none 0 0) [] (w3.alloc (.cells #[.int .i64 0, .slice yo 0 yc] 28))) := HG3.out.next ((Below.refl _ _).alloc (Nat.le_refl _) _)
      have HY4 : Hid (Sl 0 3 (w3.alloc (.cells #[.int .i64 0, .slice yo 0 yc] 28)) (.slice yo 0 yc) (ints [])) := hy.below ((Below.refl w3.heap.size _).alloc (Nat.le_refl _) _) (Nat.le_refl _)
      clear hy hb3
      have k0 : (w3.alloc (.cells #[.int .i64 0, .slice yo 0 yc] 28)).cell? ⟨wm.heap.size, 0, none⟩ = some (.int .i64 0) := by simp [World.cell?, HG4.out.box]
      have k1 : (w3.alloc (.cells #[.int .i64 0, .slice yo 0 yc] 28)).cell? ⟨wm.heap.size, 1, none⟩ = some ((.slice none 0 0)) := by simp [World.cell?, HG4.out.box]
      go_wp2_with fail
      refine (sameG_any [] 0 E _ _ _ HY4.out HG4.out.sl (fun _ => ⟨rfl, rfl⟩)).mono ?_
      rintro e w5 ⟨rfl, hb5⟩
      have HB5 : Hid (Below w.heap.size w w5) := HBM.out.trans ((HG4.out.bel.trans (hb5.mono HG4.out.bel.size)).mono HBM.out.size)
      clear hb5 k0 k1
      go_wp2
      go_ret
      exact ⟨rfl, HB5.out⟩
    · go_wp2
      go_ret
      exact ⟨rfl, Below.refl _ _⟩

end Go.Proofs.YtomhhonigffilaaDoor
