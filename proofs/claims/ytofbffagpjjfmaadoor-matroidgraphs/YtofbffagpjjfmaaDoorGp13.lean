/- MatroidGraphs: the law. -/
import Derived.Test.YtofbffagpjjfmaaDoorGp12
import Derived.Test.YtofbffagpjjfmaaDoorHv1
namespace Go.Proofs.YtofbffagpjjfmaaDoor
open Go.RowKit
attribute [local go_sem ↓] Go.wp_at_zero Go.wp_at_succ

set_option maxRecDepth 100000 in
set_option maxHeartbeats 800000 in
theorem sameG_any (x : List Int) (N E : Int) (u v : Value) (w : World) (hu : Sl 0 3 w u (ints x)) (hv : Sl 0 3 w v (ints x)) (hE : E ≠ 0 → N = 0 ∧ x = []) :
    Calls Tryd.prog 7 #[.agg #[.int .i64 N, u], .int .i64 E, .agg #[.int .i64 N, v], .int .i64 E] w fun x w' => x = .returned (.bool true) ∧ Below w.heap.size w w' := by
  obtain ⟨uo, uc, rfl, _, _⟩ := sl_open hu
  obtain ⟨vo, vc, rfl, _, _⟩ := sl_open hv
  obtain ⟨wa, hwa⟩ : ∃ wa, wa = w.alloc (.cells #[.int .i64 N, .slice uo x.length uc] 27) := ⟨_, rfl⟩
  obtain ⟨W, hW⟩ : ∃ W, W = wa.alloc (.cells #[.int .i64 N, .slice vo x.length vc] 27) := ⟨_, rfl⟩
  have hsa : wa.heap.size = w.heap.size + 1 := by rw [hwa]; simp
  have HBA : Hid (Below w.heap.size w W) := by rw [hW, hwa]; exact ((Below.refl _ _).alloc (Nat.le_refl _) _).alloc (by simp) _
  have a0 : W.heap[w.heap.size]? = some (.cells #[.int .i64 N, .slice uo x.length uc] 27 (0, 0)) := by
    rw [hW]; exact (Below.heap_alloc _ _ _ (by omega)).trans (by rw [hwa]; exact heap_alloc_new w _)
  have a1 : W.heap[w.heap.size + 1]? = some (.cells #[.int .i64 N, .slice vo x.length vc] 27 (0, 0)) := by
    rw [hW, ← hsa]; exact heap_alloc_new wa _
  have HWW : Hid (W = (w.alloc (.cells #[.int .i64 N, .slice uo x.length uc] 27)).alloc (.cells #[.int .i64 N, .slice vo x.length vc] 27)) := by rw [hW, hwa]; rfl
  have g0 : ((w.alloc (.cells #[.int .i64 N, .slice uo x.length uc] 27)).alloc (.cells #[.int .i64 N, .slice vo x.length vc] 27)).cell? ⟨w.heap.size, 0, none⟩ = some (.int .i64 N) := by rw [← HWW.out]; simp [World.cell?, a0]
  have g1 : ((w.alloc (.cells #[.int .i64 N, .slice uo x.length uc] 27)).alloc (.cells #[.int .i64 N, .slice vo x.length vc] 27)).cell? ⟨w.heap.size, 1, none⟩ = some (.slice uo x.length uc) := by rw [← HWW.out]; simp [World.cell?, a0]
  have g2 : ((w.alloc (.cells #[.int .i64 N, .slice uo x.length uc] 27)).alloc (.cells #[.int .i64 N, .slice vo x.length vc] 27)).cell? ⟨w.heap.size + 1, 0, none⟩ = some (.int .i64 N) := by rw [← HWW.out]; simp [World.cell?, a1]
  have g3 : ((w.alloc (.cells #[.int .i64 N, .slice uo x.length uc] 27)).alloc (.cells #[.int .i64 N, .slice vo x.length vc] 27)).cell? ⟨w.heap.size + 1, 1, none⟩ = some (.slice vo x.length vc) := by rw [← HWW.out]; simp [World.cell?, a1]
  have HU : Hid (Sl 0 3 W (.slice uo x.length uc) (ints x)) := hu.below HBA.out (Nat.le_refl _)
  have HV : Hid (Sl 0 3 W (.slice vo x.length vc) (ints x)) := hv.below HBA.out (Nat.le_refl _)
  clear hu hv hW hwa hsa a0 a1
  by_cases h0 : E = 0
  · subst h0
    have hNN : (N == N) = true := by simp
    clear hE
    go_enter Tryd.func7, Tryd.ntmps7
    go_wp2_with fail
    rw [← HWW.out]
    refine (same_any 0 x x _ _ W HU.out HV.out).mono ?_
    rintro e w' ⟨rfl, n, hw'⟩
    have HBB : Hid (Below w.heap.size w w') := by rw [hw']; exact ⟨HBA.out.os, HBA.out.tape, HBA.out.output, HBA.out.size, HBA.out.block⟩
    have hxx : (x == x) = true := by simp
    rw [hxx]
    clear hw' g0 g1 g2 g3
    go_wp2
    go_ret
    exact ⟨rfl, HBB.out⟩
  · obtain ⟨hN, hx⟩ := hE h0
    subst hN hx
    have hb : (E != 0) = true := by simp [h0]
    have hbe : (E == E) = true := by simp
    have hbc := HBA.out
    rw [HWW.out] at hbc
    have HBC : Hid (Below w.heap.size w ((w.alloc (.cells #[.int .i64 0, .slice uo 0 uc] 27)).alloc (.cells #[.int .i64 0, .slice vo 0 vc] 27))) := hbc
    clear hE h0 hbc
    go_enter Tryd.func7, Tryd.ntmps7
    go_wp2
    go_ret
    exact ⟨ret_bool (by first | rfl | simp), HBC.out⟩


/-- The law's box, and the list in it. -/
structure GwX (w : World) (N : Int) (u : Value) (xs : List Int) (W : World) : Prop where
  bel : Below w.heap.size w W
  box : W.heap[w.heap.size]? = some (.cells #[.int .i64 N, u] 27 (0, 0))
  sl : Sl 0 3 W u (ints xs)

theorem GwX.lt {w : World} {N : Int} {u : Value} {xs : List Int} {W : World} (h : GwX w N u xs W) : w.heap.size < W.heap.size := (Array.getElem?_eq_some_iff.1 h.box).1

theorem GwX.next {w : World} {N : Int} {u : Value} {xs : List Int} {W W' : World} (h : GwX w N u xs W) (hb : Below W.heap.size W W') : GwX w N u xs W' :=
  ⟨h.bel.trans (hb.mono (Nat.le_of_lt h.lt)), (hb.block _ h.lt).trans h.box, h.sl.below hb (Nat.le_refl _)⟩

theorem gm_E {n : Int} {zs : List (Int × Int)} (h : gmE n zs ≠ 0) : gmN n zs = 0 ∧ gmB n zs = [] := ⟨if_neg h, if_neg h⟩

set_option maxRecDepth 100000 in
set_option maxHeartbeats 1600000 in
theorem matGraphs_any (n : Int) (zs : List (Int × Int)) (v : Value) (w : World) (hv : Pri w v zs) (hT : TabB w) :
    Calls Tryd.prog 3 #[.int .i64 n, v] w fun e w' => e = .returned (.bool true) ∧ Below w.heap.size w w' := by
  have HPV : Hid (Pri w v zs) := hv
  obtain ⟨po, pc, rfl, -⟩ := hv
  have HT0 : Hid (TabB w) := hT
  clear hT
  by_cases h100 : 100 < zs.length
  · have h1' : (100 : Int) < (zs.length : Int) := by omega
    go_enter Tryd.func3, Tryd.ntmps3
    go_wp2
    go_ret
    exact ⟨rfl, Below.refl _ _⟩
  have h1' : ¬ (100 : Int) < (zs.length : Int) := by omega
  have hl : zs.length ≤ 1000000 := by omega
  have HMAY : Hid (Calls Tryd.prog 4 #[.int .i64 n, .slice po zs.length pc] w fun e w' => e = .returned (.int .i64 (gmE n zs)) ∧ w' = w) := graphMay_any n zs _ w HPV.out hl
  obtain ⟨W1, hW1⟩ : ∃ W1, W1 = w.alloc (.cells #[.int .i64 0, .slice none 0 0] 27) := ⟨_, rfl⟩
  have HB1 : Hid (Below w.heap.size w W1) := by rw [hW1]; exact (Below.refl _ _).alloc (Nat.le_refl _) _
  have HR1 : Hid (W1.heap[w.heap.size]? = some (.cells #[.int .i64 0, .slice none 0 0] 27 (0, 0))) := by rw [hW1]; exact heap_alloc_new w _
  have HS1 : Hid (W1.heap.size = w.heap.size + 1) := by rw [hW1]; show _ = _; simp
  have HW1 : Hid (W1 = w.alloc (.cells #[.int .i64 0, .slice none 0 0] 27)) := hW1
  clear hW1
  have HGR : Hid (∀ W2, Below w.heap.size w W2 → Calls Tryd.prog 6 #[.int .i64 n, .slice po zs.length pc] W2 fun e w' => ∃ u, e = .returned (.tuple #[.agg #[.int .i64 (gmN n zs), u], .int .i64 (gmE n zs)]) ∧ Sl 0 3 w' u (ints (gmB n zs)) ∧ Below W2.heap.size W2 w') := fun W2 hb =>
    graph_any n zs _ W2 (HPV.out.below hb (Nat.le_refl _)) hl (HT0.out.below hb)
  by_cases h0 : gmE n zs = 0
  · have hn1 : 1 ≤ n ∧ n ≤ 7 ∧ zs.length ≤ 8 ∧ zs.all (edB n) = true := by
      unfold gmE at h0
      by_cases c : n < 1 ∨ 7 < n ∨ 8 < zs.length
      · rw [if_pos c] at h0; cases h0
      · rw [if_neg c] at h0
        refine ⟨by omega, by omega, by omega, ?_⟩
        by_cases c2 : zs.all (edB n) = true
        · exact c2
        · rw [if_neg c2] at h0; cases h0
    obtain ⟨hn1, hn7, hz8, hall⟩ := hn1
    obtain ⟨nn, rfl⟩ : ∃ nn : Nat, n = (nn : Int) := ⟨n.toNat, by omega⟩
    have hln : (ntE zs).length = zs.length := by simp [ntE]
    have HGN : Hid (gmN nn zs = zs.length) := by show _ = _; unfold gmN; rw [h0, if_pos rfl]
    have HGO : Hid (Calls Tryd.prog 5 #[.int .i64 nn, .slice po zs.length pc] W1 fun e w' => ∃ u, e = .returned (.agg #[.int .i64 (gmN nn zs), u]) ∧ Sl 0 3 w' u (ints (gmB nn zs)) ∧ Below W1.heap.size W1 w') := by
      have h := graphOf_is nn (ntE zs) (.slice po zs.length pc) W1 ((HPV.out.below HB1.out (Nat.le_refl _)).eds hall) (ntE_lt hall) (by rw [hln]; exact hz8) (by omega)
      rw [hln] at h
      rw [HGN.out]
      have e2 : gmB nn zs = grB (ntE zs) := if_pos h0
      rw [e2]
      exact h
    have HG0 : Hid (gmE nn zs = 0) := h0
    rw [h0] at HMAY HGR
    generalize gmN nn zs = M at *
    generalize gmB nn zs = bs at *
    clear h0 hall hln HGN hn1 hn7 hz8
    have HEE : Hid ((0 : Int) ≠ 0 → M = 0 ∧ bs = []) := fun h => absurd rfl h
    go_enter Tryd.func3, Tryd.ntmps3
    go_wp2_with fail
    refine HMAY.out.mono ?_
    rintro e w' ⟨rfl, hw⟩
    obtain rfl := hw.symm
    go_wp2_with fail
    rw [← HW1.out]
    refine HGO.out.mono ?_
    rintro e w2 ⟨u, rfl, hu, hb2⟩
    obtain ⟨uo, uc, huu, _, _⟩ := sl_open hu
    subst huu
    have HR2' : Hid (w2.heap[w.heap.size]? = some (.cells #[.int .i64 0, .slice none 0 0] 27 (0, 0))) := (hb2.block _ (by rw [HS1.out]; omega)).trans HR1.out
    have y0 : w2.cell? ⟨w.heap.size, 0, none⟩ = some (.int .i64 0) := by simp [World.cell?, HR2'.out]
    have y1 : w2.cell? ⟨w.heap.size, 1, none⟩ = some (.slice none 0 0) := by simp [World.cell?, HR2'.out]
    have z0 : w2.frozen? ⟨w.heap.size, 0, none⟩ = false := by simp [World.frozen?, HR2'.out]
    have z1 : w2.frozen? ⟨w.heap.size, 1, none⟩ = false := by simp [World.frozen?, HR2'.out]
    obtain ⟨W2, hW2⟩ : ∃ W2, W2 = (w2.setCell ⟨w.heap.size, 0, none⟩ (.int .i64 M)).setCell ⟨w.heap.size, 1, none⟩ (.slice uo bs.length uc) := ⟨_, rfl⟩
    have HB2 : Hid (Below w.heap.size w W2) := by
      rw [hW2]
      exact ((HB1.out.trans (hb2.mono HB1.out.size)).setCell (Nat.le_refl _) _).setCell (Nat.le_refl _) _
    have HR2 : Hid (W2.heap[w.heap.size]? = some (.cells #[.int .i64 M, .slice uo bs.length uc] 27 (0, 0))) := by
      rw [hW2]
      simp [World.setCell, Array.getElem?_modify, HR2'.out]
      try trivial
    have HSU : Hid (Sl 0 3 W2 (.slice uo bs.length uc) (ints bs)) := by
      rw [hW2]
      refine Sl.move hu fun b hl ht => ?_
      have hne : b ≠ w.heap.size := fun e => by
        rcases ht with ht | ⟨cur, ht⟩
        · omega
        · rw [e, HR2'.out] at ht
          cases ht
      exact ⟨(Below.heap_setCell _ _ _ _ hne).trans (Below.heap_setCell _ _ _ _ hne), ht⟩
    have HW2 : Hid (W2 = (w2.setCell ⟨w.heap.size, 0, none⟩ (.int .i64 M)).setCell ⟨w.heap.size, 1, none⟩ (.slice uo bs.length uc)) := hW2
    clear hW2 hu hb2
    go_wp2_with fail
    rw [← HW2.out]
    clear HW2 y0 y1 z0 z1
    have HGX : Hid (GwX w M (.slice uo bs.length uc) bs W2) := ⟨HB2.out, HR2.out, HSU.out⟩
    refine (HGR.out _ HGX.out.bel).mono ?_
    rintro e w3 ⟨y, rfl, hy, hb3⟩
    obtain ⟨yo, yc, hyy, _, _⟩ := sl_open hy
    subst hyy
    have HG3 : Hid (GwX w M (.slice uo bs.length uc) bs w3) := HGX.out.next hb3
    have HG4 : Hid (GwX w M (.slice uo bs.length uc) bs (w3.alloc (.cells #[.int .i64 M, .slice yo bs.length yc] 27))) := HG3.out.next ((Below.refl _ _).alloc (Nat.le_refl _) _)
    have HY4 : Hid (Sl 0 3 (w3.alloc (.cells #[.int .i64 M, .slice yo bs.length yc] 27)) (.slice yo bs.length yc) (ints bs)) := hy.below ((Below.refl w3.heap.size _).alloc (Nat.le_refl _) _) (Nat.le_refl _)
    clear hy hb3
    have k0 : (w3.alloc (.cells #[.int .i64 M, .slice yo bs.length yc] 27)).cell? ⟨w.heap.size, 0, none⟩ = some (.int .i64 M) := by simp [World.cell?, HG4.out.box]
    have k1 : (w3.alloc (.cells #[.int .i64 M, .slice yo bs.length yc] 27)).cell? ⟨w.heap.size, 1, none⟩ = some (.slice uo bs.length uc) := by simp [World.cell?, HG4.out.box]
    go_wp2_with fail
    refine (sameG_any bs M 0 _ _ _ HY4.out HG4.out.sl HEE.out).mono ?_
    rintro e w5 ⟨rfl, hb5⟩
    have HB5 : Hid (Below w.heap.size w w5) := HG4.out.bel.trans (hb5.mono HG4.out.bel.size)
    clear hb5 k0 k1
    go_wp2
    go_ret
    exact ⟨rfl, HB5.out⟩
  · obtain ⟨hM, hB⟩ := gm_E h0
    rw [hM, hB] at HGR
    have hq : (gmE n zs == 0) = false := by simpa using h0
    clear hM hB h0
    generalize gmE n zs = E at *
    go_enter Tryd.func3, Tryd.ntmps3
    go_wp2_with fail
    refine HMAY.out.mono ?_
    rintro e w' ⟨rfl, hw⟩
    obtain rfl := hw.symm
    go_wp2_with fail
    rw [← HW1.out]
    have HGX : Hid (GwX w 0 (.slice none 0 0) [] W1) := ⟨HB1.out, HR1.out, Sl.nil _ _ _⟩
    refine (HGR.out _ HGX.out.bel).mono ?_
    rintro e w3 ⟨y, rfl, hy, hb3⟩
    obtain ⟨yo, yc, hyy, _, _⟩ := sl_open hy
    simp only [List.length_nil] at hyy
    subst hyy
    have HG3 : Hid (GwX w 0 (.slice none 0 0) [] w3) := HGX.out.next hb3
    have HG4 : Hid (GwX w 0 (.slice none 0 0) [] (w3.alloc (.cells #[.int .i64 0, .slice yo 0 yc] 27))) := HG3.out.next ((Below.refl _ _).alloc (Nat.le_refl _) _)
    have HY4 : Hid (Sl 0 3 (w3.alloc (.cells #[.int .i64 0, .slice yo 0 yc] 27)) (.slice yo 0 yc) (ints [])) := hy.below ((Below.refl w3.heap.size _).alloc (Nat.le_refl _) _) (Nat.le_refl _)
    clear hy hb3
    have k0 : (w3.alloc (.cells #[.int .i64 0, .slice yo 0 yc] 27)).cell? ⟨w.heap.size, 0, none⟩ = some (.int .i64 0) := by simp [World.cell?, HG4.out.box]
    have k1 : (w3.alloc (.cells #[.int .i64 0, .slice yo 0 yc] 27)).cell? ⟨w.heap.size, 1, none⟩ = some (.slice none 0 0) := by simp [World.cell?, HG4.out.box]
    go_wp2_with fail
    refine (sameG_any [] 0 E _ _ _ HY4.out HG4.out.sl (fun _ => ⟨rfl, rfl⟩)).mono ?_
    rintro e w5 ⟨rfl, hb5⟩
    have HB5 : Hid (Below w.heap.size w w5) := HG4.out.bel.trans (hb5.mono HG4.out.bel.size)
    clear hb5 k0 k1
    go_wp2
    go_ret
    exact ⟨rfl, HB5.out⟩

end Go.Proofs.YtofbffagpjjfmaaDoor
