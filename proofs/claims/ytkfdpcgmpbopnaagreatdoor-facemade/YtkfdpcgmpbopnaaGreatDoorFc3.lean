/- Sets of at most ten corners; the rank of no rows; face.dimension. -/
import Derived.Test.YtkfdpcgmpbopnaaGreatDoorFc2
import Derived.Test.YtkfdpcgmpbopnaaGreatDoorRun10
import Derived.Test.YtkfdpcgmpbopnaaGreatDoorRa1
namespace Go.Proofs.YtkfdpcgmpbopnaaGreatDoor
open Go.RowKit Lin
attribute [local go_sem ↓] Go.wp_at_zero Go.wp_at_succ

set_option maxRecDepth 100000 in
theorem setN_mem10 : ∀ s, s < 1024 → setN (memTo s 10) = s := by decide +kernel

theorem mem10_L {s : Nat} (h : s < 1024) : memTo s 10 = memL s := memL_top (s := s) (i := 10) h (by omega)

theorem memL_b64 (s : Nat) : B64 (memL s) := fun x hx => by
  unfold memL memTo at hx
  simp only [List.mem_map, List.mem_filter, List.mem_range] at hx
  obtain ⟨i, ⟨h1, _⟩, rfl⟩ := hx
  omega

theorem memL_ris (s : Nat) : Ris (memL s) := by
  unfold memL memTo Ris
  rw [List.pairwise_map]
  refine List.Pairwise.filter _ ?_
  exact (List.pairwise_lt_range (n := 64)).imp (fun h => by omega)

set_option maxRecDepth 100000 in
theorem ones10_any (x : Nat) (hx : x < 1024) (w : World) :
    Calls Tryz.prog 80 #[.int .u64 x] w fun e w' => e = .returned (.int .i64 (memTo x 10).length) ∧ w' = w := by
  go_enter Tryz.func80, Tryz.ntmps80
  go_wp2
  go_ret
  refine ⟨ret_int ?_, rfl⟩
  clear w
  revert x
  decide +kernel

set_option maxRecDepth 100000 in
theorem len10_any (x : Nat) (hx : x < 1024) (w : World) :
    Calls Tryz.prog 57 #[.int .u64 x] w fun e w' => e = .returned (.int .i64 (memL x).length) ∧ w' = w := by
  have HO : Hid (Calls Tryz.prog 80 #[.int .u64 x] w fun e w' => e = .returned (.int .i64 (memL x).length) ∧ w' = w) := by
    have h := ones10_any x hx w
    rw [mem10_L hx] at h
    exact h
  go_enter Tryz.func57, Tryz.ntmps57
  go_wp2_with fail
  refine HO.out.mono ?_
  rintro e w' ⟨rfl, rfl⟩
  go_wp2
  go_ret
  exact ⟨rfl, rfl⟩

theorem list10_any (x : Nat) (hx : x < 1024) (w : World) (hT : TabB w) :
    Calls Tryz.prog 53 #[.int .u64 x] w fun e w' => ∃ u, e = .returned u ∧ w'.ownsRow w.heap.size 3 1 u (memL x).length (ints (memL x)) ∧ Below w.heap.size w w' := by
  have h := list_any (memL x) w (memL_b64 x) (memL_ris x) hT (by have := memL_len (s := x) (n := 10) hx (by omega); omega)
  have e : setN (memL x) = x := by rw [← mem10_L hx]; exact setN_mem10 x hx
  rw [e] at h
  exact h

set_option maxRecDepth 100000 in
set_option maxHeartbeats 800000 in
theorem rankF_any (B c : Nat) (m : List (List Int)) (v : Value) (w : World) (hx : Mx c 60 m) (hv : Mat B 22 3 w v m) (hm : m.length ≤ 500) :
    Calls Tryz.prog 71 #[v, .int .i64 c] w fun e w' => e = .returned (.int .i64 ((pickL c m).length : Nat)) ∧ Below w.heap.size w w' := by
  obtain ⟨ao, cap, hvv, hlc, hcm⟩ := mat_open hv
  subst hvv
  have hc5 := hx.c5
  have hc1 := hx.c1
  have HR : Hid (Calls Tryz.prog 90 #[.slice ao m.length cap, .int .i64 c] w fun e w' => ∃ ro rc po pc val sgn, e = .returned (.agg #[.slice ro m.length rc, .slice po (pickL c m).length pc, .int .i64 val, .int .i64 sgn]) ∧ Below w.heap.size w w') := by
    refine (reduce_any0 B c m _ w hv hm hc1 (by omega) hx.row (bd60 hx)).mono ?_
    rintro e w' ⟨M', C, k, sgn, hr, rv, pv, rfl, h1, h2, h3⟩
    obtain ⟨ro, rc, e1, _, _⟩ := mat_open h1
    obtain ⟨po, pc, e2, _, _⟩ := sl_open h2
    have hk := red_rank hr
    simp only [List.length_map, List.length_range, rowsOf] at e1 e2
    rw [hk] at e2
    exact ⟨ro, rc, po, pc, _, _, by rw [e1, e2], h3⟩
  clear hv
  go_enter Tryz.func71, Tryz.ntmps71
  go_wp2_with fail
  refine (HR.out).mono ?_
  rintro e w2 ⟨ro, rc, po, pc, val, sgn, rfl, hb⟩
  have HB : Hid (Below w.heap.size w w2) := hb
  clear hb
  have hfl := field1 (.slice ro m.length rc) (.slice po (pickL c m).length pc) (.int .i64 val) (.int .i64 sgn) w2
  go_wp2
  go_ret
  exact ⟨rfl, HB.out⟩

set_option maxRecDepth 100000 in
set_option maxHeartbeats 1600000 in
theorem dimF_any (d : Nat) (C : List (List Int)) (co : Option Addr) (cc : Nat) (rv sv : Value) (x : Nat) (w : World) (hC : Mat w.heap.size 22 3 w (.slice co C.length cc) C) (hbx : Box d 30 C) (h1 : 1 ≤ d) (h4 : d ≤ 4) (hn : C.length ≤ 10) (hx : x < 2 ^ C.length) (hT : TabB w) :
    Calls Tryz.prog 51 #[.agg #[.int .i64 d, .slice co C.length cc, rv, sv], .int .u64 x] w fun e w' => e = .returned (.int .i64 (dimL d C x)) ∧ Below w.heap.size w w' := by
  have hx10 : x < 1024 := Nat.lt_of_lt_of_le hx (Nat.le_trans (Nat.pow_le_pow_right (by decide) hn) (by decide))
  obtain ⟨W, hW⟩ : ∃ W, W = w.alloc (.cells #[.int .i64 d, .slice co C.length cc, rv, sv] 60) := ⟨_, rfl⟩
  have hbw : Below w.heap.size w W := by rw [hW]; exact alloc_keep _ _
  have hsW : W.heap.size = w.heap.size + 1 := by rw [hW]; exact size_alloc _ _
  have hb0 : W.heap[w.heap.size]? = some (.cells #[.int .i64 d, .slice co C.length cc, rv, sv] 60 (0, 0)) := by rw [hW]; exact alloc_at _ _
  have HS : Hid (∀ X, Below W.heap.size W X → X.cell? ⟨w.heap.size, 0, none⟩ = some (.int .i64 d) ∧ X.cell? ⟨w.heap.size, 1, none⟩ = some (.slice co C.length cc)) := fun X hX => by
    have h0 := (hX.block w.heap.size (by omega)).trans hb0
    exact ⟨by simp [World.cell?, h0], by simp [World.cell?, h0]⟩
  have HW : Hid (Below w.heap.size w W) := hbw
  have HMC : Hid (∀ X, Below W.heap.size W X → Mat X.heap.size 22 3 X (.slice co C.length cc) C) := fun X hX => (((hC.below hbw (Nat.le_refl _)).any (Nat.le_refl _)).below hX (Nat.le_refl _)).any (Nat.le_refl _)
  have HTB : Hid (∀ X, Below W.heap.size W X → TabB X) := fun X hX => (hT.below hbw).below hX
  have HLB : Hid (∀ z ∈ memL x, 0 ≤ z ∧ z < (C.length : Int)) := memL_bd hx (by omega)
  have HLN : Hid ((memL x).length ≤ 10) := Nat.le_trans (memL_len hx (by omega)) hn
  have HDL : Hid (dimL d C x = if memL x = [] then (-1 : Int) else (((pickL d (diffL (pks C [] (memL x)))).length : Nat) : Int)) := rfl
  have HLEN : Hid (Calls Tryz.prog 57 #[.int .u64 x] W fun e w' => e = .returned (.int .i64 (memL x).length) ∧ w' = W) := len10_any x hx10 W
  have HLI : Hid (∀ X, Below W.heap.size W X → Calls Tryz.prog 53 #[.int .u64 x] X fun e w' => ∃ uo uc, e = .returned (.slice uo (memL x).length uc) ∧ Sl w'.heap.size 3 w' (.slice uo (memL x).length uc) (ints (memL x)) ∧ Below W.heap.size W w') := fun X hX => by
    refine (list10_any x hx10 X (HTB.out X hX)).mono ?_
    rintro e w' ⟨u, rfl, h1, h2⟩
    obtain ⟨uo, uc, rfl⟩ := owns_form h1
    exact ⟨uo, uc, rfl, Sl.own h1, hX.trans (h2.mono hX.size)⟩
  have HBX : Hid (Box d 30 C) := hbx
  clear hC hT hbw hb0 hx hx10
  generalize memL x = l at *
  have HPK : Hid (∀ X uo uc, Below W.heap.size W X → Sl X.heap.size 3 X (.slice uo l.length uc) (ints l) → Calls Tryz.prog 73 #[.slice co C.length cc, .slice uo l.length uc] X fun e w' => ∃ zo zc, e = .returned (.slice zo l.length zc) ∧ Mat w'.heap.size 22 3 w' (.slice zo l.length zc) (pks C [] l) ∧ Below W.heap.size W w') := fun X uo uc hX hl => by
    refine (pickedP_any X.heap.size C l _ _ X (HMC.out X hX) hl (fun i hi => HLB.out _ (getD_mem hi)) (by have := HLN.out; omega)).mono ?_
    rintro e w' ⟨z, rfl, hz, hb⟩
    have hm : Mat w'.heap.size 22 3 w' z (pks C [] l) := (hz.mat (Nat.le_refl _)).any (Nat.le_refl _)
    obtain ⟨zo, zc, rfl, _, _⟩ := mat_open hm
    have e : (pks C [] l).length = l.length := by simp [pks]
    rw [e] at hm ⊢
    exact ⟨zo, zc, rfl, hm, hX.trans (hb.mono hX.size)⟩
  have hpbox : Box d 30 (pks C [] l) := fun y hy => by
    simp only [pks, List.mem_map] at hy
    obtain ⟨z, hz, rfl⟩ := hy
    have := HLB.out z hz
    exact HBX.out _ (by simp [show z.toNat < C.length by omega])
  have HDF : Hid (∀ X zo zc, 1 ≤ l.length → Below W.heap.size W X → Mat X.heap.size 22 3 X (.slice zo l.length zc) (pks C [] l) → Calls Tryz.prog 72 #[.slice zo l.length zc] X fun e w' => ∃ yo yl yc, e = .returned (.slice yo yl yc) ∧ Mat w'.heap.size 22 3 w' (.slice yo yl yc) (diffL (pks C [] l)) ∧ Below W.heap.size W w') := fun X zo zc h0 hX hm => by
    refine (differences_any X.heap.size d (pks C [] l) _ X hm (by simp [pks]; omega) (by simp [pks]; have := HLN.out; omega) h1 (by omega) (fun r hr => (hpbox r hr).1) (fun r hr z hz => by have := (hpbox r hr).2 z hz; omega)).mono ?_
    rintro e w' ⟨z, rfl, hz, hb⟩
    have hm2 : Mat w'.heap.size 22 3 w' z (diffL (pks C [] l)) := hz.mat hb.size
    obtain ⟨yo, yc, rfl, _, _⟩ := mat_open hm2
    exact ⟨yo, _, yc, rfl, hm2, hX.trans (hb.mono hX.size)⟩
  have HRK : Hid (∀ X yo yl yc, Below W.heap.size W X → Mat X.heap.size 22 3 X (.slice yo yl yc) (diffL (pks C [] l)) → Calls Tryz.prog 71 #[.slice yo yl yc, .int .i64 d] X fun e w' => e = .returned (.int .i64 ((pickL d (diffL (pks C [] l))).length : Nat)) ∧ Below W.heap.size W w') := fun X yo yl yc hX hm => by
    refine (rankF_any X.heap.size d _ _ X (diff_mx hpbox h1 (by omega)) hm (by rw [diffL_length]; simp [pks]; have := HLN.out; omega)).mono ?_
    rintro e w' ⟨rfl, hb⟩
    exact ⟨rfl, hX.trans (hb.mono hX.size)⟩
  generalize dimL d C x = D at *
  generalize hpk : (pickL d (diffL (pks C [] l))).length = pk at *
  clear hpbox hpk
  go_enter Tryz.func51, Tryz.ntmps51
  go_upto_region 1 with fail
  rw [← hW]
  clear hW
  go_wp2_with fail
  refine HLEN.out.mono ?_
  rintro e w1 ⟨rfl, rfl⟩
  clear HLEN
  by_cases hl0 : l = []
  · subst hl0
    rw [if_pos rfl] at HDL
    have HD1 : Hid (D = -1) := HDL.out
    clear HDL
    go_wp2
    go_ret
    exact ⟨by rw [HD1.out]; rfl, HW.out⟩
  · rw [if_neg hl0] at HDL
    have HD1 : Hid (D = (pk : Int)) := HDL.out
    have hlp : 0 < l.length := List.length_pos_iff.2 hl0
    have HLP : Hid (1 ≤ l.length) := hlp
    have tl : ((l.length : Int) == 0) = false := by simp; omega
    obtain ⟨ll, hll⟩ : ∃ ll, ll = l.length := ⟨_, rfl⟩
    rw [← hll] at HLI HPK HDF tl HLP ⊢
    clear hl0 hlp HDL hll
    go_upto_region 3 with fail
    have hs1 := HS.out w1 (Below.refl _ _)
    refine wp_region_held_drew (S := fun w' => w'.cell? ⟨w.heap.size, 0, none⟩ = some (.int .i64 d) ∧ w'.cell? ⟨w.heap.size, 1, none⟩ = some (.slice co C.length cc)) (by kernel_rfl) hs1 (fun hHeld => ?_)
    refine wpAnyH_tk (i := 0) (d := 8) (v := (.pointer (some ⟨w.heap.size, 1, none⟩))) rfl rfl (by kernel_rfl) (by kernel_rfl) (by kernel_rfl) (fun _ _ _ h => h) (.inl ⟨by rfl, by (intro wq hSw; (try dsimp only at hSw); go_simp; (try (first | rfl | omega)))⟩) hHeld ?_
    simp only [Act.put, List.setIfInBounds_toArray, List.set_cons_zero, List.set_cons_succ]
    refine wpAnyH_tk (i := 1) (d := 9) (v := (.slice co C.length cc)) rfl rfl (by kernel_rfl) (by kernel_rfl) (by kernel_rfl) (fun _ _ _ h => h) (.inl ⟨by rfl, by (intro wq hSw; (try dsimp only at hSw); go_simp; (try (first | rfl | omega)))⟩) hHeld ?_
    simp only [Act.put, List.setIfInBounds_toArray, List.set_cons_zero, List.set_cons_succ]
    refine wpAnyH_tk (i := 2) (d := 10) (v := (.int .u64 x)) rfl rfl (by kernel_rfl) (by kernel_rfl) (by kernel_rfl) (fun _ _ _ h => h) (.inl ⟨by rfl, by (intro wq hSw; (try dsimp only at hSw); go_simp; (try (first | rfl | omega)))⟩) hHeld ?_
    simp only [Act.put, List.setIfInBounds_toArray, List.set_cons_zero, List.set_cons_succ]
    refine wpAnyH_tk (i := 6) (d := 14) (v := (.pointer (some ⟨w.heap.size, 0, none⟩))) rfl rfl (by kernel_rfl) (by kernel_rfl) (by kernel_rfl) (fun _ _ _ h => h) (.inl ⟨by rfl, by (intro wq hSw; (try dsimp only at hSw); go_simp; (try (first | rfl | omega)))⟩) hHeld ?_
    simp only [Act.put, List.setIfInBounds_toArray, List.set_cons_zero, List.set_cons_succ]
    refine wpAnyH_tk (i := 7) (d := 15) (v := (.int .i64 d)) rfl rfl (by kernel_rfl) (by kernel_rfl) (by kernel_rfl) (fun _ _ _ h => h) (.inl ⟨by rfl, by (intro wq hSw; (try dsimp only at hSw); go_simp; (try (first | rfl | omega)))⟩) hHeld ?_
    simp only [Act.put, List.setIfInBounds_toArray, List.set_cons_zero, List.set_cons_succ]
    refine wpAnyH_ready (rs := [3]) (by kernel_rfl) (by simp) ?_
    refine ready_tk (i := 3) rfl (by rfl) (fun K hK => ?_) AllReadyH.nil
    go_simp
    refine (HLI.out _ (Below.drew (Below.refl w1.heap.size w1))).mono ?_
    rintro e w3 ⟨uo, uc, rfl, hu3, hb3⟩
    have HU3 : Hid (Sl w3.heap.size 3 w3 (.slice uo ll uc) (ints l)) := hu3
    have HB3 : Hid (Below w1.heap.size w1 w3) := hb3
    clear hu3 hb3
    refine hK.out _ _ (HS.out w3 HB3.out) (fun hHeld => ?_)
    clear hK K
    refine wpAnyH_ready (rs := [4]) (by kernel_rfl) (by simp) ?_
    refine ready_tk (i := 4) rfl (by rfl) (fun K hK => ?_) AllReadyH.nil
    go_simp
    refine (HPK.out w3 uo uc HB3.out HU3.out).mono ?_
    rintro e w4 ⟨zo, zc, rfl, hu4, hb4⟩
    have HU4 : Hid (Mat w4.heap.size 22 3 w4 (.slice zo ll zc) (pks C [] l)) := hu4
    have HB4 : Hid (Below w1.heap.size w1 w4) := hb4
    clear hu4 hb4
    refine hK.out _ _ (HS.out w4 HB4.out) (fun hHeld => ?_)
    clear hK K
    refine wpAnyH_ready (rs := [5]) (by kernel_rfl) (by simp) ?_
    refine ready_tk (i := 5) rfl (by rfl) (fun K hK => ?_) AllReadyH.nil
    go_simp
    refine (HDF.out w4 zo zc HLP.out HB4.out HU4.out).mono ?_
    rintro e w5 ⟨yo, yl, yc, rfl, hu5, hb5⟩
    have HU5 : Hid (Mat w5.heap.size 22 3 w5 (.slice yo yl yc) (diffL (pks C [] l))) := hu5
    have HB5 : Hid (Below w1.heap.size w1 w5) := hb5
    clear hu5 hb5
    refine hK.out _ _ (HS.out w5 HB5.out) (fun hHeld => ?_)
    clear hK K
    refine wpAnyH_ready (rs := [8]) (by kernel_rfl) (by simp) ?_
    refine ready_tk (i := 8) rfl (by rfl) (fun K hK => ?_) AllReadyH.nil
    go_simp
    refine (HRK.out w5 yo yl yc HB5.out HU5.out).mono ?_
    rintro e w6 ⟨rfl, hb6⟩
    have HB6 : Hid (Below w1.heap.size w1 w6) := hb6
    clear hb6
    refine hK.out _ _ (HS.out w6 HB6.out) (fun hHeld => ?_)
    clear hK K
    refine wpAnyH_tk (i := 9) (d := 4) (v := (.int .i64 pk)) rfl rfl (by kernel_rfl) (by kernel_rfl) (by kernel_rfl) (fun _ _ _ h => h) (.inl ⟨by rfl, by (intro wq hSw; (try dsimp only at hSw); go_simp; (try (first | rfl | omega)))⟩) hHeld ?_
    simp only [Act.put, List.setIfInBounds_toArray, List.set_cons_zero, List.set_cons_succ]
    refine wpAnyH_done (by kernel_rfl) ?_ _
    clear hHeld
    go_wp2
    go_ret
    exact ⟨by rw [HD1.out]; rfl, HW.out.trans (HB6.out.mono HW.out.size)⟩

end Go.Proofs.YtkfdpcgmpbopnaaGreatDoor
